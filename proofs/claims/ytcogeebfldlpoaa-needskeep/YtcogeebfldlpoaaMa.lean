/-
  Sets of texts, in plain lists: sorted, each once; nothing of a program.
-/
import Derived.Lib.SlicesCompact
set_option linter.unusedSimpArgs false
set_option linter.unusedVariables false
namespace Go.Proofs.Ytcogeebfldlpoaa
open Go.Lib

theorem u8_tri (a b : UInt8) : a < b ∨ a = b ∨ b < a := by
  have h1 : a < b ↔ a.toNat < b.toNat := UInt8.lt_iff_toNat_lt
  have h2 : b < a ↔ b.toNat < a.toNat := UInt8.lt_iff_toNat_lt
  rw [h1, h2]
  rcases Nat.lt_trichotomy a.toNat b.toNat with h | h | h
  · exact .inl h
  · exact .inr (.inl (UInt8.toNat_inj.1 h))
  · exact .inr (.inr h)

theorem txt_lt_trans {a b c : List UInt8} (h : a < b) (k : b < c) : a < c := List.lt_trans h k
theorem txt_le_trans {a b c : List UInt8} (h : a ≤ b) (k : b ≤ c) : a ≤ c := List.le_trans h k
theorem txt_le_total (a b : List UInt8) : a ≤ b ∨ b ≤ a := List.le_total a b
theorem txt_lt_irrefl (a : List UInt8) : ¬ a < a := List.lt_irrefl a
theorem txt_lt_or_eq {a b : List UInt8} (h : a ≤ b) : a < b ∨ a = b := (List.le_iff_lt_or_eq).1 h
theorem txt_not_le {a b : List UInt8} : ¬ a ≤ b ↔ b < a := List.not_le
theorem txt_lt_of_le_of_lt {a b c : List UInt8} (h : a ≤ b) (k : b < c) : a < c := List.lt_of_le_of_lt h k
theorem txt_le_of_lt {a b : List UInt8} (h : a < b) : a ≤ b := List.le_of_lt h
theorem txt_tri (a b : List UInt8) : a < b ∨ a = b ∨ b < a := by
  rcases txt_le_total a b with h | h
  · rcases txt_lt_or_eq h with h | h
    · exact .inl h
    · exact .inr (.inl h)
  · rcases txt_lt_or_eq h with h | h
    · exact .inr (.inr h)
    · exact .inr (.inl h.symm)
theorem txt_asymm {a b : List UInt8} (h : a < b) : ¬ b < a := fun k => txt_lt_irrefl a (txt_lt_trans h k)

/-- The set of some texts: rising, each once. -/
def setL (l : List (List UInt8)) : List (List UInt8) := Lib.compact (l.mergeSort fun x y => decide (x ≤ y))

theorem sorted_le (l : List (List UInt8)) : (l.mergeSort fun x y => decide (x ≤ y)).Pairwise (· ≤ ·) := by
  have h := List.pairwise_mergeSort (le := fun (x y : List UInt8) => decide (x ≤ y)) (fun a b c h k => by simp only [decide_eq_true_eq] at *; exact txt_le_trans h k) (fun a b => by simp only [Bool.or_eq_true, decide_eq_true_eq]; exact txt_le_total a b) l
  exact h.imp (fun h => by simpa using h)

theorem up_spec (d : Array (List UInt8)) (hd : ∀ i j, i < j → j < d.size → d[i]! ≤ d[j]!) : ∀ m, m ≤ d.size → (compactUpTo d m).Pairwise (· < ·) ∧ (∀ x, x ∈ compactUpTo d m ↔ ∃ i, i < m ∧ d[i]! = x) := by
  intro m
  induction m with
  | zero => intro _; exact ⟨by simp [compactUpTo], fun x => by simp [compactUpTo]⟩
  | succ m ih =>
    intro hm
    obtain ⟨h1, h2⟩ := ih (by omega)
    rw [compactUpTo_succ]
    by_cases hk : keeps d m = true
    · rw [if_pos hk]
      have hlt : ∀ x ∈ compactUpTo d m, x < d[m]! := by
        intro x hx
        obtain ⟨i, hi, rfl⟩ := (h2 x).1 hx
        have hm0 : m ≠ 0 := by omega
        have hne : d[m]! ≠ d[m - 1]! := by
          unfold keeps at hk
          simpa [hm0] using hk
        have a1 : d[i]! ≤ d[m - 1]! := by
          by_cases e : i = m - 1
          · rw [e]; exact List.le_refl _
          · exact hd i (m - 1) (by omega) (by omega)
        have a2 : d[m - 1]! < d[m]! := by
          rcases txt_lt_or_eq (hd (m - 1) m (by omega) (by omega)) with h | h
          · exact h
          · exact absurd h.symm hne
        exact txt_lt_of_le_of_lt a1 a2
      refine ⟨?_, fun x => ?_⟩
      · rw [List.pairwise_append]
        exact ⟨h1, by simp, fun a ha b hb => by rw [List.mem_singleton.1 hb]; exact hlt a ha⟩
      · rw [List.mem_append, List.mem_singleton, h2]
        constructor
        · rintro (⟨i, hi, e⟩ | rfl)
          · exact ⟨i, by omega, e⟩
          · exact ⟨m, by omega, rfl⟩
        · rintro ⟨i, hi, e⟩
          by_cases him : i = m
          · exact .inr (by rw [← e, him])
          · exact .inl ⟨i, by omega, e⟩
    · rw [if_neg hk, List.append_nil]
      refine ⟨h1, fun x => ?_⟩
      rw [h2]
      have hm0 : m ≠ 0 := fun e => hk (by rw [e]; simp [keeps])
      have heq : d[m]! = d[m - 1]! := by
        refine Classical.byContradiction fun h => hk ?_
        unfold keeps
        simp [h]
      constructor
      · rintro ⟨i, hi, e⟩; exact ⟨i, by omega, e⟩
      · rintro ⟨i, hi, e⟩
        by_cases him : i = m
        · exact ⟨m - 1, by omega, by rw [← e, him, heq]⟩
        · exact ⟨i, by omega, e⟩

theorem compact_spec (zs : List (List UInt8)) (h : zs.Pairwise (· ≤ ·)) : (Lib.compact zs).Pairwise (· < ·) ∧ ∀ x, x ∈ Lib.compact zs ↔ x ∈ zs := by
  have hz : ∀ i j, i < j → j < zs.toArray.size → zs.toArray[i]! ≤ zs.toArray[j]! := by
    intro i j hi hj
    have hj' : j < zs.length := by simpa using hj
    rw [getElem!_pos zs.toArray i (by simp; omega), getElem!_pos zs.toArray j hj]
    exact List.pairwise_iff_getElem.1 h i j (by omega) hj' hi
  obtain ⟨h1, h2⟩ := up_spec zs.toArray hz zs.length (by simp)
  refine ⟨h1, fun x => ?_⟩
  show x ∈ compactUpTo zs.toArray zs.length ↔ _
  rw [h2]
  constructor
  · rintro ⟨i, hi, e⟩
    rw [← e, getElem!_pos zs.toArray i (by simpa using hi)]
    simp
  · intro hx
    obtain ⟨i, hi, e⟩ := List.getElem_of_mem hx
    exact ⟨i, hi, by rw [getElem!_pos zs.toArray i (by simpa using hi)]; simpa using e⟩

theorem setL_lt (l : List (List UInt8)) : (setL l).Pairwise (· < ·) := (compact_spec _ (sorted_le l)).1
theorem setL_mem (l : List (List UInt8)) (x : List UInt8) : x ∈ setL l ↔ x ∈ l := by
  rw [setL, (compact_spec _ (sorted_le l)).2, List.mem_mergeSort]

theorem rising_eq : ∀ {a b : List (List UInt8)}, a.Pairwise (· < ·) → b.Pairwise (· < ·) → (∀ x, x ∈ a ↔ x ∈ b) → a = b
  | [], [], _, _, _ => rfl
  | [], y :: b, _, _, h => absurd ((h y).2 (by simp)) (by simp)
  | x :: a, [], _, _, h => absurd ((h x).1 (by simp)) (by simp)
  | x :: a, y :: b, ha, hb, h => by
    obtain ⟨ha1, ha2⟩ := List.pairwise_cons.1 ha
    obtain ⟨hb1, hb2⟩ := List.pairwise_cons.1 hb
    have hxy : x = y := by
      rcases List.mem_cons.1 ((h x).1 (by simp)) with e | e
      · exact e
      · rcases List.mem_cons.1 ((h y).2 (by simp)) with f | f
        · exact f.symm
        · exact absurd (hb1 x e) (txt_asymm (ha1 y f))
    subst hxy
    have : a = b := by
      refine rising_eq ha2 hb2 fun z => ⟨fun hz => ?_, fun hz => ?_⟩
      · rcases List.mem_cons.1 ((h z).1 (List.mem_cons_of_mem _ hz)) with e | e
        · subst e; exact absurd (ha1 _ hz) (txt_lt_irrefl _)
        · exact e
      · rcases List.mem_cons.1 ((h z).2 (List.mem_cons_of_mem _ hz)) with e | e
        · subst e; exact absurd (hb1 _ hz) (txt_lt_irrefl _)
        · exact e
    rw [this]

theorem setL_congr {a b : List (List UInt8)} (h : ∀ x, x ∈ a ↔ x ∈ b) : setL a = setL b :=
  rising_eq (setL_lt a) (setL_lt b) fun x => by rw [setL_mem, setL_mem]; exact h x

theorem setL_setL (l : List (List UInt8)) : setL (setL l) = setL l := setL_congr (setL_mem l)

theorem setL_rise {l : List (List UInt8)} {i j : Nat} (h : i < j) (hj : j < (setL l).length) : (setL l)[i] < (setL l)[j] := List.pairwise_iff_getElem.1 (setL_lt l) i j (by omega) hj h

end Go.Proofs.Ytcogeebfldlpoaa
