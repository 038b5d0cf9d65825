/-
  Plain mathematics of Split and Join: 'lik' (how many bytes are alike), 'best' (the longest row, of several the nearest), 'splitL', 'joinL'.
-/
import Derived.Test.YtdokpimhhkbdbaaDoorZGa
set_option linter.unusedSimpArgs false
set_option linter.unusedVariables false
namespace Go.Proofs.YtdokpimhhkbdbaaDoor.Lz
open Go.RowKit

abbrev at0 (b : List Nat) (k : Nat) : Nat := b.getD k 0

def cnt (b : List Nat) (f a : Nat) : Nat → Nat → Nat
  | 0, n => n
  | m + 1, n => if b.getD (f + n) 0 = b.getD (a + n) 0 then cnt b f a m (n + 1) else n

/-- How many bytes at f are those at a, as many as a row may have. -/
def lik (b : List Nat) (f a : Nat) : Nat := cnt b f a (min 258 (b.length - a)) 0

structure Lik (b : List Nat) (f a n : Nat) : Prop where
  le : n ≤ 258
  inl : a + n ≤ b.length
  eq : ∀ k, k < n → b.getD (f + k) 0 = b.getD (a + k) 0
  stop : n = 258 ∨ a + n = b.length ∨ b.getD (f + n) 0 ≠ b.getD (a + n) 0

theorem cnt_lik (b : List Nat) (f a : Nat) (ha : a ≤ b.length) : ∀ m n, (∀ k, k < n → b.getD (f + k) 0 = b.getD (a + k) 0) → n + m = min 258 (b.length - a) → Lik b f a (cnt b f a m n) := by
  intro m
  induction m with
  | zero => intro n h e; exact ⟨by simp [cnt]; omega, by simp [cnt]; omega, h, by simp only [cnt]; omega⟩
  | succ m ih =>
    intro n h e
    unfold cnt
    by_cases hc : b.getD (f + n) 0 = b.getD (a + n) 0
    · rw [if_pos hc]
      refine ih (n + 1) (fun k hk => ?_) (by omega)
      rcases (show k < n ∨ k = n by omega) with h' | rfl
      · exact h k h'
      · exact hc
    · rw [if_neg hc]
      exact ⟨by omega, by omega, h, .inr (.inr hc)⟩

theorem lik_spec (b : List Nat) (f a : Nat) (ha : a ≤ b.length) : Lik b f a (lik b f a) := cnt_lik b f a ha _ 0 (fun k hk => by omega) (by omega)

theorem Lik.not_lt {b : List Nat} {f a n m : Nat} (h : Lik b f a n) (k : Lik b f a m) : ¬ n < m := by
  intro hlt
  rcases h.stop with e | e | e
  · have := k.le; omega
  · have := k.inl; omega
  · exact e (k.eq n hlt)

theorem Lik.uni {b : List Nat} {f a n m : Nat} (h : Lik b f a n) (k : Lik b f a m) : n = m := by
  have h1 := h.not_lt k
  have h2 := k.not_lt h
  omega

theorem lik_eq {b : List Nat} {f a n : Nat} (h : Lik b f a n) (ha : a ≤ b.length) : n = lik b f a := h.uni (lik_spec b f a ha)

theorem lik_le (b : List Nat) (f a : Nat) (ha : a ≤ b.length) : lik b f a ≤ min 258 (b.length - a) := by
  have h := lik_spec b f a ha
  have h1 := h.le
  have h2 := h.inl
  omega

/-- The longest row of those 1 .. m places back, of several the nearest: its length, how far back. -/
def best (b : List Nat) (a : Nat) : Nat → Nat × Nat
  | 0 => (0, 0)
  | m + 1 => if 3 ≤ lik b (a - (m + 1)) a ∧ (best b a m).1 < lik b (a - (m + 1)) a then (lik b (a - (m + 1)) a, m + 1) else best b a m

theorem best_full (b : List Nat) (a : Nat) (ha : a ≤ b.length) (m : Nat) (h : min 258 (b.length - a) ≤ (best b a m).1) : ∀ k, best b a (m + k) = best b a m := by
  intro k
  induction k with
  | zero => rfl
  | succ k ih =>
    rw [← Nat.add_assoc]
    have := lik_le b (a - (m + k + 1)) a ha
    show (if 3 ≤ lik b (a - (m + k + 1)) a ∧ (best b a (m + k)).1 < lik b (a - (m + k + 1)) a then (lik b (a - (m + k + 1)) a, m + k + 1) else best b a (m + k)) = _
    rw [ih, if_neg (by omega)]

structure Best (b : List Nat) (a m : Nat) (p : Nat × Nat) : Prop where
  none : p.1 = 0 → p.2 = 0
  some : p.1 ≠ 0 → 3 ≤ p.1 ∧ 1 ≤ p.2 ∧ p.2 ≤ m ∧ p.1 = lik b (a - p.2) a

theorem best_spec (b : List Nat) (a m : Nat) : Best b a m (best b a m) := by
  induction m with
  | zero => exact ⟨fun _ => rfl, fun h => absurd rfl h⟩
  | succ m ih =>
    unfold best
    split
    · rename_i h
      exact ⟨fun h0 => by simp only at h0; omega, fun _ => ⟨h.1, by simp, by simp, rfl⟩⟩
    · exact ⟨ih.none, fun h => by obtain ⟨h1, h2, h3, h4⟩ := ih.some h; exact ⟨h1, h2, by omega, h4⟩⟩

/-- The document's own search: rows of whatever length. -/
def bestR (b : List Nat) (a : Nat) : Nat → Nat × Nat
  | 0 => (0, 0)
  | m + 1 => if (bestR b a m).1 < lik b (a - (m + 1)) a then (lik b (a - (m + 1)) a, m + 1) else bestR b a m

theorem best_R (b : List Nat) (a m : Nat) : best b a m = if (bestR b a m).1 < 3 then (0, 0) else bestR b a m := by
  induction m with
  | zero => rfl
  | succ m ih =>
    unfold best bestR
    rw [ih]
    by_cases h : (bestR b a m).1 < 3
    · rw [if_pos h]
      by_cases h2 : (bestR b a m).1 < lik b (a - (m + 1)) a
      · rw [if_pos h2]
        by_cases h3 : 3 ≤ lik b (a - (m + 1)) a
        · rw [if_pos ⟨h3, by simp only; omega⟩, if_neg (by simp only; omega)]
        · rw [if_neg (by omega), if_pos (by simp only; omega)]
      · rw [if_neg h2, if_neg (by omega), if_pos h]
    · rw [if_neg h]
      by_cases h2 : (bestR b a m).1 < lik b (a - (m + 1)) a
      · rw [if_pos h2, if_pos ⟨by omega, h2⟩, if_neg (by simp only; omega)]
      · rw [if_neg h2, if_neg (by omega), if_neg h]

/-- A step: a byte (l = 0), or l bytes from d back. -/
structure St where
  b : Nat
  l : Int
  d : Int

theorem St.eq_iff (s t : St) : s = t ↔ s.b = t.b ∧ s.l = t.l ∧ s.d = t.d := by
  cases s; cases t; simp

/-- The step at a. -/
def stepOf (b : List Nat) (a : Nat) : St := if (best b a (min 1024 a)).1 = 0 then ⟨b.getD a 0, 0, 0⟩ else ⟨0, ((best b a (min 1024 a)).1 : Nat), ((best b a (min 1024 a)).2 : Nat)⟩

/-- How many bytes the step at a stands for. -/
def wide (b : List Nat) (a : Nat) : Nat := max (best b a (min 1024 a)).1 1

def runL (b : List Nat) : Nat → Nat → List St
  | 0, _ => []
  | f + 1, a => if a < b.length then stepOf b a :: runL b f (a + wide b a) else []

def splitL (b : List Nat) : List St := runL b b.length 0

theorem runL_end (b : List Nat) (f a : Nat) (h : b.length ≤ a) : runL b f a = [] := by
  cases f with
  | zero => rfl
  | succ f => simp [runL]; omega

theorem runL_step (b : List Nat) (f a : Nat) (h : a < b.length) (hf : b.length - a ≤ f) : runL b f a = stepOf b a :: runL b (f - 1) (a + wide b a) := by
  obtain ⟨g, rfl⟩ : ∃ g, f = g + 1 := ⟨f - 1, by omega⟩
  simp [runL, h]

theorem wide_pos (b : List Nat) (a : Nat) : 1 ≤ wide b a := by unfold wide; omega

theorem wide_le (b : List Nat) (a : Nat) (h : a < b.length) : a + wide b a ≤ b.length := by
  unfold wide
  have h1 := best_spec b a (min 1024 a)
  by_cases h0 : (best b a (min 1024 a)).1 = 0
  · omega
  · obtain ⟨h2, h3, h4, h5⟩ := h1.some h0
    have := lik_le b (a - (best b a (min 1024 a)).2) a (by omega)
    omega

/-- n bytes more, each that from d back. -/
def rowOf (o : List Nat) (d : Nat) : Nat → List Nat
  | 0 => o
  | n + 1 => rowOf o d n ++ [(rowOf o d n).getD ((rowOf o d n).length - d) 0]

theorem rowOf_len (o : List Nat) (d n : Nat) : (rowOf o d n).length = o.length + n := by
  induction n with
  | zero => rfl
  | succ n ih => simp [rowOf, ih]; omega

abbrev Fit (o : Nat) (s : St) : Prop := (0 ≤ s.l ∧ s.l ≤ 258) ∧ (0 < s.l → 1 ≤ s.d ∧ s.d ≤ o) ∧ o + max s.l 1 ≤ 65536

/-- One step more. -/
def stepJ (o : List Nat) (s : St) : Option (List Nat) := if Fit o.length s then (if s.l = 0 then some (o ++ [s.b]) else some (rowOf o s.d.toNat s.l.toNat)) else none

def joinL : List Nat → List St → Option (List Nat)
  | o, [] => some o
  | o, s :: l => match stepJ o s with
    | some o' => joinL o' l
    | none => none

theorem row_take (b : List Nat) (a d n : Nat) (hd : 1 ≤ d) (hda : d ≤ a) (hn : a + n ≤ b.length) (h : ∀ k, k < n → b.getD (a - d + k) 0 = b.getD (a + k) 0) : rowOf (b.take a) d n = b.take (a + n) := by
  induction n with
  | zero => rfl
  | succ n ih =>
    have := ih (by omega) (fun k hk => h k (by omega))
    unfold rowOf
    rw [this]
    have hl : (b.take (a + n)).length = a + n := by rw [List.length_take]; omega
    have e : (b.take (a + n)).getD ((b.take (a + n)).length - d) 0 = b.getD (a + n) 0 := by
      rw [hl, ← h n (by omega)]
      have : a + n - d = a - d + n := by omega
      rw [this]
      have h1 : a - d + n < a + n := by omega
      simp [List.getD, List.getElem?_take, h1]
    rw [e, ← Nat.add_assoc, List.take_add_one]
    have : a + n < b.length := by omega
    simp [this]

theorem stepJ_step (b : List Nat) (a : Nat) (h : a < b.length) (hb : b.length ≤ 65536) : stepJ (b.take a) (stepOf b a) = some (b.take (a + wide b a)) := by
  have hl : (b.take a).length = a := by rw [List.length_take]; omega
  have hs := best_spec b a (min 1024 a)
  have hw := wide_le b a h
  unfold stepJ stepOf
  unfold wide at hw ⊢
  rw [hl]
  generalize best b a (min 1024 a) = p at *
  by_cases h0 : p.1 = 0
  · simp only [h0, ↓reduceIte]
    rw [if_pos (by refine ⟨?_, ?_, ?_⟩ <;> simp <;> omega)]
    have e : max 0 1 = 1 := rfl
    rw [e, List.take_add_one]
    simp [h]
  · obtain ⟨h2, h3, h4, h5⟩ := hs.some h0
    have hl1 := lik_spec b (a - p.2) a (by omega)
    rw [← h5] at hl1
    have hmx : max p.1 1 = p.1 := by omega
    have hle := hl1.le
    have hin := hl1.inl
    simp only [h0, ↓reduceIte]
    rw [if_pos (by refine ⟨⟨?_, ?_⟩, ?_, ?_⟩ <;> simp <;> omega), if_neg (by simp; omega), hmx]
    simp only [Int.toNat_natCast]
    rw [row_take b a p.2 p.1 h3 (by omega) hin hl1.eq]

theorem join_run (b : List Nat) (hb : b.length ≤ 65536) : ∀ f a, a ≤ b.length → b.length - a ≤ f → joinL (b.take a) (runL b f a) = some b := by
  intro f
  induction f with
  | zero => intro a h hf; have : a = b.length := by omega
            subst this; simp [runL, joinL]
  | succ f ih =>
    intro a h hf
    by_cases ha : a < b.length
    · rw [runL_step b _ a ha hf]
      simp only [joinL, stepJ_step b a ha hb]
      exact ih _ (wide_le b a ha) (by have := wide_pos b a; omega)
    · have : a = b.length := by omega
      subst this
      rw [runL_end _ _ _ (Nat.le_refl _)]
      simp [joinL]

theorem join_split (b : List Nat) (hb : b.length ≤ 65536) : joinL [] (splitL b) = some b := by
  have := join_run b hb b.length 0 (by omega) (by omega)
  simpa [splitL] using this

theorem runL_len (b : List Nat) : ∀ f a, (runL b f a).length ≤ f := by
  intro f
  induction f with
  | zero => intro a; simp [runL]
  | succ f ih => intro a; unfold runL; split
                 · have := ih (a + wide b a); simp; omega
                 · simp

end Go.Proofs.YtdokpimhhkbdbaaDoor.Lz
