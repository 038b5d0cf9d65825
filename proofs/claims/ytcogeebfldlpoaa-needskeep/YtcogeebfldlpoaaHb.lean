/-
  A text put among others, in plain lists and by two appends; the document's Set.
-/
import Derived.Test.YtcogeebfldlpoaaHa
import Derived.Deep.AppendSrc
import Derived.Deep.Upon
set_option linter.unusedSimpArgs false
set_option linter.unusedVariables false
namespace Go.Proofs.Ytcogeebfldlpoaa
open Go.RowKit

theorem ins_sorted {out : List Txt} {x : Txt} {k : Nat} (hk : k ≤ out.length) (hs : out.Pairwise (· < ·)) (h1 : ∀ j, k ≤ j → j < out.length → x < out.getD j []) (h2 : k = 0 ∨ out.getD (k - 1) [] < x) :
    (out.take k ++ x :: out.drop k).Pairwise (· < ·) := by
  have hg : ∀ j (h : j < out.length), out.getD j [] = out[j] := fun j h => by simp [h]
  have hp := List.pairwise_iff_getElem.1 hs
  have ha : ∀ y ∈ out.take k, y < x := by
    intro y hy
    obtain ⟨i, hi, rfl⟩ := List.getElem_of_mem hy
    rw [List.getElem_take]
    have hi' : i < k := by simp at hi; omega
    rcases h2 with rfl | h2
    · omega
    · rw [hg (k - 1) (by omega)] at h2
      rcases (show i < k - 1 ∨ i = k - 1 by omega) with h | rfl
      · exact List.lt_trans (hp i (k - 1) (by omega) (by omega) h) h2
      · exact h2
  have hb : ∀ y ∈ out.drop k, x < y := by
    intro y hy
    obtain ⟨i, hi, rfl⟩ := List.getElem_of_mem hy
    rw [List.getElem_drop]
    have hi' : k + i < out.length := by simp at hi; omega
    rw [← hg _ hi']
    exact h1 _ (by omega) hi'
  rw [List.pairwise_append]
  refine ⟨hs.sublist (List.take_sublist _ _), ?_, ?_⟩
  · rw [List.pairwise_cons]
    exact ⟨hb, hs.sublist (List.drop_sublist _ _)⟩
  · intro a haa b hbb
    rcases List.mem_cons.1 hbb with rfl | hbb
    · exact ha a haa
    · exact List.lt_trans (ha a haa) (hb b hbb)

theorem ins_mem {out : List Txt} {x : Txt} (k : Nat) (y : Txt) : y ∈ out.take k ++ x :: out.drop k ↔ y = x ∨ y ∈ out := by
  have e : y ∈ out ↔ y ∈ out.take k ∨ y ∈ out.drop k := by rw [← List.mem_append, List.take_append_drop]
  rw [e]; simp; grind

theorem ins_len {out : List Txt} {x : Txt} (k : Nat) : (out.take k ++ x :: out.drop k).length = out.length + 1 := by
  simp; omega

/-- one slice of texts behind another that has no room, or nothing behind it -/
theorem app_txt (V : World) (ao : Option Addr) (n cap : Nat) (xs ys : List Txt) (v2 : Value) (hn : xs.length = n) (h1 : LiesS V (.slice ao n cap) xs) (h2 : LiesS V v2 ys) (hg : ys = [] ∨ cap < n + ys.length) (h63 : n + ys.length ≤ 10000000) :
    ∃ u V', (Builtin.append_ #[22, 22] 22 #[.slice ao n cap, v2]).run Try.prog V = .ok u V' ∧ LiesS V' u (xs ++ ys) ∧ Old V V' := by
  subst hn
  obtain ⟨i, hi, hz0, hz1, hz2⟩ := info_parts Try.inf9
  have h1' := h1
  obtain ⟨_, _, e, hle, hno, hc⟩ := h1'
  cases e
  obtain ⟨a2, c2, rfl, hle2, hno2, hc2⟩ := h2
  rcases List.eq_nil_or_concat ys with rfl | ⟨_, _, hy⟩
  · refine ⟨_, _, run_append_nothing V 22 22 22 9 i Try.underlying22s hi ao xs.length cap hle _ ?_, by simpa using h1, Below.refl _ _⟩
    cases a2 with
    | none => exact Src.ofNil V Try.underlying22s _
    | some a => exact Src.ofSlice V Try.underlying22s a 0 c2 [] (by simp) (fun j u h => by simp at h) (fun u h => by simp at h)
  · have hpos : 0 < ys.length := by rw [hy]; simp
    have hg' : cap < xs.length + ys.length := by
      rcases hg with rfl | h
      · simp at hpos
      · exact h
    obtain ⟨a2, rfl⟩ : ∃ a, a2 = some a := by
      cases a2 with
      | none => have := hno2 rfl; omega
      | some a => exact ⟨a, rfl⟩
    cases ao with
    | some b =>
      obtain ⟨v', V', r1, r2, r3⟩ := run_append_arg_grows (P := Try.prog) V 22 22 9 i (.string ⟨#[]⟩) 1 16 Try.underlying22s hi hz0 hz1 hz2 rfl (by decide) b xs.length cap (xs.map encStr) (by simp) (hc b rfl) a2 ys.length c2 (ys.map encStr) (by simp) (hc2 a2 rfl) hg' (by unfold maxLen; omega) (by omega)
      refine ⟨v', V', r1, lies_own (n := xs.length + ys.length) (by simp) (by simpa using r2), (Below.refl _ V).grown r3 (Nat.le_refl _) (fun k hk => by cases hk)⟩
    | none =>
      have := hno rfl
      subst this
      obtain rfl : xs = [] := List.eq_nil_of_length_eq_zero (by omega)
      obtain ⟨v', V', r1, r2, r3, _⟩ := run_append_own (P := Try.prog) V V.heap.size 22 22 9 i (.string ⟨#[]⟩) 1 16 Try.underlying22s hi hz0 hz1 hz2 rfl (by decide) (.slice none 0 0) 0 [] (World.ownsRow_nil V _ 9 1) a2 ys.length c2 (ys.map encStr) (by simp) (hc2 a2 rfl) (strs_one ys) (by unfold maxLen; simp at h63; omega) (by simp at h63; omega) (Nat.le_refl _)
      refine ⟨v', V', r1, lies_own (n := 0 + ys.length) (by simp) (by simpa using r2), (Below.refl _ V).grown r3 (Nat.le_refl _) (fun k hk => by simp [Value.ownBlock] at hk)⟩

/-- a row of one text -/
theorem lies_one (V : World) (x : ByteArray) : LiesS (V.alloc (.cells #[.string x] 9)) (.slice (some ⟨V.heap.size, 0, none⟩) 1 1) [x.data.toList] := by
  refine ⟨_, 1, rfl, by simp, (fun h => by cases h), fun a ha j u hu => ?_⟩
  cases ha
  have hj : j = 0 := by
    have := (List.getElem?_eq_some_iff.1 hu).1
    simpa using this
  subst hj
  have : u = .string x := by simpa [encStr] using hu.symm
  subst this
  rw [add_none]
  exact cell_of_row _ _ _ _ 9 (0, 0) (heap_alloc_new V _) |>.trans (by simp)

theorem slice_head (V : World) (ao : Option Addr) (n cap k : Nat) (hk : k ≤ cap) :
    (Instr.slice 22 (.slice ao n cap) none (some (.int .i64 k)) (some (.int .i64 k))).run Try.prog V = .ok (.slice (if k = 0 then ao else ao.map (·.add 0)) k k) V := by
  obtain ⟨i, hi, hz0, hz1, hz2⟩ := info_parts Try.inf9
  simp [Instr.slice, run_underlying Try.underlying22s, Instr.sliceBounds, Instr.sliceBound, asIntOf, sizeOf, typeInfo, hi, hk]

theorem slice_tail (V : World) (ao : Option Addr) (n cap k : Nat) (hk : k ≤ n) (hn : n ≤ cap) :
    (Instr.slice 22 (.slice ao n cap) (some (.int .i64 k)) none none).run Try.prog V = .ok (.slice (if cap = k then ao else ao.map (·.add k)) (n - k) (cap - k)) V := by
  obtain ⟨i, hi, hz0, hz1, hz2⟩ := info_parts Try.inf9
  simp [Instr.slice, run_underlying Try.underlying22s, Instr.sliceBounds, Instr.sliceBound, asIntOf, sizeOf, typeInfo, hi, hz1, hk, hn]

theorem lies_head {V : World} {ao : Option Addr} {n cap k : Nat} {out : List Txt} (h : LiesS V (.slice ao n cap) out) (hk : k ≤ n) : LiesS V (.slice (if k = 0 then ao else ao.map (·.add 0)) k k) (out.take k) := by
  have h' := h
  obtain ⟨_, _, e, hle, hno, hc⟩ := h'
  cases e
  have hl : (out.take k).length = k := by simp; omega
  by_cases h1 : k = 0
  · subst h1
    rw [if_pos rfl]
    exact ⟨ao, 0, by simp, by simp, fun _ => rfl, fun a _ j u hu => by simp at hu⟩
  · rw [if_neg h1]
    obtain ⟨b, o, c1, e1, _, hcell⟩ := h.form (by omega)
    cases e1
    refine ⟨some ⟨b, o, none⟩, k, by simp [hl, add_none], by omega, (fun h => by cases h), fun a ha j u hu => ?_⟩
    cases ha
    have hu2 : (out.map encStr)[j]? = some u := by
      rw [List.map_take, List.getElem?_take] at hu
      split at hu
      · exact hu
      · cases hu
    exact hc _ rfl j u hu2

theorem lies_tail {V : World} {ao : Option Addr} {n cap k : Nat} {out : List Txt} (h : LiesS V (.slice ao n cap) out) (hk : k ≤ n) : LiesS V (.slice (if cap = k then ao else ao.map (·.add k)) (n - k) (cap - k)) (out.drop k) := by
  have h' := h
  obtain ⟨_, _, e, hle, hno, hc⟩ := h'
  cases e
  have hl : (out.drop k).length = out.length - k := by simp
  refine ⟨_, cap - k, by rw [hl], by omega, ?_, ?_⟩
  · intro h0
    by_cases h1 : cap = k
    · omega
    · rw [if_neg h1] at h0
      cases ao with
      | none => have := hno rfl; omega
      | some a => cases h0
  · intro a ha j u hu
    have hj := (List.getElem?_eq_some_iff.1 hu).1
    simp at hj
    have h1 : ¬ cap = k := by omega
    rw [if_neg h1] at ha
    obtain ⟨b, o, c1, e1, _, hcell⟩ := h.form (by omega)
    cases e1
    cases ha
    have hu2 : (out.map encStr)[k + j]? = some u := by
      rw [List.map_drop, List.getElem?_drop] at hu
      exact hu
    have h3 := hc _ rfl _ u hu2
    show V.cell? (((⟨b, o, none⟩ : Addr).add k).add j) = some u
    rw [add_none, add_none]
    rw [add_none] at h3
    rw [Nat.add_assoc]; exact h3

/-- the two appends that put a text among others -/
theorem ins_runs (V : World) (ao : Option Addr) (n cap k : Nat) (out : List Txt) (x : ByteArray) (h : LiesS V (.slice ao n cap) out) (hk : k ≤ n) (hl : n ≤ 1000000) :
    ∃ u2 V2 u3 V3, (Builtin.append_ #[22, 22] 22 #[.slice (some ⟨V.heap.size, 0, none⟩) 1 1, .slice (if cap = k then ao else ao.map (·.add k)) (n - k) (cap - k)]).run Try.prog (V.alloc (.cells #[.string x] 9)) = .ok u2 V2
      ∧ (Builtin.append_ #[22, 22] 22 #[.slice (if k = 0 then ao else ao.map (·.add 0)) k k, u2]).run Try.prog V2 = .ok u3 V3 ∧ LiesS V3 u3 (out.take k ++ x.data.toList :: out.drop k) ∧ Old V V3 := by
  have hn : out.length = n := by obtain ⟨_, _, e, _⟩ := h; cases e; rfl
  have hO1 : Old V (V.alloc (.cells #[.string x] 9)) := (Below.refl _ V).alloc (Nat.le_refl _) _
  obtain ⟨u2, V2, r2, l2, o2⟩ := app_txt _ _ 1 1 [x.data.toList] (out.drop k) _ rfl (lies_one V x) ((lies_tail h hk).old hO1) (by
    by_cases e : out.drop k = []
    · exact .inl e
    · right
      have := List.length_pos_iff.2 e
      omega) (by simp; omega)
  have hO2 : Old V V2 := hO1.trans (o2.mono (by simp))
  obtain ⟨u3, V3, r3, l3, o3⟩ := app_txt V2 _ k k (out.take k) ([x.data.toList] ++ out.drop k) u2 (by simp; omega) ((lies_head h hk).old hO2) l2 (.inr (by simp)) (by simp; omega)
  exact ⟨u2, V2, u3, V3, r2, r3, by simpa using l3, hO2.trans (o3.mono hO2.size)⟩
end Go.Proofs.Ytcogeebfldlpoaa
