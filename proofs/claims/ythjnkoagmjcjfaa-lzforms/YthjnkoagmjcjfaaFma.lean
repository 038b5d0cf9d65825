/-
  LzForms: a row of like bytes as steps; plain mathematics.
-/
import Derived.Test.YthjnkoagmjcjfaaBa
import Derived.Lib.AppendStr
import Derived.Lib.AppendZerosOnto
set_option linter.unusedSimpArgs false
set_option linter.unusedVariables false
namespace Go.Proofs.Ythjnkoagmjcjfaa
open Go.RowKit

theorem rep_at (N c k : Nat) (h : k < N) : (List.replicate N c).getD k 0 = c := by simp [List.getD, h]

theorem rep_lik (N c f a : Nat) (hf : f ≤ a) (ha : a ≤ N) : lik (List.replicate N c) f a = min 258 (N - a) := by
  have hl : (List.replicate N c).length = N := by simp
  refine (lik_eq (b := List.replicate N c) (f := f) (a := a) ⟨by omega, by rw [hl]; omega, fun k hk => ?_, by rw [hl]; omega⟩ (by rw [hl]; exact ha)).symm
  rw [rep_at _ _ _ (by omega), rep_at _ _ _ (by omega)]

theorem rep_best (N c a : Nat) (ha : a ≤ N) (h1 : 1 ≤ a) : ∀ m, m ≤ a → 1 ≤ m → best (List.replicate N c) a m = if 3 ≤ min 258 (N - a) then (min 258 (N - a), 1) else (0, 0) := by
  intro m
  induction m with
  | zero => intro _ h; omega
  | succ m ih =>
    intro hm _
    unfold best
    rw [rep_lik N c _ a (by omega) ha]
    by_cases h0 : m = 0
    · subst h0
      have hb0 : best (List.replicate N c) a 0 = (0, 0) := rfl
      rw [hb0]
      by_cases h3 : 3 ≤ min 258 (N - a)
      · rw [if_pos h3]; exact if_pos ⟨h3, by show 0 < _; omega⟩
      · rw [if_neg h3]; exact if_neg (fun h => h3 h.1)
    · rw [ih (by omega) (by omega)]
      by_cases h3 : 3 ≤ min 258 (N - a)
      · rw [if_pos h3, if_neg (by omega)]
      · rw [if_neg h3, if_neg (by omega)]

/-- The steps that the law asks for, so many bytes being left. -/
def wantL (c : Nat) : Nat → Nat → List St
  | 0, _ => []
  | f + 1, left => if left = 0 then [] else if min left 258 < 3 then ⟨c, 0, 0⟩ :: wantL c f (left - 1) else ⟨0, (min left 258 : Nat), 1⟩ :: wantL c f (left - min left 258)

theorem wantL_nil (c f : Nat) : wantL c f 0 = [] := by cases f <;> simp [wantL]

theorem wantL_byte (c f left : Nat) (h : 0 < left) (hf : left ≤ f) (h3 : min left 258 < 3) : wantL c f left = ⟨c, 0, 0⟩ :: wantL c (f - 1) (left - 1) := by
  obtain ⟨g, rfl⟩ : ∃ g, f = g + 1 := ⟨f - 1, by omega⟩
  simp only [wantL]
  rw [if_neg (by omega), if_pos h3]
  rfl

theorem wantL_row (c f left : Nat) (h : 0 < left) (hf : left ≤ f) (h3 : ¬ min left 258 < 3) : wantL c f left = ⟨0, (min left 258 : Nat), 1⟩ :: wantL c (f - 1) (left - min left 258) := by
  obtain ⟨g, rfl⟩ : ∃ g, f = g + 1 := ⟨f - 1, by omega⟩
  simp only [wantL]
  rw [if_neg (by omega), if_neg h3]
  rfl

theorem rep_run (N c : Nat) : ∀ f a, 1 ≤ a → a ≤ N → N - a ≤ f → runL (List.replicate N c) f a = wantL c f (N - a) := by
  intro f
  induction f with
  | zero => intro a _ _ _; rfl
  | succ f ih =>
    intro a h1 ha hf
    have hl : (List.replicate N c).length = N := by simp
    by_cases hN : a < N
    · rw [runL_step _ _ _ (by rw [hl]; exact hN) (by rw [hl]; exact hf)]
      have hb := rep_best N c a ha h1 (min 1024 a) (by omega) (by omega)
      unfold stepOf wide
      rw [hb]
      by_cases h3 : 3 ≤ min 258 (N - a)
      · rw [if_pos h3, wantL_row c (f + 1) (N - a) (by omega) hf (by omega)]
        simp only
        rw [if_neg (by omega)]
        have e : min (N - a) 258 = min 258 (N - a) := Nat.min_comm _ _
        have e2 : max (min 258 (N - a)) 1 = min 258 (N - a) := by omega
        rw [e, e2, Nat.add_sub_cancel, ih _ (by omega) (by omega) (by omega)]
        have e3 : N - (a + min 258 (N - a)) = N - a - min 258 (N - a) := by omega
        rw [e3]
        rfl
      · rw [if_neg h3, wantL_byte c (f + 1) (N - a) (by omega) hf (by omega)]
        simp only [↓reduceIte]
        rw [rep_at _ _ _ hN, Nat.add_sub_cancel]
        have e2 : max 0 1 = 1 := rfl
        rw [e2, ih _ (by omega) (by omega) (by omega)]
        have e3 : N - (a + 1) = N - a - 1 := by omega
        rw [e3]
    · have : a = N := by omega
      subst this
      rw [runL_end _ _ _ (by rw [hl]; exact Nat.le_refl _), Nat.sub_self, wantL_nil]

theorem rep_split (r c : Nat) : splitL (List.replicate (4 + r) c) = ⟨c, 0, 0⟩ :: wantL c (3 + r) (3 + r) := by
  have hl : (List.replicate (4 + r) c).length = 4 + r := by simp
  unfold splitL
  rw [runL_step _ _ _ (by rw [hl]; omega) (by omega), hl]
  have e : 4 + r - 1 = 3 + r := by omega
  have hs : stepOf (List.replicate (4 + r) c) 0 = ⟨c, 0, 0⟩ := by
    unfold stepOf
    have : min 1024 0 = 0 := rfl
    rw [this]
    simp only [best, ↓reduceIte]
    rw [rep_at _ _ _ (by omega)]
  have hw : wide (List.replicate (4 + r) c) 0 = 1 := by
    unfold wide
    have : min 1024 0 = 0 := rfl
    rw [this]
    rfl
  rw [hs, hw, e, rep_run (4 + r) c (3 + r) (0 + 1) (by omega) (by omega) (by omega)]
  have e2 : 4 + r - (0 + 1) = 3 + r := by omega
  rw [e2]

theorem split17 : splitL [97, 98, 99, 100, 88, 97, 98, 99, 89, 97, 98, 99, 100, 90, 97, 98, 99] = [⟨97, 0, 0⟩, ⟨98, 0, 0⟩, ⟨99, 0, 0⟩, ⟨100, 0, 0⟩, ⟨88, 0, 0⟩, ⟨0, 3, 5⟩, ⟨89, 0, 0⟩, ⟨0, 4, 9⟩, ⟨90, 0, 0⟩, ⟨0, 3, 5⟩] := by rfl

theorem make_b (m : Nat) (hm : m ≤ 140737488355328) (w : World) : (Instr.makeSlice 23 (.int .i64 (m : Int)) (.int .i64 (m : Int))).run Try.prog w = .ok (.slice (some ⟨w.heap.size, 0, none⟩) m m) (w.alloc (.cells (Array.replicate m (byteV 0)) 5)) := by
  obtain ⟨i, hi, hz0, hz1, hz2⟩ := info_parts Try.info5
  have := run_make (P := Try.prog) w 23 5 i _ Try.underlying23 hi hz0 .i64 .i64 (m : Int) (m : Int) (by omega) (by omega) (by rw [hz2]; omega) (by omega)
  rw [hz1] at this
  have e : madeCells #[.int .u8 0] m = Array.replicate m (byteV 0) := by
    apply Array.ext'
    rw [toList_madeCells_one]
    simp [byteV]
  simpa [Value.cells, e] using this

theorem made_own (w : World) (m : Nat) (hm : m ≤ 140737488355328) (B : Nat) (hB : B ≤ w.heap.size) : (w.alloc (.cells (Array.replicate m (byteV 0)) 5)).ownsRow B 5 1 (.slice (some ⟨w.heap.size, 0, none⟩) m m) m ((List.replicate m 0).map byteV) := by
  refine ⟨by simp, .inr ⟨w.heap.size, m, _, rfl, hB, heap_alloc_new w _, Nat.le_refl _, by unfold maxLen; omega, by simp, ?_⟩⟩
  simp

theorem zero_cells (m : Nat) : Builtin.zeroCells #[.int .u8 0] m = (List.replicate m (byteV 0)).toArray := by
  apply Array.ext'
  apply List.ext_getElem
  · simp [Builtin.zeroCells]
  · intro j h1 h2
    simp [Builtin.zeroCells, Nat.mod_one, byteV]

theorem Try.under3 : Try.prog.underlying 3 = some (.int .i64) := by kernel_rfl
theorem Try.under9 : Try.prog.underlying 9 = some .string := by kernel_rfl

/-- append(s, make([]byte, m)...), where s has no room: whatever s lies on. -/
theorem append_zeros (w : World) (g n m : Nat) (ty : TypeId) (bs : List Nat) (hn : bs.length = n) (hcs : ∀ j u, (bs.map byteV)[j]? = some u → w.cell? ((⟨g, 0, none⟩ : Addr).add j) = some u) (hn2 : n ≤ 100000) (hm : m ≤ 100000) (h0 : 0 < m) (B : Nat) (hB : B ≤ w.heap.size) :
    ∃ g' cap' w', (Builtin.append_ #[23, 3] ty #[.slice (some ⟨g, 0, none⟩) n n, .int .i64 (m : Int)]).run Try.prog w = .ok (.slice (some ⟨g', 0, none⟩) (n + m) cap') w' ∧
      w'.ownsRow B 5 1 (.slice (some ⟨g', 0, none⟩) (n + m) cap') (n + m) ((bs ++ List.replicate m 0).map byteV) ∧ Below B w w' := by
  obtain ⟨i, hi, hz0, hz1, hz2⟩ := info_parts Try.info5
  have hlen : ((bs ++ List.replicate m 0).map byteV).length = (n + m) * 1 := by simp [hn]
  have hf := run_firstCells_some (P := Try.prog) w.drew i.size n ⟨g, 0, none⟩ n n (bs.map byteV) (by simp [hz1, hn]) (by simpa using hcs)
  have hr := Lib.run_append_grow_zeros (P := Try.prog) w 23 3 ty 5 i (.int .u8 0) .i64 .i64 Try.underlying23 Try.under3 hi hz0 (some ⟨g, 0, none⟩) n n (bs.map byteV) hf m h0 (by omega) (by omega) (by omega) (by rw [hz2]; omega) (by rw [hz2]; exact growslice_fits (by omega) (by omega))
  have hge := grownCap_ge w (n + m) n 5
  have hcm' : grownCap w (n + m) n 5 ≤ maxLen := grownCap_le_maxLen w (n + m) n 5 (by unfold maxLen; omega)
  refine ⟨w.heap.size, _, _, hr, ⟨hlen, .inr ⟨w.heap.size, _, _, rfl, hB, heap_alloc_new w.drew _, hge, hcm', ?_, ?_⟩⟩, ⟨rfl, rfl, rfl, by simp, fun k hk => Below.heap_alloc w.drew _ k (by show k < w.heap.size; omega)⟩⟩
  · simp only [Array.size_append, List.size_toArray, size_zeroCells, Value.cells]
    simp [hn]
    omega
  · simp only [Array.toList_append, List.append_assoc, Value.cells, zero_cells]
    rw [← hlen, List.map_append, List.map_replicate, ← List.append_assoc]
    exact List.take_left

end Go.Proofs.Ythjnkoagmjcjfaa
