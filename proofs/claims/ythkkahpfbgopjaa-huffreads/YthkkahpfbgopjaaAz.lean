/-
  append(l, make([]int, m)...) onto a row of the call's own.
-/
import Derived.Test.YthkkahpfbgopjaaFu
import Derived.Lib.AppendZerosOnto
set_option linter.unusedSimpArgs false
set_option linter.unusedVariables false
namespace Go.Proofs.Ythkkahpfbgopjaa
open Go.RowKit

theorem zero_cells (m : Nat) : Builtin.zeroCells #[.int .i64 0] m = (List.replicate m (natV 0)).toArray := by
  apply Array.ext'
  apply List.ext_getElem
  · simp [Builtin.zeroCells]
  · intro j h1 h2
    simp [Builtin.zeroCells, Nat.mod_one, natV]

theorem run_append_zeros (w : World) (B g n cap m : Nat) (ty : TypeId) (xs : List Value) (hown : w.ownsRow B 3 1 (.slice (some ⟨g, 0, none⟩) n cap) n xs) (hn : n ≤ 100000) (hm : m ≤ 100000) (hB : B ≤ w.heap.size) :
    ∃ g' cap' w', (Builtin.append_ #[26, 3] ty #[.slice (some ⟨g, 0, none⟩) n cap, .int .i64 (m : Int)]).run Try.prog w = .ok (.slice (some ⟨g', 0, none⟩) (n + m) cap') w' ∧
      w'.ownsRow B 3 1 (.slice (some ⟨g', 0, none⟩) (n + m) cap') (n + m) (xs ++ List.replicate m (natV 0)) ∧ w.grownBy w' (some g) := by
  obtain ⟨i, hi, hz0, hz1, hz2⟩ := info_parts Try.infi3
  have hlen : (xs ++ List.replicate m (natV 0)).length = (n + m) * 1 := by rw [List.length_append, hown.1]; simp
  rcases hown.2 with ⟨h, _⟩ | ⟨g', cap', cur, h, hbg, hg, hnc, hcm, hcs, htake⟩
  · simp at h
  simp only [Value.slice.injEq, Option.some.injEq, Addr.mk.injEq, and_true, true_and] at h
  obtain ⟨rfl, rfl⟩ := h
  have hw : IntKind.i64.wrap (m : Int) = m := by rw [IntKind.wrap_i64]; omega
  have hneg : ¬ ((m : Int) < 0) := by omega
  have h48i : ¬ (281474976710656 < (m : Int) * (8 : Int)) := by omega
  by_cases hroom : n + m ≤ cap
  · have hst := run_storeCells_at Try.prog g (n * 1) 3 (List.replicate m (natV 0)) 0 cur w hg (by simp; omega) (fun u hu => by rw [(List.mem_replicate.1 hu).2]; rfl)
    refine ⟨g, cap, w.setRow g (cur.toList.take (n * 1) ++ List.replicate m (natV 0) ++ cur.toList.drop (n * 1 + (List.replicate m (natV 0)).length)).toArray, ?_, ⟨hlen, .inr ⟨g, cap, _, rfl, hbg, setRow_heap w g cur _ 3 _ hg, hroom, hcm, ?_, ?_⟩⟩, ⟨rfl, rfl, rfl, by simp, fun k _ hk => setRow_other w g k _ (fun e => hk (by simp [e]))⟩⟩
    · simp only [Nat.add_zero, Nat.mul_one] at hst
      by_cases h0 : m = 0
      · subst h0
        have hid : w.setRow g (cur.toList.take n ++ List.replicate 0 (natV 0) ++ cur.toList.drop (n + (List.replicate 0 (natV 0)).length)).toArray = w := by
          have hst' := hst
          simp only [List.replicate_zero, storeCells, Sem.run_pure, Result.ok.injEq, true_and] at hst'
          exact hst'.symm
        simp only [Nat.mul_one]
        rw [hid]
        have hw0 : IntKind.i64.wrap 0 = 0 := by rw [IntKind.wrap_i64]; omega
        simp [Builtin.append_, run_underlying Try.under26, run_underlying Try.under3, sizeOf, typeInfo, hi, hz1, hz2, asInt, asIntOf, hw0, hroom, hnc, storeCells]
      · have hns : ¬ (m * 1 = 0) := by omega
        simp [Builtin.append_, run_underlying Try.under26, run_underlying Try.under3, sizeOf, typeInfo, zeroValue, hi, hz0, hz1, hz2, asInt, asIntOf, hw, hneg, h0, h48i, hroom, Value.cells, zero_cells, Addr.add_lit]
        rw [hst]
        simp
    · simp only [List.size_toArray, List.length_append, List.length_take, List.length_drop, Array.length_toList, List.length_replicate]
      omega
    · rw [htake, ← hlen]
      exact List.take_left
  · have holds : ∀ j u, xs[j]? = some u → w.drew.cell? ((⟨g, 0, none⟩ : Addr).add j) = some u := hown.drew.cells (g := g) rfl
    have hf := run_firstCells_some (P := Try.prog) w.drew i.size n ⟨g, 0, none⟩ n cap xs (by rw [hown.1, hz1]) holds
    have hr := Lib.run_append_grow_zeros (P := Try.prog) w 26 3 ty 3 i (.int .i64 0) .i64 .i64 Try.under26 Try.under3 hi hz0 (some ⟨g, 0, none⟩) n cap xs hf m (by omega) (by omega) (by omega) (by omega) (by rw [hz2]; omega) (by rw [hz2]; exact growslice_fits (by omega) (by omega))
    have hge := grownCap_ge w (n + m) cap 3
    have hcm' : grownCap w (n + m) cap 3 ≤ maxLen := grownCap_le_maxLen w (n + m) cap 3 (by unfold maxLen; omega)
    refine ⟨w.heap.size, _, _, hr, ⟨hlen, .inr ⟨w.heap.size, _, _, rfl, hB, heap_alloc_new w.drew _, hge, hcm', ?_, ?_⟩⟩, ⟨rfl, rfl, rfl, by simp, fun k hk _ => Below.heap_alloc w.drew _ k hk⟩⟩
    · have := hown.1
      simp only [Array.size_append, List.size_toArray, size_zeroCells, Value.cells]
      simp
      omega
    · simp only [Array.toList_append, List.append_assoc, Value.cells, zero_cells]
      rw [← List.append_assoc, ← hlen]
      exact List.take_left

/-- The operation, for the walk. -/
theorem wpList_zeros {ops : Array Oper} {rest : List Oper} {o : Oper} {a : Act} {w : World} {Q : Exit → Act → World → Prop} (hgd : o.guard = none) (s x : Operand)
    (ho : o.op = .call { callee := .builtin .append, args := #[s, x], argTypes := #[26, 3] })
    (B g n cap m : Nat) (xs : List Value) (hs : a.eval s = .slice (some ⟨g, 0, none⟩) n cap) (hx : a.eval x = .int .i64 (m : Int)) (hown : w.ownsRow B 3 1 (.slice (some ⟨g, 0, none⟩) n cap) n xs)
    (hn : n ≤ 100000) (hm : m ≤ 100000) (hB : B ≤ w.heap.size)
    (h : ∀ g' cap' w', w'.ownsRow B 3 1 (.slice (some ⟨g', 0, none⟩) (n + m) cap') (n + m) (xs ++ List.replicate m (natV 0)) → Below B w w' → wpList Try.prog ops Q rest (a.put o.dst (.slice (some ⟨g', 0, none⟩) (n + m) cap')) w') :
    wpList Try.prog ops Q (o :: rest) a w := by
  obtain ⟨g', cap', w', hr, ho2, hg⟩ := run_append_zeros w B g n cap m o.type xs hown hn hm hB
  exact Lib.wpList_append_run w hgd s x 26 3 ho _ _ hs hx _ _ hr (h g' cap' w' ho2 ((Below.refl B w).grown hg hB (fun k hk => by cases hk; exact (hown.lt g rfl).1)))

end Go.Proofs.Ythkkahpfbgopjaa
