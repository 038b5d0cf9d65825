/-
  append(b, make([]byte, m)...); bytes as a string; the document's Seal and Open walked.
-/
import Derived.Test.YtnldjcjhhenppaaSa
import Derived.Lib.AppendZerosOnto
import Derived.Laws.BytesString
import Derived.Laws.Cells
set_option linter.unusedSimpArgs false
set_option linter.unusedVariables false
namespace Go.Proofs.Ytnldjcjhhenppaa
open Go.RowKit

theorem zero_cells (m : Nat) : Builtin.zeroCells #[.int .u8 0] m = (List.replicate m (byteV 0)).toArray := by
  apply Array.ext'
  apply List.ext_getElem
  · simp [Builtin.zeroCells]
  · intro j h1 h2
    simp [Builtin.zeroCells, Nat.mod_one, byteV]

theorem zeros_room (w : World) (B g n cap m : Nat) (ty : TypeId) (xs : List Value) (hown : w.ownsRow B 5 1 (.slice (some ⟨g, 0, none⟩) n cap) n xs) (hn : n ≤ 140737488390000) (hm : m < 9000) (hB : B ≤ w.heap.size) :
    ∃ g' cap' w', (Builtin.append_ #[22, 3] ty #[.slice (some ⟨g, 0, none⟩) n cap, .int .i64 (m : Int)]).run Try.prog w = .ok (.slice (some ⟨g', 0, none⟩) (n + m) cap') w' ∧
      w'.ownsRow B 5 1 (.slice (some ⟨g', 0, none⟩) (n + m) cap') (n + m) (xs ++ List.replicate m (byteV 0)) ∧ w.grownBy w' (some g) := by
  obtain ⟨i, hi, hz0, hz1, hz2⟩ := info_parts Try.info5
  have hlen : (xs ++ List.replicate m (byteV 0)).length = (n + m) * 1 := by rw [List.length_append, hown.1]; simp
  rcases hown.2 with ⟨h, _⟩ | ⟨g', cap', cur, h, hbg, hg, hnc, hcm, hcs, htake⟩
  · simp at h
  simp only [Value.slice.injEq, Option.some.injEq, Addr.mk.injEq, and_true, true_and] at h
  obtain ⟨rfl, rfl⟩ := h
  have hw : IntKind.i64.wrap (m : Int) = m := by rw [IntKind.wrap_i64]; omega
  have hneg : ¬ ((m : Int) < 0) := by omega
  have h48i : ¬ (281474976710656 < (m : Int)) := by omega
  by_cases hroom : n + m ≤ cap
  · have hst := run_storeCells_at Try.prog g (n * 1) 5 (List.replicate m (byteV 0)) 0 cur w hg (by simp; omega) (fun u hu => by rw [(List.mem_replicate.1 hu).2]; rfl)
    refine ⟨g, cap, w.setRow g (cur.toList.take (n * 1) ++ List.replicate m (byteV 0) ++ cur.toList.drop (n * 1 + (List.replicate m (byteV 0)).length)).toArray, ?_, ⟨hlen, .inr ⟨g, cap, _, rfl, hbg, setRow_heap w g cur _ 5 _ hg, hroom, hcm, ?_, ?_⟩⟩, ⟨rfl, rfl, rfl, by simp, fun k _ hk => setRow_other w g k _ (fun e => hk (by simp [e]))⟩⟩
    · simp only [Nat.add_zero, Nat.mul_one] at hst
      by_cases h0 : m = 0
      · subst h0
        have hid : w.setRow g (cur.toList.take n ++ List.replicate 0 (byteV 0) ++ cur.toList.drop (n + (List.replicate 0 (byteV 0)).length)).toArray = w := by
          have hst' := hst
          simp only [List.replicate_zero, storeCells, Sem.run_pure, Result.ok.injEq, true_and] at hst'
          exact hst'.symm
        simp only [Nat.mul_one]
        rw [hid]
        have hw0 : IntKind.i64.wrap 0 = 0 := by rw [IntKind.wrap_i64]; omega
        simp [Builtin.append_, run_underlying Try.underlying22, run_underlying Try.underlying3, sizeOf, typeInfo, hi, hz1, hz2, asInt, asIntOf, hw0, hroom, hnc, storeCells]
      · have hns : ¬ (m * 1 = 0) := by omega
        simp [Builtin.append_, run_underlying Try.underlying22, run_underlying Try.underlying3, sizeOf, typeInfo, zeroValue, hi, hz0, hz1, hz2, asInt, asIntOf, hw, hneg, h0, h48i, hroom, Value.cells, zero_cells, Addr.add_lit]
        rw [hst]
        simp
    · simp only [List.size_toArray, List.length_append, List.length_take, List.length_drop, Array.length_toList, List.length_replicate]
      omega
    · rw [htake, ← hlen]
      exact List.take_left
  · have holds : ∀ j u, xs[j]? = some u → w.drew.cell? ((⟨g, 0, none⟩ : Addr).add j) = some u := hown.drew.cells (g := g) rfl
    have hf := run_firstCells_some (P := Try.prog) w.drew i.size n ⟨g, 0, none⟩ n cap xs (by rw [hown.1, hz1]) holds
    have hr := Lib.run_append_grow_zeros (P := Try.prog) w 22 3 ty 5 i (.int .u8 0) .i64 .i64 Try.underlying22 Try.underlying3 hi hz0 (some ⟨g, 0, none⟩) n cap xs hf m (by omega) (by omega) (by omega) (by omega) (by rw [hz2]; omega) (by rw [hz2]; exact growslice_fits_wide (by omega) (by omega))
    have hge := grownCap_ge w (n + m) cap 5
    have hcm' : grownCap w (n + m) cap 5 ≤ maxLen := grownCap_le_maxLen w (n + m) cap 5 (by unfold maxLen; omega)
    refine ⟨w.heap.size, _, _, hr, ⟨hlen, .inr ⟨w.heap.size, _, _, rfl, hB, heap_alloc_new w.drew _, hge, hcm', ?_, ?_⟩⟩, ⟨rfl, rfl, rfl, by simp, fun k hk _ => Below.heap_alloc w.drew _ k hk⟩⟩
    · have := hown.1
      simp only [Array.size_append, List.size_toArray, size_zeroCells, Value.cells]
      simp
      omega
    · simp only [Array.toList_append, List.append_assoc, Value.cells, zero_cells]
      rw [← List.append_assoc, ← hlen]
      exact List.take_left

theorem zeros_nil (w : World) (B m : Nat) (ty : TypeId) (hm : m < 9000) (hB : B ≤ w.heap.size) :
    ∃ v' w', (Builtin.append_ #[22, 3] ty #[.slice none 0 0, .int .i64 (m : Int)]).run Try.prog w = .ok v' w' ∧
      w'.ownsRow B 5 1 v' m (List.replicate m (byteV 0)) ∧ w.grownBy w' none := by
  obtain ⟨i, hi, hz0, hz1, hz2⟩ := info_parts Try.info5
  by_cases h0 : m = 0
  · subst h0
    refine ⟨.slice none 0 0, w, ?_, World.ownsRow_nil _ _ _ _, ⟨rfl, rfl, rfl, Nat.le_refl _, fun _ _ _ => rfl⟩⟩
    have hw0 : IntKind.i64.wrap 0 = 0 := by rw [IntKind.wrap_i64]; omega
    simp [Builtin.append_, run_underlying Try.underlying22, run_underlying Try.underlying3, sizeOf, typeInfo, hi, hz1, hz2, asInt, asIntOf, hw0, storeCells]
  · have hr := Lib.run_append_nil_zeros (P := Try.prog) w 22 3 ty 5 i (.int .u8 0) .i64 .i64 Try.underlying22 Try.underlying3 hi hz0 m (by omega) (by omega) (by omega) (by rw [hz2]; omega)
    have hge := grownCap_ge w m 0 5
    have hcm' : grownCap w m 0 5 ≤ maxLen := grownCap_le_maxLen w m 0 5 (by unfold maxLen; omega)
    refine ⟨_, _, hr, ⟨by simp, .inr ⟨w.heap.size, _, _, rfl, hB, heap_alloc_new w.drew _, hge, hcm', ?_, ?_⟩⟩, ⟨rfl, rfl, rfl, by simp, fun k hk _ => Below.heap_alloc w.drew _ k hk⟩⟩
    · simp only [Array.size_append, size_zeroCells, Value.cells]
      simp
      omega
    · simp only [Array.toList_append, Value.cells, zero_cells]
      have : (List.replicate m (byteV 0)).length = m * 1 := by simp
      rw [← this]
      exact List.take_left

/-- The operation, for the walk. -/
theorem wpList_zerosB {ops : Array Oper} {rest : List Oper} {o : Oper} {a : Act} {w : World} {Q : Exit → Act → World → Prop} (hgd : o.guard = none) (s x : Operand)
    (ho : o.op = .call { callee := .builtin .append, args := #[s, x], argTypes := #[22, 3] })
    (B n m : Nat) (v : Value) (xs : List Value) (hs : a.eval s = v) (hx : a.eval x = .int .i64 (m : Int)) (hown : w.ownsRow B 5 1 v n xs)
    (hn : n ≤ 140737488390000) (hm : m < 9000) (hB : B ≤ w.heap.size)
    (h : ∀ v' w', w'.ownsRow B 5 1 v' (n + m) (xs ++ List.replicate m (byteV 0)) → Below B w w' → wpList Try.prog ops Q rest (a.put o.dst v') w') :
    wpList Try.prog ops Q (o :: rest) a w := by
  have hown0 := hown
  rcases hown.2 with ⟨rfl, rfl⟩ | ⟨g, cap, cur, rfl, hbg, hg, _⟩
  · have hx0 : xs = [] := List.eq_nil_of_length_eq_zero (by simpa using hown.1)
    subst hx0
    obtain ⟨v', w', hr, ho2, hg⟩ := zeros_nil w B m o.type hm hB
    exact Lib.wpList_append_run w hgd s x 22 3 ho _ _ hs hx _ _ hr (h v' w' (by simpa using ho2) ((Below.refl B w).grown hg hB (fun k hk => by cases hk)))
  · obtain ⟨g', cap', w', hr, ho2, hg⟩ := zeros_room w B g n cap m o.type xs hown0 hn hm hB
    exact Lib.wpList_append_run w hgd s x 22 3 ho _ _ hs hx _ _ hr (h _ w' ho2 ((Below.refl B w).grown hg hB (fun k hk => by cases hk; exact (hown0.lt g rfl).1)))

/-- Bytes as a string. -/
def strB (bs : List Nat) : ByteArray := (bs.map Int.ofNat).foldl (fun r n => r.push (UInt8.ofNat n.toNat)) ByteArray.empty

theorem conv_str {w : World} {v : Value} {bs : List Nat} (h : Lies w v bs) : (convert 22 9 v).run Try.prog w = .ok (.string (strB bs)) w := by
  obtain ⟨ao, cap, rfl, h2, h3, h4⟩ := h
  rw [run_convert_bytes_string w 22 9 5 ao _ _ Try.underlying22 Try.underlying5 Try.underlying9]
  cases ao with
  | none =>
    have hc := h3 rfl
    subst hc
    have : bs = [] := List.length_eq_zero_iff.1 (by omega)
    subst this
    rfl
  | some a =>
    refine run_bytesToString w a bs.length cap (bs.map Int.ofNat) ?_
    have h := run_loadCells_list (P := Try.prog) (w := w) a (bs.map byteV) (h4 a rfl)
    simp only [List.length_map] at h
    rw [h, List.map_map]
    rfl

theorem strB_push (l : List Nat) (s : ByteArray) : ((l.map Int.ofNat).foldl (fun r n => r.push (UInt8.ofNat n.toNat)) s).data.toList = s.data.toList ++ l.map UInt8.ofNat := by
  induction l generalizing s with
  | nil => simp
  | cons a l ih =>
    simp only [List.map_cons, List.foldl_cons]
    rw [ih]
    simp [ByteArray.push]

theorem strB_inj {xs ys : List Nat} (hx : Small xs) (hy : Small ys) (h : strB xs = strB ys) : xs = ys := by
  have h1 := congrArg (fun s => s.data.toList) h
  simp only [strB, strB_push] at h1
  simp only [ByteArray.empty] at h1
  have h2 : xs.map UInt8.ofNat = ys.map UInt8.ofNat := by simpa using h1
  have h3 := congrArg (fun l => l.map UInt8.toNat) h2
  simp only [List.map_map] at h3
  have key : ∀ l : List Nat, Small l → l.map (UInt8.toNat ∘ UInt8.ofNat) = l := by
    intro l hl
    conv => rhs; rw [← List.map_id l]
    apply List.map_congr_left
    intro b hb
    have := hl b hb
    simp
    omega
  rwa [key xs hx, key ys hy] at h3

end Go.Proofs.Ytnldjcjhhenppaa
