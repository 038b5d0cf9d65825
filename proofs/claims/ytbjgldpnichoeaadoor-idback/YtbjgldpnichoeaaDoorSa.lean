/-
  Slices of texts: read, owned; sorted and compacted in their rows; Set, In, Same, Text walked.
-/
import Derived.Test.YtbjgldpnichoeaaDoorPa
import Derived.Test.YtbjgldpnichoeaaDoorShb
import Derived.Test.YtbjgldpnichoeaaDoorMa
import Derived.Deep.DeepAppendWide
set_option linter.unusedSimpArgs false
set_option linter.unusedVariables false
namespace Go.Proofs.YtbjgldpnichoeaaDoor
open Go.RowKit Go.Sort

/-- The slice v reads as the texts ss. -/
def LiesS (w : World) (v : Value) (ss : List (List UInt8)) : Prop :=
  ∃ ao cap, v = .slice ao ss.length cap ∧ ss.length ≤ cap ∧ (ao = none → cap = 0) ∧ ∀ a, ao = some a → ∀ j u, (ss.map encStr)[j]? = some u → w.cell? (a.add j) = some u

theorem LiesS.old {w w' : World} {v : Value} {ss : List (List UInt8)} (h : LiesS w v ss) (hb : Below w.heap.size w w') : LiesS w' v ss := by
  obtain ⟨ao, cap, h1, h2, h3, h4⟩ := h
  exact ⟨ao, cap, h1, h2, h3, fun a ha j u hu => cell_old hb (h4 a ha j u hu)⟩

theorem lies_own {w : World} {B n : Nat} {v : Value} {ss : List (List UInt8)} (hn : ss.length = n) (h : w.ownsRow B 9 1 v n (ss.map encStr)) : LiesS w v ss := by
  subst hn
  have h0 := h
  rcases h.2 with ⟨rfl, hn⟩ | ⟨g, cap, cur, rfl, _, hg, hn, _⟩
  · exact ⟨none, 0, by rw [hn], by omega, fun _ => rfl, fun a ha => by cases ha⟩
  · refine ⟨_, cap, rfl, hn, fun h => (by cases h), fun a ha j u hu => ?_⟩
    cases ha
    exact h0.cells rfl j u hu

theorem LiesS.at {w : World} {v : Value} {ss : List (List UInt8)} (h : LiesS w v ss) (hn : 0 < ss.length) : ∃ a cap, v = .slice (some a) ss.length cap ∧ ss.length ≤ cap ∧ ∀ k, k < ss.length → w.cell? (a.add k) = some (encStr (ss.getD k [])) := by
  obtain ⟨ao, cap, h1, h2, h3, h4⟩ := h
  cases ao with
  | none => have := h3 rfl; omega
  | some a => exact ⟨a, cap, h1, h2, fun k hk => h4 a rfl k _ (by simp [hk])⟩

theorem strs_one (ss : List (List UInt8)) : ∀ u ∈ ss.map encStr, u.oneCell' = true := by
  intro u hu
  obtain ⟨b, _, rfl⟩ := List.mem_map.1 hu
  rfl

theorem Tryd.info9 : (Tryd.prog.info? 9).map (fun i => (i.zero, i.size, i.bytes)) = some (some (.string ⟨#[]⟩), 1, 16) := by kernel_rfl
theorem Tryd.underlying30 : Tryd.prog.underlying 30 = some (.slice 9) := by kernel_rfl

/-- One slice of texts put behind another, owned one. -/
theorem wpList_appS {ops : Array Oper} {rest : List Oper} {o : Oper} {a : Act} {w : World} {Q : Exit → Act → World → Prop} (hgd : o.guard = none) (s x : Operand)
    (ho : o.op = .call { callee := .builtin .append, args := #[s, x], argTypes := #[30, 30] })
    (B : Nat) (v : Value) (n : Nat) (xs : List (List UInt8)) (hs : a.eval s = v) (hown : w.ownsRow B 9 1 v n (xs.map encStr)) (u : Value) (ys : List (List UInt8)) (hx : a.eval x = u) (hu : LiesS w u ys)
    (hl : n + ys.length ≤ 9000000000000) (hB : B ≤ w.heap.size)
    (h : ∀ v' w', w'.ownsRow B 9 1 v' (n + ys.length) ((xs ++ ys).map encStr) → Below B w w' → w.grownBy w' v.ownBlock → wpList Tryd.prog ops Q rest (a.put o.dst v') w') : wpList Tryd.prog ops Q (o :: rest) a w := by
  obtain ⟨i, hi, hz0, hz1, hz2⟩ := info_parts Tryd.info9
  obtain ⟨ao, cap, rfl, h2, h3, h4⟩ := hu
  cases ao with
  | none =>
    have hc := h3 rfl
    subst hc
    have hy : ys = [] := List.length_eq_zero_iff.1 (by omega)
    subst hy
    refine wpList_append_own_none hgd s x 30 ho B 9 i 1 Tryd.underlying30 hi v n _ hs hown (by rw [hx]; rfl) ?_
    exact h _ _ (by simpa using hown) (Below.refl _ _ |>.mono (by omega)) (World.grownBy.mk rfl rfl rfl (Nat.le_refl _) (fun _ _ _ => rfl))
  | some ad =>
    refine wpList_append_own_wide _ hgd s x 30 ho B 9 i (.string ⟨#[]⟩) 1 16 Tryd.underlying30 hi hz0 hz1 hz2 rfl (by decide) v n _ hs hown ad ys.length cap (ys.map encStr) hx (by simp) (h4 ad rfl) (strs_one ys) (by unfold maxLen; omega) (by omega) hB ?_
    intro v' w' ho' hg _
    refine h v' w' (by simpa using ho') ((Below.refl B w).grown hg (by omega) (fun k hk => ?_)) hg
    exact (hown.lt k hk).1

theorem putCells_take (d : Array (List UInt8)) (c : Array Value) (h : d.size ≤ c.size) : (putCells encStr 0 d c).toList.take d.size = d.toList.map encStr := by
  apply List.ext_getElem
  · simp [putCells]; omega
  · intro i h1 h2
    have hi : i < d.size := by simpa using h2
    simp [putCells, hi]

/-- A row of texts that the call owns, its head holding other texts now. -/
theorem own_put {w : World} {B g cap n : Nat} {xs : List Value} (h : w.ownsRow B 9 1 (.slice (some ⟨g, 0, none⟩) n cap) n xs) (d : List (List UInt8)) (hd : d.length = n) (q : Nat) (os : Array Obj) (m : Nat) (hm : m ≤ n) :
    (grow (putRow encStr (Sort.ahead w q) g 0 d.toArray) os).ownsRow B 9 1 (.slice (some ⟨g, 0, none⟩) m cap) m ((d.take m).map encStr) ∧ Below B w (grow (putRow encStr (Sort.ahead w q) g 0 d.toArray) os) := by
  have hlen := h.1
  rcases h.2 with ⟨h0, _⟩ | ⟨g', cap', cur, hv, hB, hg, hn, hc, hs, ht⟩
  · cases h0
  cases hv
  have hglt : g < w.heap.size := (Array.getElem?_eq_some_iff.1 hg).1
  have hheap : (grow (putRow encStr (Sort.ahead w q) g 0 d.toArray) os).heap[g]? = some (.cells (putCells encStr 0 d.toArray cur) 9 (0, 0)) := by
    rw [heap_grow_old _ _ (by simpa using hglt)]
    simp [putRow, mapBlock, Array.getElem?_modify, hg, onCells]
  refine ⟨⟨by simp; omega, .inr ⟨g, cap, _, rfl, hB, hheap, by omega, hc, by simp [putCells]; omega, ?_⟩⟩, ⟨rfl, rfl, rfl, by simp, fun k hk => ?_⟩⟩
  · have := putCells_take d.toArray cur (by simp; omega)
    rw [Nat.mul_one]
    have e : (putCells encStr 0 d.toArray cur).toList.take m = ((putCells encStr 0 d.toArray cur).toList.take d.toArray.size).take m := by
      rw [List.take_take, Nat.min_eq_left (by simp; omega)]
    rw [e, this, List.map_take]
  · rw [heap_grow_old _ _ (by simp; omega)]
    simp only [putRow, mapBlock, Array.getElem?_modify, heap_ahead]
    rw [if_neg (by omega)]

theorem own_holds {w : World} {B g cap n : Nat} {ss : List (List UInt8)} (hn : ss.length = n) (h : w.ownsRow B 9 1 (.slice (some ⟨g, 0, none⟩) n cap) n (ss.map encStr)) : Holds encStr w g 0 ss.toArray := by
  intro j hj
  have hj' : j < ss.length := by simpa using hj
  rw [Nat.zero_add]
  refine ⟨?_, h.frozenAt j⟩
  rw [h.cellAt j (by omega), getElem!_pos ss.toArray j hj]
  simp [hj']

theorem sort_own {w : World} {B : Nat} {v : Value} {ss : List (List UInt8)} (h : w.ownsRow B 9 1 v ss.length (ss.map encStr)) (hl : ss.length ≤ 9000000000000) :
    Calls Tryd.prog 21 #[v] w fun e w' => e = .returned (.tuple #[]) ∧ w'.ownsRow B 9 1 v ss.length ((ss.mergeSort fun x y => decide (x ≤ y)).map encStr) ∧ Below B w w' := by
  have h0 := h
  rcases h.2 with ⟨rfl, hn⟩ | ⟨g, cap, cur, rfl, hB, hg, hn, hc, hs, ht⟩
  · have hss : ss = [] := List.length_eq_zero_iff.1 hn
    subst hss
    refine (Tryd.slices_Sort_string_none none 0 w).mono ?_
    rintro e w' ⟨rfl, rfl⟩
    exact ⟨rfl, by simpa using h0, Below.refl _ _⟩
  · refine (Tryd.slices_Sort_string g 0 cap ss w (own_holds rfl h0) (Array.getElem?_eq_some_iff.1 hg).1 (by omega)).mono ?_
    rintro e w' ⟨rfl, n, os, rfl⟩
    obtain ⟨a1, a2⟩ := own_put h0 (ss.mergeSort fun x y => decide (x ≤ y)) (List.length_mergeSort _) n os ss.length (Nat.le_refl _)
    rw [List.take_of_length_le (by rw [List.length_mergeSort]; exact Nat.le_refl _)] at a1
    exact ⟨rfl, a1, a2⟩

theorem compact_le (zs : List (List UInt8)) : (Lib.compact zs).length ≤ zs.length := by
  unfold Lib.compact Lib.compactUpTo
  have h := List.length_filter_le (Lib.keeps zs.toArray) (List.range zs.length)
  simpa using h

theorem compact_own {w : World} {B : Nat} {v : Value} {ss : List (List UInt8)} (h : w.ownsRow B 9 1 v ss.length (ss.map encStr)) (hl : ss.length ≤ 9000000000000) :
    Calls Tryd.prog 22 #[v] w fun e w' => ∃ v', e = .returned v' ∧ w'.ownsRow B 9 1 v' (Lib.compact ss).length ((Lib.compact ss).map encStr) ∧ Below B w w' := by
  have h0 := h
  rcases h.2 with ⟨rfl, hn⟩ | ⟨g, cap, cur, rfl, hB, hg, hn, hc, hs, ht⟩
  · have hss : ss = [] := List.length_eq_zero_iff.1 hn
    subst hss
    refine (Tryd.slices_Compact_string_empty none 0 w).mono ?_
    rintro e w' ⟨rfl, rfl⟩
    exact ⟨_, rfl, by simpa [Lib.compact, Lib.compactUpTo] using h0, Below.refl _ _⟩
  · refine (Tryd.slices_Compact_string g 0 cap ss w (own_holds rfl h0) (by omega) hn).mono ?_
    rintro e w' ⟨rfl, q, rfl⟩
    have hcl := compact_le ss
    obtain ⟨a1, a2⟩ := own_put h0 (Lib.compact ss ++ List.replicate (ss.length - (Lib.compact ss).length) []) (by simp; omega) q #[] (Lib.compact ss).length hcl
    rw [List.take_append_of_le_length (Nat.le_refl _), List.take_of_length_le (Nat.le_refl _), grow_empty] at a1
    rw [grow_empty] at a2
    exact ⟨_, rfl, a1, a2⟩

set_option maxHeartbeats 1000000 in
theorem set_walk (w : World) (v : Value) (ss : List (List UInt8)) (hv : LiesS w v ss) (hl : ss.length ≤ 9000000000000) :
    Calls Tryd.prog 13 #[v] w fun e w' => ∃ v', e = .returned v' ∧ w'.ownsRow w.heap.size 9 1 v' (setL ss).length ((setL ss).map encStr) ∧ Below w.heap.size w w' := by
  have HV := mkHid hv
  have HL := mkHid hl
  obtain ⟨ao, cap, rfl, _⟩ := hv
  clear hl
  go_enter Tryd.func13, Tryd.ntmps13
  go_wp2_with (first
    | (at_builtin; refine wpList_appS rfl (.const (.slice none 0 0)) (.tmp 4) rfl w.heap.size (.slice none 0 0) 0 [] rfl (World.ownsRow_nil _ _ _ _) _ ss rfl HV.out (by have := HL.out; omega) (Nat.le_refl _) ?_
       intro v1 w1 ho1 hb1 hg1
       rw [Nat.zero_add, List.nil_append] at ho1
       have k1 : Hid (Calls Tryd.prog 21 #[v1] w1 _) := sort_own ho1 HL.out
       clear ho1 hg1)
    | (go_at_call 21; (with_reducible refine k1.out.mono ?_); rintro e w2 ⟨rfl, ho2, hb2⟩
       have k2 : Hid (Calls Tryd.prog 22 #[v1] w2 _) := compact_own (by rw [List.length_mergeSort]; exact ho2) (by rw [List.length_mergeSort]; exact HL.out)
       clear ho2)
    | (go_at_call 22; (with_reducible refine k2.out.mono ?_); rintro e w3 ⟨v3, rfl, ho3, hb3⟩))
  go_ret
  exact ⟨_, rfl, ho3, (hb1.trans hb2).trans hb3⟩

end Go.Proofs.YtbjgldpnichoeaaDoor
