/-
  Rows of texts sorted and compacted by the library; id.Set, id.In, sort.Strings.
-/
import Derived.Test.YtcogeebfldlpoaaHc
import Derived.Test.YtcogeebfldlpoaaSh
import Derived.Test.YtcogeebfldlpoaaMa
import Derived.Deep.DeepAppendWide
set_option linter.unusedSimpArgs false
set_option linter.unusedVariables false
namespace Go.Proofs.Ytcogeebfldlpoaa
open Go.RowKit Go.Sort

theorem putCells_take (d : Array (List UInt8)) (c : Array Value) (h : d.size ≤ c.size) : (putCells encStr 0 d c).toList.take d.size = d.toList.map encStr := by
  apply List.ext_getElem
  · simp [putCells]; omega
  · intro i h1 h2
    have hi : i < d.size := by simpa using h2
    simp [putCells, hi]

/-- A row of texts that the call owns, its head holding other texts now. -/
theorem own_put {w : World} {B g cap n : Nat} {xs : List Value} (h : w.ownsRow B 9 1 (.slice (some ⟨g, 0, none⟩) n cap) n xs) (d : List (List UInt8)) (hd : d.length = n) (q : Nat) (os : Array Obj) (m : Nat) (hm : m ≤ n) :
    (grow (putRow encStr (Sort.ahead w q) g 0 d.toArray) os).ownsRow B 9 1 (.slice (some ⟨g, 0, none⟩) m cap) m ((d.take m).map encStr) ∧ Below B w (grow (putRow encStr (Sort.ahead w q) g 0 d.toArray) os) := by
  have hlen := h.1
  rcases h.2 with ⟨h0, _⟩ | ⟨g', cap', cur, hv, hB, hg, hn, hc, hs, ht⟩
  · cases h0
  cases hv
  have hglt : g < w.heap.size := (Array.getElem?_eq_some_iff.1 hg).1
  have hheap : (grow (putRow encStr (Sort.ahead w q) g 0 d.toArray) os).heap[g]? = some (.cells (putCells encStr 0 d.toArray cur) 9 (0, 0)) := by
    rw [heap_grow_old _ _ (by simpa using hglt)]
    simp [putRow, mapBlock, Array.getElem?_modify, hg, onCells]
  refine ⟨⟨by simp; omega, .inr ⟨g, cap, _, rfl, hB, hheap, by omega, hc, by simp [putCells]; omega, ?_⟩⟩, ⟨rfl, rfl, rfl, by simp, fun k hk => ?_⟩⟩
  · have := putCells_take d.toArray cur (by simp; omega)
    rw [Nat.mul_one]
    have e : (putCells encStr 0 d.toArray cur).toList.take m = ((putCells encStr 0 d.toArray cur).toList.take d.toArray.size).take m := by
      rw [List.take_take, Nat.min_eq_left (by simp; omega)]
    rw [e, this, List.map_take]
  · rw [heap_grow_old _ _ (by simp; omega)]
    simp only [putRow, mapBlock, Array.getElem?_modify, heap_ahead]
    rw [if_neg (by omega)]

theorem own_holds {w : World} {B g cap n : Nat} {ss : List (List UInt8)} (hn : ss.length = n) (h : w.ownsRow B 9 1 (.slice (some ⟨g, 0, none⟩) n cap) n (ss.map encStr)) : Holds encStr w g 0 ss.toArray := by
  intro j hj
  have hj' : j < ss.length := by simpa using hj
  rw [Nat.zero_add]
  refine ⟨?_, h.frozenAt j⟩
  rw [h.cellAt j (by omega), getElem!_pos ss.toArray j hj]
  simp [hj']

theorem sort_own {w : World} {B : Nat} {v : Value} {ss : List (List UInt8)} (h : w.ownsRow B 9 1 v ss.length (ss.map encStr)) (hl : ss.length ≤ 9000000000000) :
    Calls Try.prog 35 #[v] w fun e w' => e = .returned (.tuple #[]) ∧ w'.ownsRow B 9 1 v ss.length ((ss.mergeSort fun x y => decide (x ≤ y)).map encStr) ∧ Below B w w' := by
  have h0 := h
  rcases h.2 with ⟨rfl, hn⟩ | ⟨g, cap, cur, rfl, hB, hg, hn, hc, hs, ht⟩
  · have hss : ss = [] := List.length_eq_zero_iff.1 hn
    subst hss
    refine (Try.slices_Sort_string_none none 0 w).mono ?_
    rintro e w' ⟨rfl, rfl⟩
    exact ⟨rfl, by simpa using h0, Below.refl _ _⟩
  · refine (Try.slices_Sort_string g 0 cap ss w (own_holds rfl h0) (Array.getElem?_eq_some_iff.1 hg).1 (by omega)).mono ?_
    rintro e w' ⟨rfl, n, os, rfl⟩
    obtain ⟨a1, a2⟩ := own_put h0 (ss.mergeSort fun x y => decide (x ≤ y)) (List.length_mergeSort _) n os ss.length (Nat.le_refl _)
    rw [List.take_of_length_le (by rw [List.length_mergeSort]; exact Nat.le_refl _)] at a1
    exact ⟨rfl, a1, a2⟩

theorem compact_le (zs : List (List UInt8)) : (Lib.compact zs).length ≤ zs.length := by
  unfold Lib.compact Lib.compactUpTo
  have h := List.length_filter_le (Lib.keeps zs.toArray) (List.range zs.length)
  simpa using h

theorem compact_own {w : World} {B : Nat} {v : Value} {ss : List (List UInt8)} (h : w.ownsRow B 9 1 v ss.length (ss.map encStr)) (hl : ss.length ≤ 9000000000000) :
    Calls Try.prog 36 #[v] w fun e w' => ∃ v', e = .returned v' ∧ w'.ownsRow B 9 1 v' (Lib.compact ss).length ((Lib.compact ss).map encStr) ∧ Below B w w' := by
  have h0 := h
  rcases h.2 with ⟨rfl, hn⟩ | ⟨g, cap, cur, rfl, hB, hg, hn, hc, hs, ht⟩
  · have hss : ss = [] := List.length_eq_zero_iff.1 hn
    subst hss
    refine (Try.slices_Compact_string_empty none 0 w).mono ?_
    rintro e w' ⟨rfl, rfl⟩
    exact ⟨_, rfl, by simpa [Lib.compact, Lib.compactUpTo] using h0, Below.refl _ _⟩
  · refine (Try.slices_Compact_string g 0 cap ss w (own_holds rfl h0) (by omega) hn).mono ?_
    rintro e w' ⟨rfl, q, rfl⟩
    have hcl := compact_le ss
    obtain ⟨a1, a2⟩ := own_put h0 (Lib.compact ss ++ List.replicate (ss.length - (Lib.compact ss).length) []) (by simp; omega) q #[] (Lib.compact ss).length hcl
    rw [List.take_append_of_le_length (Nat.le_refl _), List.take_of_length_le (Nat.le_refl _), grow_empty] at a1
    rw [grow_empty] at a2
    exact ⟨_, rfl, a1, a2⟩

set_option maxHeartbeats 1000000 in
theorem idset_walk (w : World) (v : Value) (ss : List (List UInt8)) (hv : LiesS w v ss) (hl : ss.length ≤ 9000000000000) :
    Calls Try.prog 29 #[v] w fun e w' => ∃ v', e = .returned v' ∧ w'.ownsRow w.heap.size 9 1 v' (setL ss).length ((setL ss).map encStr) ∧ Below w.heap.size w w' := by
  have HV := mkHid hv
  have HL := mkHid hl
  obtain ⟨ao, cap, rfl, _⟩ := hv
  clear hl
  go_enter Try.func29, Try.ntmps29
  go_wp2_with (first
    | (at_builtin; refine wpList_appS rfl (.const (.slice none 0 0)) (.tmp 4) rfl w.heap.size (.slice none 0 0) 0 [] rfl (World.ownsRow_nil _ _ _ _) _ ss rfl HV.out (by have := HL.out; omega) (Nat.le_refl _) ?_
       intro v1 w1 ho1 hb1 hg1
       rw [Nat.zero_add, List.nil_append] at ho1
       have k1 : Hid (Calls Try.prog 35 #[v1] w1 _) := sort_own ho1 HL.out
       clear ho1 hg1)
    | (go_at_call 35; (with_reducible refine k1.out.mono ?_); rintro e w2 ⟨rfl, ho2, hb2⟩
       have k2 : Hid (Calls Try.prog 36 #[v1] w2 _) := compact_own (by rw [List.length_mergeSort]; exact ho2) (by rw [List.length_mergeSort]; exact HL.out)
       clear ho2)
    | (go_at_call 36; (with_reducible refine k2.out.mono ?_); rintro e w3 ⟨v3, rfl, ho3, hb3⟩))
  go_ret
  exact ⟨_, rfl, ho3, (hb1.trans hb2).trans hb3⟩

theorem contains_eq (ss : List (List UInt8)) (x : ByteArray) : Lib.containsS (ss.map fun l => (⟨l.toArray⟩ : ByteArray)) x = decide (x.data.toList ∈ ss) := by
  rw [Bool.eq_iff_iff, Lib.containsS_iff, decide_eq_true_eq, List.mem_map]
  constructor
  · rintro ⟨l, hl, rfl⟩; simpa using hl
  · intro h; exact ⟨_, h, by cases x; simp⟩

theorem contains_lies (w : World) (v : Value) (ss : List (List UInt8)) (x : ByteArray) (hv : LiesS w v ss) (hl : ss.length ≤ 9000000000000) :
    Calls Try.prog 37 #[v, .string x] w fun e w' => e = .returned (.bool (decide (x.data.toList ∈ ss))) ∧ w' = w := by
  by_cases h0 : ss.length = 0
  · obtain ⟨ao, cap, rfl, _⟩ := hv
    have e1 : ss = [] := List.length_eq_zero_iff.1 h0
    subst e1
    simpa using Try.slices_Contains_string_empty ao cap x w
  · obtain ⟨b, off, cap, rfl, h2, h3⟩ := hv.form (by omega)
    have := Try.slices_Contains_string b off ss.length cap (ss.map fun l => (⟨l.toArray⟩ : ByteArray)) x w (by simp) (by omega) (fun j hj => by
      have hj' : j < ss.length := by simpa using hj
      rw [h3 j hj']
      simp [hj', encStr])
    rw [List.take_of_length_le (by simp), contains_eq] at this
    exact this

set_option maxHeartbeats 1000000 in
theorem idin_walk (w : World) (v : Value) (ss : List (List UInt8)) (x : ByteArray) (hv : LiesS w v ss) (hl : ss.length ≤ 9000000000000) :
    Calls Try.prog 31 #[v, .string x] w fun e w' => e = .returned (.bool (decide (x.data.toList ∈ ss))) ∧ w' = w := by
  have k1 := mkHid (contains_lies w v ss x hv hl)
  obtain ⟨ao, cap, rfl, _⟩ := hv
  go_enter Try.func31, Try.ntmps31
  go_wp2_with (go_at_call 37; (with_reducible refine k1.out.mono ?_); rintro e w1 ⟨rfl, rfl⟩)
  go_ret
  exact ⟨rfl, rfl⟩


theorem sorts_own {w : World} {B : Nat} {v : Value} {ss : List (List UInt8)} (h : w.ownsRow B 9 1 v ss.length (ss.map encStr)) (hl : ss.length ≤ 9000000000000) :
    Calls Try.prog 30 #[v] w fun e w' => e = .returned (.tuple #[]) ∧ w'.ownsRow B 9 1 v ss.length ((ss.mergeSort fun x y => decide (x ≤ y)).map encStr) ∧ Below B w w' := by
  have h0 := mkHid (sort_own h hl)
  rcases h.2 with ⟨rfl, hn⟩ | ⟨g, cap, cur, rfl, hB, hg, hn, hc, hs, ht⟩
  · clear h hl hn
    go_enter Try.func30, Try.ntmps30
    go_wp2_with (go_at_call 35; (with_reducible refine h0.out.mono ?_); rintro e w2 ⟨rfl, h1, h2⟩; have H1 := mkHid h1; have H2 := mkHid h2; clear h1 h2)
    go_end0
    exact ⟨rfl, H1.out, H2.out⟩
  · clear h hl hB hg hn hc hs ht cur
    go_enter Try.func30, Try.ntmps30
    go_wp2_with (go_at_call 35; (with_reducible refine h0.out.mono ?_); rintro e w2 ⟨rfl, h1, h2⟩; have H1 := mkHid h1; have H2 := mkHid h2; clear h1 h2)
    go_end0
    exact ⟨rfl, H1.out, H2.out⟩

end Go.Proofs.Ytcogeebfldlpoaa
