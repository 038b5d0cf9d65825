/-
  huff.New.
-/
import Derived.Test.YtdokpimhhkbdbaaDoorDa
import Derived.BigRegion
set_option linter.unusedSimpArgs false
set_option linter.unusedVariables false
namespace Go.Proofs.YtdokpimhhkbdbaaDoor
open Go.RowKit

theorem wpList_load_rowG {P : Program} {ops : Array Oper} {rest : List Oper} {o : Oper} {a : Act} {w : World} {Q : Exit → Act → World → Prop} (hw : Region.wanted o (yielded ops a.tmps) = true) (ty : TypeId) (x : Operand) (ho : o.op = .load ty x)
    (g : Nat) (hx : a.eval x = .pointer (some ⟨g, 0, none⟩)) (t : TypeId) (cs : Array Value) (fr : Nat × Nat) (d : TypeDesc) (hg : w.heap[g]? = some (.cells cs t fr))
    (hu : P.underlying ty = some d) (hd : (match d with | .struct _ | .array _ _ => true | _ => false) = true) (hi : (P.info? ty).map (·.size) = some cs.size)
    (h : wpList P ops Q rest (a.put o.dst (.agg cs)) w) : wpList P ops Q (o :: rest) a w :=
  wpList_step fun K hK => by
    rw [if_pos hw]
    exact wp_load_row ty x ho g hx t cs fr d hg hu hd hi (hK _ _ h)

theorem new_long (w : World) (v : Value) (zs : List Int) (hv : Ints w v zs) (hl : 320 < zs.length) (hl2 : zs.length ≤ 140737488355328) :
    Calls Tryd.prog 60 #[v] w fun e w' => e = .returned (.tuple #[.pointer none, .int .i64 2]) ∧ Below w.heap.size w w' := by
  obtain ⟨ao, cap, rfl, h2, h3, h4⟩ := hv
  clear h3 h4
  have hgt : (320 : Int) < (zs.length : Int) := by omega
  go_enter Tryd.func60, Tryd.ntmps60
  go_wp2
  go_ret2
  exact ⟨rfl, Below.refl _ _⟩

set_option maxRecDepth 100000 in
set_option maxHeartbeats 2000000 in
theorem new_not (w : World) (v : Value) (zs : List Int) (hv : Ints w v zs) (hl : zs.length ≤ 320) (hn : ¬ (May zs ∧ Fits (zs.map Int.toNat))) :
    Calls Tryd.prog 60 #[v] w fun e w' => e = .returned (.tuple #[.pointer none, .int .i64 2]) ∧ Below w.heap.size w w' := by
  have hc := count_walk w v zs hv hl
  obtain ⟨ao, cap, rfl, h2, h3, h4⟩ := hv
  clear h3 h4
  have hgt : ¬ (320 : Int) < (zs.length : Int) := by omega
  by_cases hm : May zs
  · have hnf : ¬ Fits (zs.map Int.toNat) := fun h => hn ⟨hm, h⟩
    obtain ⟨l, hle⟩ : ∃ l, l = zs.map Int.toNat := ⟨_, rfl⟩
    rw [← hle] at hc hnf
    have hll : l.length ≤ 320 := by rw [hle, List.length_map]; exact hl
    obtain ⟨C, hC⟩ : ∃ C, C = cells16 (cn l) := ⟨_, rfl⟩
    have HC : Hid (Calls Tryd.prog 73 #[.slice ao zs.length cap] w fun e w' => e = .returned (.tuple #[.agg C, .bool true]) ∧ Below w.heap.size w w') := by
      refine hc.mono ?_
      rintro e w' ⟨hb, ⟨_, he⟩ | ⟨h, _⟩⟩
      · rw [hC]; exact ⟨he, hb⟩
      · exact absurd hm h
    have HF : Hid (∀ w, Calls Tryd.prog 74 #[.agg C] w fun e w' => e = .returned (.bool false) ∧ Below w.heap.size w w') := by
      intro w
      rw [hC]
      refine (fits_walk w l hll).mono ?_
      rintro e w' ⟨hb, b, rfl, hbb⟩
      cases b with
      | true => exact absurd (hbb.1 rfl) hnf
      | false => exact ⟨rfl, hb⟩
    have HI : Hid ((Tryd.prog.info? 98).map (·.size) = some C.size) := by show _ = _; rw [hC, cells16_size]; exact Tryd.info61
    have HSZ : Hid (16 = C.size) := by show _ = _; rw [hC, cells16_size]
    have H1 : Hid (C.all (·.oneCell') = true) := by show _ = _; rw [hC]; exact cells16_one _
    clear hc hle hnf hm hn hC
    go_enter Tryd.func60, Tryd.ntmps60
    go_wp2_with (first
      | (go_at_call 73; (with_reducible refine HC.out.mono ?_); rintro e w1 ⟨rfl, hb1⟩)
      | (go_at_call 74; (with_reducible refine (HF.out _).mono ?_); rintro e w2 ⟨rfl, hb2⟩)
      | (refine wpList_store_row rfl 98 (.tmp 4) (.tmp 13) rfl w1.heap.size C rfl rfl 98 _ (heap_alloc_new w1 _) HI.out HSZ.out H1.out ?_; rw [World.setRow_alloc_new])
      | (refine wpList_load_rowG (by rfl) 98 (.tmp 4) rfl w1.heap.size rfl 98 C (0, 0) _ (heap_alloc_new w1 _) Tryd.under61 rfl HI.out ?_))
    go_ret2
    refine ⟨rfl, (hb1.alloc hb1.size _).trans (hb2.mono ?_)⟩
    have := hb1.size
    simp
    omega
  · obtain ⟨C, hC⟩ : ∃ C, C = cells16 (fun _ => 0) := ⟨_, rfl⟩
    have HC : Hid (Calls Tryd.prog 73 #[.slice ao zs.length cap] w fun e w' => e = .returned (.tuple #[.agg C, .bool false]) ∧ Below w.heap.size w w') := by
      refine hc.mono ?_
      rintro e w' ⟨hb, ⟨h, _⟩ | ⟨_, he⟩⟩
      · exact absurd h hm
      · rw [hC]; exact ⟨he, hb⟩
    have HI : Hid ((Tryd.prog.info? 98).map (·.size) = some C.size) := by show _ = _; rw [hC, cells16_size]; exact Tryd.info61
    have HSZ : Hid (16 = C.size) := by show _ = _; rw [hC, cells16_size]
    have H1 : Hid (C.all (·.oneCell') = true) := by show _ = _; rw [hC]; exact cells16_one _
    clear hc hm hn hC
    go_enter Tryd.func60, Tryd.ntmps60
    go_wp2_with (first
      | (go_at_call 73; (with_reducible refine HC.out.mono ?_); rintro e w1 ⟨rfl, hb1⟩)
      | (refine wpList_store_row rfl 98 (.tmp 4) (.tmp 13) rfl w1.heap.size C rfl rfl 98 _ (heap_alloc_new w1 _) HI.out HSZ.out H1.out ?_; rw [World.setRow_alloc_new]))
    go_ret2
    exact ⟨rfl, hb1.alloc hb1.size _⟩

/-- The table at block tb of the lengths l. -/
structure Tab (w : World) (tb : Nat) (l : List Nat) : Prop where
  mem : ∃ cb v c, w.heap[tb]? = some (.cells (#[.slice (some ⟨cb, 0, none⟩) l.length l.length, v] ++ cells16 (cn l)) 100 (0, 0)) ∧ w.heap[cb]? = some (.cells c 102 (0, 0)) ∧ Ent c l 16 0 ∧ w.ownsRow 0 3 1 v (ord l 16).length ((ord l 16).map natV)
  len : l.length ≤ 320
  le : ∀ x ∈ l, x ≤ 15
  fits : Fits l

theorem Tryd.info69z : (Tryd.prog.info? 102).map (fun i => (i.zero, i.size, i.bytes)) = some (some (.agg #[.int .i64 0, .int .i64 0]), 2, 16) := by kernel_rfl
theorem Tryd.under64 : Tryd.prog.underlying 96 = some (.slice 102) := by kernel_rfl

theorem make_ent (N : Nat) (hN : N ≤ 320) (w : World) : (Instr.makeSlice 96 (.int .i64 (N : Int)) (.int .i64 (N : Int))).run Tryd.prog w = .ok (.slice (some ⟨w.heap.size, 0, none⟩) N N) (w.alloc (.cells (madeCells #[.int .i64 0, .int .i64 0] (N * 2)) 102)) := by
  obtain ⟨i, hi, hz0, hz1, hz2⟩ := info_parts Tryd.info69z
  have := run_make (P := Tryd.prog) w 96 102 i _ Tryd.under64 hi hz0 .i64 .i64 (N : Int) (N : Int) (by omega) (by omega) (by rw [hz2]; omega) (by omega)
  rw [hz1] at this
  simpa [Value.cells] using this

theorem owns_base3 {w : World} {B B' : Nat} {v : Value} {n : Nat} {xs : List Value} (h : w.ownsRow B 3 1 v n xs) (hB : B' ≤ B) : w.ownsRow B' 3 1 v n xs := by
  refine ⟨h.1, ?_⟩
  rcases h.2 with h2 | ⟨g, cap, cur, rfl, hb, r⟩
  · exact .inl h2
  · exact .inr ⟨g, cap, cur, rfl, Nat.le_trans hB hb, r⟩

theorem made_get (N j : Nat) (hj : j < N * 2) : (madeCells #[.int .i64 0, .int .i64 0] (N * 2))[j]? = some (natV 0) := by
  simp only [madeCells]
  simp [hj, natV]
  rcases (show j % 2 = 0 ∨ j % 2 = 1 by omega) with h | h <;> simp [h]

theorem deal_start (w0 w : World) (l : List Nat) (N : Nat) (hN : l.length = N) (hs : w0.heap.size ≤ w.heap.size) (hb : Below w0.heap.size w0 w) :
    Deal w0.heap.size w0 ((w.alloc (.cells (madeCells #[.int .i64 0, .int .i64 0] (N * 2)) 102)).alloc (.cells (#[.slice (some ⟨w.heap.size, 0, none⟩) N N, .slice none 0 0] ++ cells16 (cn l)) 100)).drew (w.heap.size + 1) w.heap.size l 1 0 [] := by
  subst hN
  have hnd : ∀ j, ¬ Dealt l 1 0 j := fun j h => by unfold Dealt at h; omega
  refine ⟨⟨.slice none 0 0, madeCells #[.int .i64 0, .int .i64 0] (l.length * 2), ?_, ?_, ⟨by rw [size_madeCells]; omega, fun j hj => ?_, fun j hj => ?_⟩, World.ownsRow_nil _ _ _ _⟩, by omega, hs, ?_⟩
  · have h1 := heap_alloc_new (w.alloc (.cells (madeCells #[.int .i64 0, .int .i64 0] (l.length * 2)) 102)) (.cells (#[.slice (some ⟨w.heap.size, 0, none⟩) l.length l.length, .slice none 0 0] ++ cells16 (cn l)) 100)
    have h2 : (w.alloc (.cells (madeCells #[.int .i64 0, .int .i64 0] (l.length * 2)) 102)).heap.size = w.heap.size + 1 := by simp
    rw [h2] at h1
    exact h1
  · show ((w.alloc (.cells (madeCells #[.int .i64 0, .int .i64 0] (l.length * 2)) 102)).alloc _).heap[w.heap.size]? = _
    rw [Below.heap_alloc _ _ _ (by simp)]
    exact heap_alloc_new w _
  · rw [if_neg (hnd j), made_get _ _ (by omega)]
  · rw [if_neg (hnd j), made_get _ _ (by omega)]
  · exact ((hb.alloc hs _).alloc (by simp; omega) _).drew

set_option maxRecDepth 100000 in
set_option maxHeartbeats 2000000 in
theorem new_ok (w : World) (v : Value) (zs : List Int) (hv : Ints w v zs) (hl : zs.length ≤ 320) (hm : May zs) (hf : Fits (zs.map Int.toNat)) :
    Calls Tryd.prog 60 #[v] w fun e w' => ∃ tb, e = .returned (.tuple #[.pointer (some ⟨tb, 0, none⟩), .int .i64 0]) ∧ w.heap.size ≤ tb ∧ Below w.heap.size w w' ∧ Tab w' tb (zs.map Int.toNat) := by
  have hc := count_walk w v zs hv hl
  have hlens := lens_of hv hm
  obtain ⟨ao, cap, rfl, h2, h3, h4⟩ := hv
  clear h3 h4
  have hgt : ¬ (320 : Int) < (zs.length : Int) := by omega
  obtain ⟨l, hle⟩ : ∃ l, l = zs.map Int.toNat := ⟨_, rfl⟩
  rw [← hle] at hc hf hlens ⊢
  have hN : l.length = zs.length := by rw [hle, List.length_map]
  have hll : l.length ≤ 320 := by omega
  obtain ⟨N, hNe⟩ : ∃ N, N = zs.length := ⟨_, rfl⟩
  rw [← hNe] at hc hN hl h2 hgt hlens ⊢
  have h15 : ∀ x ∈ l, x ≤ 15 := by
    intro x hx
    rw [hle] at hx
    obtain ⟨z, hz, rfl⟩ := List.mem_map.1 hx
    have := hm z hz
    omega
  obtain ⟨C, hC⟩ : ∃ C, C = cells16 (cn l) := ⟨_, rfl⟩
  have HC : Hid (Calls Tryd.prog 73 #[.slice ao N cap] w fun e w' => e = .returned (.tuple #[.agg C, .bool true]) ∧ Below w.heap.size w w') := by
    refine hc.mono ?_
    rintro e w' ⟨hb, ⟨_, he⟩ | ⟨h, _⟩⟩
    · rw [hC]; exact ⟨he, hb⟩
    · exact absurd hm h
  have HF : Hid (∀ w, Calls Tryd.prog 74 #[.agg C] w fun e w' => e = .returned (.bool true) ∧ Below w.heap.size w w') := by
    intro w
    rw [hC]
    refine (fits_walk w l hll).mono ?_
    rintro e w' ⟨hb, b, rfl, hbb⟩
    cases b with
    | true => exact ⟨rfl, hb⟩
    | false => exact absurd (hbb.2 hf) (by simp)
  have HI : Hid ((Tryd.prog.info? 98).map (·.size) = some C.size) := by show _ = _; rw [hC, cells16_size]; exact Tryd.info61
  have HSZ : Hid (16 = C.size) := by show _ = _; rw [hC, cells16_size]
  have H1 : Hid (C.all (·.oneCell') = true) := by show _ = _; rw [hC]; exact cells16_one _
  have HCE : Hid (C = cells16 (cn l)) := hC
  have HN : Hid (l.length = N) := hN
  have HL : Hid (Lens w (.slice ao N cap) l) := hlens
  have H15 : Hid (∀ x ∈ l, x ≤ 15) := h15
  clear hc hle hm hC hN hNe hlens h15
  have hmk := make_ent N hl
  go_enter Tryd.func60, Tryd.ntmps60
  go_wp2_with (first
      | (go_at_call 73; (with_reducible refine HC.out.mono ?_); rintro e w1 ⟨rfl, hb1⟩)
      | (go_at_call 74; (with_reducible refine (HF.out _).mono ?_); rintro e w2 ⟨rfl, hb2⟩)
      | (refine wpList_store_row rfl 98 (.tmp 4) (.tmp 13) rfl w1.heap.size C rfl rfl 98 _ (heap_alloc_new w1 _) HI.out HSZ.out H1.out ?_; rw [World.setRow_alloc_new])
      | (refine wpList_load_rowG (by rfl) 98 (.tmp 4) rfl w1.heap.size rfl 98 C (0, 0) _ (heap_alloc_new w1 _) Tryd.under61 rfl HI.out ?_))
  have hcell : ∀ k, k < 16 → w2.cell? ⟨w1.heap.size, k, none⟩ = some (.int .i64 ((cn l k : Nat) : Int)) := fun k hk => by
    rw [hb2.cell (by simp), cell_of_row _ _ k _ _ _ (heap_alloc_new w1 _), HCE.out, cells16_get _ _ hk]; rfl
  have q0 := hcell 0 (by omega)
  have q1 := hcell 1 (by omega)
  have q2 := hcell 2 (by omega)
  have q3 := hcell 3 (by omega)
  have q4 := hcell 4 (by omega)
  have q5 := hcell 5 (by omega)
  have q6 := hcell 6 (by omega)
  have q7 := hcell 7 (by omega)
  have q8 := hcell 8 (by omega)
  have q9 := hcell 9 (by omega)
  have q10 := hcell 10 (by omega)
  have q11 := hcell 11 (by omega)
  have q12 := hcell 12 (by omega)
  have q13 := hcell 13 (by omega)
  have q14 := hcell 14 (by omega)
  have q15 := hcell 15 (by omega)
  have hlt : w1.heap.size < w2.heap.size := by have := hb2.size; simp at this; omega
  obtain ⟨nb, hnb⟩ : ∃ nb, nb = w1.heap.size := ⟨_, rfl⟩
  rw [← hnb] at q0 q1 q2 q3 q4 q5 q6 q7 q8 q9 q10 q11 q12 q13 q14 q15 hlt ⊢
  have HB2 : Hid (Below (w1.alloc (Obj.cells C 98)).heap.size (w1.alloc (Obj.cells C 98)) w2) := hb2
  clear hcell hb2 hnb
  go_region
  have hD := deal_start w w2 l N HN.out (show w.heap.size ≤ w2.heap.size by have := hb1.size; have := HB2.out.size; simp at this; omega) (by
    refine (hb1.alloc hb1.size _).trans (HB2.out.mono ?_)
    have := hb1.size
    simp
    omega)
  have HD : Hid (Calls Tryd.prog 75 #[.pointer (some ⟨w2.heap.size + 1, 0, none⟩), .slice ao N cap] ((w2.alloc (.cells (madeCells #[.int .i64 0, .int .i64 0] (N * 2)) 102)).alloc (.cells #[.slice (some ⟨w2.heap.size, 0, none⟩) N N, .slice none 0 0, .int .i64 ((cn l 0 : Nat) : Int), .int .i64 ((cn l 1 : Nat) : Int), .int .i64 ((cn l 2 : Nat) : Int), .int .i64 ((cn l 3 : Nat) : Int), .int .i64 ((cn l 4 : Nat) : Int), .int .i64 ((cn l 5 : Nat) : Int), .int .i64 ((cn l 6 : Nat) : Int), .int .i64 ((cn l 7 : Nat) : Int), .int .i64 ((cn l 8 : Nat) : Int), .int .i64 ((cn l 9 : Nat) : Int), .int .i64 ((cn l 10 : Nat) : Int), .int .i64 ((cn l 11 : Nat) : Int), .int .i64 ((cn l 12 : Nat) : Int), .int .i64 ((cn l 13 : Nat) : Int), .int .i64 ((cn l 14 : Nat) : Int), .int .i64 ((cn l 15 : Nat) : Int)] 100)).drew fun e w' => e = .returned (.tuple #[]) ∧ Deal w.heap.size w w' (w2.heap.size + 1) w2.heap.size l 16 0 (ord l 16)) :=
    deal_walk w.heap.size (w2.heap.size + 1) w2.heap.size w _ (.slice ao N cap) l HL.out rfl hll H15.out hf hD
  clear hD q0 q1 q2 q3 q4 q5 q6 q7 q8 q9 q10 q11 q12 q13 q14 q15 hmk
  go_wp2_with (go_at_call 75; (with_reducible refine HD.out.mono ?_); rintro e w4 ⟨rfl, h4⟩)
  go_ret2
  have hs1 := hb1.size
  have hs2 := HB2.out.size
  simp at hs2
  refine ⟨_, rfl, by omega, h4.below, ?_⟩
  obtain ⟨⟨v, c, e1, e2, e3, e4⟩, -, -, -⟩ := h4
  exact ⟨⟨_, v, c, e1, e2, e3, owns_base3 e4 (Nat.zero_le _)⟩, hll, H15.out, hf⟩
end Go.Proofs.YtdokpimhhkbdbaaDoor
