/-
  lz.Join.
-/
import Derived.Test.YthjnkoagmjcjfaaJa
set_option linter.unusedSimpArgs false
set_option linter.unusedVariables false
namespace Go.Proofs.Ythjnkoagmjcjfaa
open Go.RowKit

theorem drop_step (l : List St) (j : Nat) (h : j < l.length) : l.drop j = nthS l j :: l.drop (j + 1) := by
  rw [List.drop_eq_getElem_cons h]
  simp [nthS, h]

theorem join_on {o o' : List Nat} {s : St} (l : List St) (h : stepJ o s = some o') : joinL o (s :: l) = joinL o' l := by simp [joinL, h]
theorem join_off {o : List Nat} {s : St} (l : List St) (h : stepJ o s = none) : joinL o (s :: l) = none := by simp [joinL, h]

theorem stepJ_none {o : List Nat} {s : St} (h : ¬ Fit o.length s) : stepJ o s = none := by simp only [stepJ, h, ↓reduceIte]
theorem stepJ_byte {o : List Nat} {s : St} (h : Fit o.length s) (h0 : s.l = 0) : stepJ o s = some (o ++ [s.b]) := by unfold stepJ; rw [if_pos h, if_pos h0]
theorem stepJ_row {o : List Nat} {s : St} (h : Fit o.length s) (L D : Nat) (h0 : 0 < L) (hL : s.l = L) (hD : s.d = D) : stepJ o s = some (rowOf o D L) := by
  have : s.l ≠ 0 := by omega
  unfold stepJ
  rw [if_pos h, if_neg this, hL, hD, Int.toNat_natCast, Int.toNat_natCast]

theorem own_slice {w : World} {B e sz : Nat} {v : Value} {n : Nat} {xs : List Value} (h : w.ownsRow B e sz v n xs) : ∃ ao cap, v = .slice ao n cap ∧ (0 < n → ∃ g, ao = some ⟨g, 0, none⟩) := by
  rcases h.2 with ⟨rfl, hn⟩ | ⟨g, cap, cur, rfl, _⟩
  · exact ⟨none, 0, by rw [hn], fun h => by omega⟩
  · exact ⟨_, _, rfl, fun _ => ⟨g, rfl⟩⟩

theorem Tells.cells {w : World} {v : Value} {l : List St} (h : Tells w v l) : ∃ ao cap, v = .slice ao l.length cap ∧ (0 < l.length → ∃ g o, ao = some ⟨g, o, none⟩ ∧ ∀ k, k < l.length → w.cell? ⟨g, o + k * 3, none⟩ = some (.int .u8 ((nthS l k).b : Int)) ∧ w.cell? ⟨g, o + k * 3 + 1, none⟩ = some (.int .i64 (nthS l k).l) ∧ w.cell? ⟨g, o + k * 3 + 2, none⟩ = some (.int .i64 (nthS l k).d)) := by
  by_cases h0 : 0 < l.length
  · obtain ⟨g, o, cap, h1, h2⟩ := h.at h0
    exact ⟨_, _, h1, fun _ => ⟨g, o, rfl, h2⟩⟩
  · obtain ⟨ao, cap, h1⟩ := h.len
    exact ⟨ao, cap, h1, fun h => absurd h h0⟩

/-- What Join answers. -/
def Joined (B : Nat) (w : World) (e : Ending) (r : Option (List Nat)) : Prop :=
  (∃ out v', r = some out ∧ e = .returned (.tuple #[v', .bool true]) ∧ w.ownsRow B 5 1 v' out.length (out.map byteV)) ∨ (r = none ∧ e = .returned (.tuple #[.slice none 0 0, .bool false]))

set_option maxRecDepth 100000 in
set_option maxHeartbeats 8000000 in
theorem join_walk (w : World) (v : Value) (l : List St) (hv : Tells w v l) (hl : l.length ≤ 140737488355328) :
    Calls Try.prog 11 #[v] w fun e w' => Joined w.heap.size w' e (joinL [] l) ∧ Below w.heap.size w w' := by
  obtain ⟨lo, cap, rfl, hcells⟩ := hv.cells
  obtain ⟨P, hP⟩ : ∃ P, P = w.heap.size := ⟨_, rfl⟩
  obtain ⟨n, hn⟩ : ∃ n, n = l.length := ⟨_, rfl⟩
  rw [← hn] at hcells hl ⊢
  have HN : Hid (n = l.length) := hn
  clear hn hv
  go_enter Try.func11, Try.ntmps11
  go_wp2
  have hst : w.ownsRow P 5 1 (.slice none 0 0) 0 (([] : List Nat).map byteV) := World.ownsRow_nil _ _ _ _
  have HP : Hid (P = w.heap.size) := hP
  clear hP
  go_loopw [4, 9] (fun bv i wr => ∃ (j p : Nat) (out : List Nat), j ≤ n ∧ i = .int .i64 j ∧ Hid (p ≤ 65536) ∧ Hid (out.length = p) ∧ Hid (joinL [] l = joinL out (l.drop j)) ∧ wr.ownsRow P 5 1 bv p (out.map byteV) ∧ Below P w wr) (fun _ i _ => n - (intOf i).toNat)
  case atStart => exact ⟨0, 0, [], by omega, rfl, (by decide : 0 ≤ 65536), rfl, by show _ = _; simp, hst, Below.refl _ _⟩
  case round =>
    obtain ⟨j, p, out, hjn, rfl, HPL, HOL, HJ, hown, hbl⟩ := hrel
    clear hst
    have hPw : P ≤ wr.heap.size := by have := HP.out; have := hbl.size; omega
    obtain ⟨ao, bcap, rfl, hao⟩ := own_slice hown
    by_cases hj : j < n
    · obtain ⟨lg, lof, rfl, hcs⟩ := hcells (by omega)
      obtain ⟨d1, d2, d3⟩ := hcs j hj
      have d1 := cell_old (HP.out ▸ hbl) d1
      have d2 := cell_old (HP.out ▸ hbl) d2
      have d3 := cell_old (HP.out ▸ hbl) d3
      have HJS : Hid (joinL [] l = joinL out (nthS l j :: l.drop (j + 1))) := by
        show _ = _
        rw [HJ.out, drop_step l j (by rw [← HN.out]; exact hj)]
      obtain ⟨s, hs⟩ : ∃ s, s = nthS l j := ⟨_, rfl⟩
      rw [← hs] at d1 d2 d3 HJS
      clear hs hcells hcs
      obtain ⟨sb, sl, sd⟩ := s
      simp only at d1 d2 d3
      have hfit : Hid (∀ wx, Calls Try.prog 29 #[.agg #[.int .u8 (sb : Int), .int .i64 sl, .int .i64 sd], .int .i64 (p : Int)] wx fun e w' => e = .returned (.bool (decide (Fit p ⟨sb, sl, sd⟩))) ∧ Below wx.heap.size wx w') := fun wx => fits_walk sb p sl sd (by have := HPL.out; omega) wx
      by_cases hF : Fit p ⟨sb, sl, sd⟩
      · have HF : Hid (Fit out.length ⟨sb, sl, sd⟩) := by show Fit _ _; rw [HOL.out]; exact hF
        obtain ⟨⟨f1, f2⟩, f3, f4⟩ := hF
        simp only at f1 f2 f3 f4
        have hdF : decide (Fit p ⟨sb, sl, sd⟩) = true := by simp only [decide_eq_true_eq]; exact ⟨⟨f1, f2⟩, f3, f4⟩
        rw [hdF] at hfit
        clear hdF
        have HF4 : Hid ((p : Int) + max sl 1 ≤ 65536) := f4
        by_cases h0 : sl = 0
        · subst h0
          have HS : Hid (joinL [] l = joinL (out ++ [sb]) (l.drop (j + 1))) := by
            show _ = _
            rw [HJS.out]; exact join_on _ (stepJ_byte HF.out rfl)
          have hp1 : p + 1 ≤ 65536 := by have := HF4.out; omega
          have HP1 : Hid (p + 1 ≤ 65536) := hp1
          have hpb : p + 1 ≤ 140737488355328 := by omega
          clear f1 f2 f3 f4 hp1 hao
          go_wp2_with (first
            | (refine wpList_store_row rfl 27 (.tmp 6) (.tmp 12) rfl wr.heap.size #[.int .u8 (sb : Int), .int .i64 0, .int .i64 sd] rfl rfl 27 _ (heap_alloc_new wr _) Try.size27 rfl (stC_one sb 0 sd) ?_
               rw [World.setRow_alloc_new]
               have q1 := heap_alloc_new wr (.cells #[.int .u8 (sb : Int), .int .i64 0, .int .i64 sd] 27)
               have q2 : Below wr.heap.size wr (wr.alloc (.cells #[.int .u8 (sb : Int), .int .i64 0, .int .i64 sd] 27)) := (Below.refl _ _).alloc (Nat.le_refl _) _
               have q3 := owns_below hown q2
               generalize hq : wr.heap.size = q at *
               generalize wr.alloc (.cells #[.int .u8 (sb : Int), .int .i64 0, .int .i64 sd] 27) = w2 at *
               have r1 : Hid (w2.heap[q]? = some (.cells #[.int .u8 (sb : Int), .int .i64 0, .int .i64 sd] 27 (0, 0))) := q1
               have r2 : Hid (Below q wr w2) := q2
               clear q1 q2 hown d1 d2 d3)
            | (refine wpList_load27 rfl (.tmp 6) rfl q rfl _ _ _ r1.out ?_)
            | (go_at_call 29; (with_reducible refine (hfit.out _).mono ?_); rintro e w3 ⟨rfl, hb3⟩
               have t1 := (hb3.block q (lt_of_block r1.out)).trans r1.out
               have t0 := cell3_0 t1
               have t2 := cell3_1 t1
               have t4 := owns_below q3 hb3
               have t5 : P ≤ w3.heap.size := by have h1 := r2.out.size; have h2 := hb3.size; omega
               have t6 : Hid (Below P w w3) := (hbl.trans (r2.out.mono hPw)).trans (hb3.mono (by have h1 := r2.out.size; omega))
               have t7 := owns_ne t4 t1 (by decide)
               have T1 : Hid (w3.heap[q]? = some (.cells #[.int .u8 (sb : Int), .int .i64 0, .int .i64 sd] 27 (0, 0))) := t1
               clear t1 q3 hb3)
            | (at_builtin; refine wpList_pushB rfl (.tmp 21) (.tmp 24) rfl P _ p _ rfl t4 (sb : Int) w3.heap.size rfl rfl hpb t5 ?_
               intro g2 cap2 w5 ho5 hf5 hat5 hb5
               have s1 : w5.cell? ⟨q, 1, none⟩ = some (.int .i64 0) := cell3_1 ((hf5.block q (lt_of_block T1.out) (by simp) t7.symm).trans T1.out)
               clear hf5 hat5))
          refine wp_loop_rounds 1 ?_
          rw [rounds_succ]
          go_wp2
          go_roundw
          case rel =>
            refine ⟨j + 1, p + 1, out ++ [sb], by omega, by go_num, HP1.out, ?_, HS.out, ?_, t6.out.trans hb5⟩
            · show _ = _; simp [HOL.out]
            · rw [List.map_append]; exact ho5
          case measure => simp [intOf]; omega
        · have hpos : 0 < sl := by omega
          obtain ⟨L, hL⟩ := Int.eq_ofNat_of_zero_le f1
          obtain ⟨D, hD⟩ := Int.eq_ofNat_of_zero_le (show 0 ≤ sd by have := f3 hpos; omega)
          have g3 := f3 hpos
          subst hL hD
          have hL0 : 0 < L := by omega
          have hL258 : L ≤ 258 := by omega
          have hD1 : 1 ≤ D := by omega
          have hDp : D ≤ p := by omega
          have HS : Hid (joinL [] l = joinL (rowOf out D L) (l.drop (j + 1))) := by
            show _ = _
            rw [HJS.out]; exact join_on _ (stepJ_row HF.out L D hL0 rfl rfl)
          have HPL2 : Hid (p + L ≤ 65536) := by show _ ≤ _; have := HF4.out; omega
          have hLne : ((L : Int) == 0) = false := by simp; omega
          clear f1 f2 f3 f4 hao h0 hpos g3
          go_wp2_with (first
            | (refine wpList_store_row rfl 27 (.tmp 6) (.tmp 12) rfl wr.heap.size #[.int .u8 (sb : Int), .int .i64 (L : Int), .int .i64 (D : Int)] rfl rfl 27 _ (heap_alloc_new wr _) Try.size27 rfl (stC_one sb L D) ?_
               rw [World.setRow_alloc_new]
               have q1 := heap_alloc_new wr (.cells #[.int .u8 (sb : Int), .int .i64 (L : Int), .int .i64 (D : Int)] 27)
               have q2 : Below wr.heap.size wr (wr.alloc (.cells #[.int .u8 (sb : Int), .int .i64 (L : Int), .int .i64 (D : Int)] 27)) := (Below.refl _ _).alloc (Nat.le_refl _) _
               have q3 := owns_below hown q2
               generalize hq : wr.heap.size = q at *
               generalize wr.alloc (.cells #[.int .u8 (sb : Int), .int .i64 (L : Int), .int .i64 (D : Int)] 27) = w2 at *
               have r1 : Hid (w2.heap[q]? = some (.cells #[.int .u8 (sb : Int), .int .i64 (L : Int), .int .i64 (D : Int)] 27 (0, 0))) := q1
               have r2 : Hid (Below q wr w2) := q2
               clear q1 q2 hown d1 d2 d3)
            | (refine wpList_load27 rfl (.tmp 6) rfl q rfl _ _ _ r1.out ?_)
            | (go_at_call 29; (with_reducible refine (hfit.out _).mono ?_); rintro e w3 ⟨rfl, hb3⟩
               have t1 := (hb3.block q (lt_of_block r1.out)).trans r1.out
               have t2 := cell3_1 t1
               have t4 := owns_below q3 hb3
               have t6 : Hid (Below P w w3) := (hbl.trans (r2.out.mono hPw)).trans (hb3.mono (by have h1 := r2.out.size; omega))
               have T1 : Hid (w3.heap[q]? = some (.cells #[.int .u8 (sb : Int), .int .i64 (L : Int), .int .i64 (D : Int)] 27 (0, 0))) := t1
               clear t1 q3 hb3))
          go_loopw [4, 28] (fun bv i wz => ∃ (m p2 : Nat) (o2 : List Nat), m ≤ L ∧ i = .int .i64 m ∧ Hid (p2 = p + m) ∧ D ≤ p2 ∧ Hid (o2 = rowOf out D m) ∧ Hid (o2.length = p2) ∧ Hid (wz.heap[q]? = some (.cells #[.int .u8 (sb : Int), .int .i64 (L : Int), .int .i64 (D : Int)] 27 (0, 0))) ∧ wz.ownsRow P 5 1 bv p2 (o2.map byteV) ∧ Hid (Below P w wz)) (fun _ i _ => L - (intOf i).toNat)
          case atStart => exact ⟨0, p, out, by omega, rfl, rfl, hDp, rfl, HOL, T1, t4, t6⟩
          case round =>
            obtain ⟨m, p2, o2, hm, rfl, HP2, hDp2, HO2, HL2, HQ, hown2, HB2⟩ := hrel
            clear t2 t4
            have hPz : P ≤ wr.heap.size := by have := HP.out; have h1 := HB2.out.size; omega
            by_cases hmL : m < L
            · obtain ⟨ao2, cap2, rfl, hao2⟩ := own_slice hown2
              obtain ⟨g, rfl⟩ := hao2 (by omega)
              have c2 := cell3_2 HQ.out
              have hpb : p2 + 1 ≤ 140737488355328 := by have := HP2.out; have := HPL2.out; omega
              have hix : 0 ≤ (p2 : Int) - D ∧ (p2 : Int) - D < p2 := by omega
              have htn : ((p2 : Int) - D).toNat = p2 - D := by omega
              have cx := byte_at HL2.out hown2 (p2 - D) (by omega)
              obtain ⟨x, hx⟩ : ∃ x, x = o2.getD (p2 - D) 0 := ⟨_, rfl⟩
              rw [← hx] at cx
              have HX : Hid (o2 ++ [x] = rowOf out D (m + 1)) := by
                show _ = _
                simp only [rowOf]
                rw [← HO2.out, HL2.out, hx]
              have hne := owns_ne hown2 HQ.out (by decide)
              clear hx
              go_wp2_with (first
                | (at_builtin; refine wpList_pushB rfl (.tmp 30) (.tmp 39) rfl P _ p2 _ rfl hown2 (x : Int) wr.heap.size rfl rfl hpb hPz ?_
                   intro g5 cap5 w5 ho5 hf5 hat5 hb5
                   have s1 : Hid (w5.heap[q]? = _) := (hf5.block q (lt_of_block HQ.out) (by simp) hne.symm).trans HQ.out
                   clear hf5 hat5))
              go_roundw
              case rel =>
                refine ⟨m + 1, p2 + 1, o2 ++ [x], by omega, by go_num, ?_, by omega, HX.out, ?_, s1, ?_, HB2.out.trans hb5⟩
                · show _ = _; rw [HP2.out, Nat.add_assoc]
                · show _ = _; simp [HL2.out]
                · rw [List.map_append]; exact ho5
              case measure => simp [intOf]; omega
            · have hmm : m = L := by omega
              subst hmm
              go_wp2
              go_roundw
              case rel =>
                refine ⟨j + 1, p2, o2, by omega, by go_num, ?_, HL2.out, ?_, hown2, HB2.out⟩
                · show _ ≤ _; rw [HP2.out]; exact HPL2.out
                · show _ = _; rw [HO2.out]; exact HS.out
              case measure => simp [intOf]; omega
      · have HNO : Hid (joinL [] l = none) := by
          show _ = _
          rw [HJS.out]
          exact join_off _ (stepJ_none (by rw [HOL.out]; exact hF))
        have hdF : decide (Fit p ⟨sb, sl, sd⟩) = false := by simp only [decide_eq_false_iff_not]; exact hF
        rw [hdF] at hfit
        clear hdF hF
        go_wp2_with (first
          | (refine wpList_store_row rfl 27 (.tmp 6) (.tmp 12) rfl wr.heap.size #[.int .u8 (sb : Int), .int .i64 sl, .int .i64 sd] rfl rfl 27 _ (heap_alloc_new wr _) Try.size27 rfl (stC_one sb sl sd) ?_
             rw [World.setRow_alloc_new]
             have q1 := heap_alloc_new wr (.cells #[.int .u8 (sb : Int), .int .i64 sl, .int .i64 sd] 27)
             have q2 : Below wr.heap.size wr (wr.alloc (.cells #[.int .u8 (sb : Int), .int .i64 sl, .int .i64 sd] 27)) := (Below.refl _ _).alloc (Nat.le_refl _) _
             generalize hq : wr.heap.size = q at *
             generalize wr.alloc (.cells #[.int .u8 (sb : Int), .int .i64 sl, .int .i64 sd] 27) = w2 at *
             have r1 : Hid (w2.heap[q]? = some (.cells #[.int .u8 (sb : Int), .int .i64 sl, .int .i64 sd] 27 (0, 0))) := q1
             have r2 : Hid (Below q wr w2) := q2
             clear q1 q2 hown d1 d2 d3)
          | (refine wpList_load27 rfl (.tmp 6) rfl q rfl _ _ _ r1.out ?_)
          | (go_at_call 29; (with_reducible refine (hfit.out _).mono ?_); rintro e w3 ⟨rfl, hb3⟩
             have t6 : Hid (Below P w w3) := (hbl.trans (r2.out.mono hPw)).trans (hb3.mono (by have h1 := r2.out.size; omega))
             clear hb3))
        go_ret2
        exact ⟨.inr ⟨HNO.out, rfl⟩, by rw [← HP.out]; exact t6.out⟩
    · have hjj : j = n := by omega
      subst hjj
      have HD : Hid (joinL [] l = some out) := by
        show _ = _
        rw [HJ.out, List.drop_of_length_le (by rw [HN.out]; exact Nat.le_refl _)]
        rfl
      go_wp2
      go_ret2
      have hol := HOL.out
      subst hol
      exact ⟨.inl ⟨out, _, HD.out, rfl, by rw [← HP.out]; exact hown⟩, by rw [← HP.out]; exact hbl⟩
end Go.Proofs.Ythjnkoagmjcjfaa
