/-
  The document's own Join.
-/
import Derived.Test.YthjnkoagmjcjfaaRb
import Derived.Test.YthjnkoagmjcjfaaJb
import Derived.Deep.DeepCutAuto
set_option linter.unusedSimpArgs false
set_option linter.unusedVariables false
namespace Go.Proofs.Ythjnkoagmjcjfaa
open Go.RowKit

set_option maxRecDepth 100000 in
set_option maxHeartbeats 8000000 in
theorem joinR_walk (w : World) (v : Value) (l : List St) (hv : Tells w v l) (hl : l.length ≤ 140737488355328) :
    Calls Try.prog 19 #[v] w fun e w' => Joined w.heap.size w' e (joinL [] l) ∧ Below w.heap.size w w' := by
  obtain ⟨lo, cap, rfl, hcells⟩ := hv.cells
  obtain ⟨P, hP⟩ : ∃ P, P = w.heap.size := ⟨_, rfl⟩
  obtain ⟨n, hn⟩ : ∃ n, n = l.length := ⟨_, rfl⟩
  rw [← hn] at hcells hl ⊢
  have HN : Hid (n = l.length) := hn
  clear hn hv
  go_enter Try.func19, Try.ntmps19
  go_wp2
  have hst : w.ownsRow P 5 1 (.slice none 0 0) 0 (([] : List Nat).map byteV) := World.ownsRow_nil _ _ _ _
  have HP : Hid (P = w.heap.size) := hP
  clear hP
  go_loopw [4, 10] (fun bv i wr => ∃ (j p : Nat) (out : List Nat), j ≤ n ∧ i = .int .i64 j ∧ Hid (p ≤ 65536) ∧ Hid (out.length = p) ∧ Hid (joinL [] l = joinL out (l.drop j)) ∧ wr.ownsRow P 5 1 bv p (out.map byteV) ∧ Below P w wr) (fun _ i _ => n - (intOf i).toNat)
  case atStart => exact ⟨0, 0, [], by omega, rfl, (by decide : 0 ≤ 65536), rfl, by show _ = _; simp, hst, Below.refl _ _⟩
  case round =>
    obtain ⟨j, p, out, hjn, rfl, HPL, HOL, HJ, hown, hbl⟩ := hrel
    clear hst
    have hPw : P ≤ wr.heap.size := by have := HP.out; have := hbl.size; omega
    obtain ⟨ao, bcap, rfl, hao⟩ := own_slice hown
    by_cases hj : j < n
    · obtain ⟨lg, lof, rfl, hcs⟩ := hcells (by omega)
      obtain ⟨d1, d2, d3⟩ := hcs j hj
      have d1 := cell_old (HP.out ▸ hbl) d1
      have d2 := cell_old (HP.out ▸ hbl) d2
      have d3 := cell_old (HP.out ▸ hbl) d3
      have HJS : Hid (joinL [] l = joinL out (nthS l j :: l.drop (j + 1))) := by
        show _ = _
        rw [HJ.out, drop_step l j (by rw [← HN.out]; exact hj)]
      obtain ⟨s, hs⟩ : ∃ s, s = nthS l j := ⟨_, rfl⟩
      rw [← hs] at d1 d2 d3 HJS
      clear hs hcells hcs
      obtain ⟨sb, sl, sd⟩ := s
      simp only at d1 d2 d3
      go_upto_region 5 with (first
            | (refine wpList_store_row rfl 41 (.tmp 6) (.tmp 13) rfl wr.heap.size #[.int .u8 (sb : Int), .int .i64 sl, .int .i64 sd] rfl rfl 41 _ (heap_alloc_new wr _) Try.size41 rfl (stC_one sb sl sd) ?_
               rw [World.setRow_alloc_new]
               have q1 := heap_alloc_new wr (.cells #[.int .u8 (sb : Int), .int .i64 sl, .int .i64 sd] 41)
               have q2 : Below wr.heap.size wr (wr.alloc (.cells #[.int .u8 (sb : Int), .int .i64 sl, .int .i64 sd] 41)) := (Below.refl _ _).alloc (Nat.le_refl _) _
               have q3 := owns_below hown q2
               generalize hq : wr.heap.size = q at *
               generalize wr.alloc (.cells #[.int .u8 (sb : Int), .int .i64 sl, .int .i64 sd] 41) = w2 at *
               have r1 := cell3_1 q1
               have r2' := cell3_2 q1
               have T1 : Hid (w2.heap[q]? = some (.cells #[.int .u8 (sb : Int), .int .i64 sl, .int .i64 sd] 41 (0, 0))) := q1
               have r2 : Hid (Below q wr w2) := q2
               have t6 : Hid (Below P w w2) := hbl.trans (q2.mono hPw)
               clear q1 q2 d1 d2 d3 hown))
      have HQ3 : Hid (w2.ownsRow P 5 1 (.slice ao p bcap) p (out.map byteV)) := q3
      clear q3
      simp only [Act.put]
      go_cut [14] (fun c wx => c = .bool (decide (sl < 0 ∨ 258 < sl ∨ (0 < sl ∧ (sd < 1 ∨ (p : Int) < sd)))) ∧ wx = w2)
      case first =>
        clear hl HN HP HPL HOL HJ hbl hPw hao hjn hj HJS hq T1 r2 t6 HQ3
        by_cases c1 : sl < 0
        · go_wp2
          go_meet
          case rel => exact ⟨congrArg Value.bool (decide_eq_true (by omega)).symm, rfl⟩
        · by_cases c2 : 258 < sl
          · go_wp2
            go_meet
            case rel => exact ⟨congrArg Value.bool (decide_eq_true (by omega)).symm, rfl⟩
          · by_cases c3 : 0 < sl
            · by_cases c4 : sd < 1
              · go_wp2
                go_meet
                case rel => exact ⟨congrArg Value.bool (decide_eq_true (by omega)).symm, rfl⟩
              · by_cases c5 : (p : Int) < sd
                · go_wp2
                  go_meet
                  case rel => exact ⟨congrArg Value.bool (decide_eq_true (by omega)).symm, rfl⟩
                · go_wp2
                  go_meet
                  case rel => exact ⟨congrArg Value.bool (decide_eq_false (by omega)).symm, rfl⟩
            · go_wp2
              go_meet
              case rel => exact ⟨congrArg Value.bool (decide_eq_false (by omega)).symm, rfl⟩
      case rest =>
        obtain ⟨rfl, hwx⟩ := hcut
        subst hwx

        have HNO : Hid (¬ Fit p ⟨sb, sl, sd⟩ → joinL [] l = none) := fun hF => by
          rw [HJS.out]
          exact join_off _ (stepJ_none (by rw [HOL.out]; exact hF))
        by_cases hbad : sl < 0 ∨ 258 < sl ∨ (0 < sl ∧ (sd < 1 ∨ (p : Int) < sd))
        · have HNN : Hid (joinL [] l = none) := HNO.out (by
            rintro ⟨⟨f1, f2⟩, f3, f4⟩
            simp only at f1 f2 f3
            omega)
          rw [decide_eq_true hbad]
          clear HNO hbad r1 r2'
          go_wp2
          go_ret2
          exact ⟨.inr ⟨HNN.out, rfl⟩, by rw [← HP.out]; exact t6.out⟩
        · rw [decide_eq_false hbad]
          rcases (show (0 < sl ∧ sl ≤ 258 ∧ 1 ≤ sd ∧ sd ≤ p) ∨ sl = 0 by omega) with hgood | h0
          · clear hbad
            obtain ⟨h1, h2, h3, h4⟩ := hgood
            obtain ⟨L, hL⟩ := Int.eq_ofNat_of_zero_le (Int.le_of_lt h1)
            obtain ⟨D, hD⟩ := Int.eq_ofNat_of_zero_le (show 0 ≤ sd by omega)
            subst hL hD
            have hL0 : 0 < L := by omega
            have hL258 : L ≤ 258 := by omega
            have hD1 : 1 ≤ D := by omega
            have hDp : D ≤ p := by omega
            have HS : Hid (p + L ≤ 65536 → joinL [] l = joinL (rowOf out D L) (l.drop (j + 1))) := fun hle => by
              rw [HJS.out]; exact join_on _ (stepJ_row (by rw [HOL.out]; exact ⟨⟨by simp only; omega, by simp only; omega⟩, fun _ => ⟨by simp only; omega, by simp only; omega⟩, by simp only; omega⟩) L D hL0 rfl rfl)
            have HS2 : Hid (¬ p + L ≤ 65536 → joinL [] l = none) := fun hle => HNO.out (by
              rintro ⟨_, _, f4⟩
              simp only at f4
              omega)
            have hLne : ((L : Int) == 0) = false := by simp; omega
            have q3 := HQ3.out
            clear hao HNO HQ3 d1 d2 d3
            go_wp2
            go_loopw [4, 7] (fun bv i wz => ∃ (m p2 : Nat) (o2 : List Nat), m ≤ L ∧ i = .int .i64 m ∧ Hid (p2 = p + m) ∧ D ≤ p2 ∧ Hid (o2 = rowOf out D m) ∧ Hid (o2.length = p2) ∧ Hid (wz.heap[q]? = some (.cells #[.int .u8 (sb : Int), .int .i64 (L : Int), .int .i64 (D : Int)] 41 (0, 0))) ∧ wz.ownsRow P 5 1 bv p2 (o2.map byteV) ∧ Hid (Below P w wz)) (fun _ i _ => L - (intOf i).toNat)
            case atStart => exact ⟨0, p, out, by omega, rfl, rfl, hDp, rfl, HOL, T1, q3, t6⟩
            case round =>
              obtain ⟨m, p2, o2, hm, rfl, HP2, hDp2, HO2, HL2, HQ, hown2, HB2⟩ := hrel
              clear r1 r2' q3
              have hPz : P ≤ wr.heap.size := by have := HP.out; have h1 := HB2.out.size; omega
              have c1 := cell3_1 HQ.out
              obtain ⟨ao2, cap2, rfl, hao2⟩ := own_slice hown2
              obtain ⟨g, rfl⟩ := hao2 (by omega)
              by_cases hmL : m < L
              · have c2 := cell3_2 HQ.out
                have hpb : p2 + 1 ≤ 140737488355328 := by have := HP2.out; have := HPL.out; omega
                have hix : 0 ≤ (p2 : Int) - D ∧ (p2 : Int) - D < p2 := by omega
                have htn : ((p2 : Int) - D).toNat = p2 - D := by omega
                have hpl : IntKind.i64.wrap ((p2 : Int) - D) = (p2 : Int) - D := by
                  have := HP2.out; have := HPL.out
                  rw [IntKind.wrap_i64]; omega
                have cx := byte_at HL2.out hown2 (p2 - D) (by omega)
                obtain ⟨x, hx⟩ : ∃ x, x = o2.getD (p2 - D) 0 := ⟨_, rfl⟩
                rw [← hx] at cx
                have HX : Hid (o2 ++ [x] = rowOf out D (m + 1)) := by
                  show _ = _
                  simp only [rowOf]
                  rw [← HO2.out, HL2.out, hx]
                have hne := owns_ne hown2 HQ.out (by decide)
                clear hx
                go_wp2_with (first
                  | (at_builtin; refine wpList_pushB rfl (.tmp 55) (.tmp 64) rfl P _ p2 _ rfl hown2 (x : Int) wr.heap.size rfl rfl hpb hPz ?_
                     intro g5 cap5 w5 ho5 hf5 hat5 hb5
                     have s1 : Hid (w5.heap[q]? = _) := (hf5.block q (lt_of_block HQ.out) (by simp) hne.symm).trans HQ.out
                     clear hf5 hat5))
                go_roundw
                case rel =>
                  refine ⟨m + 1, p2 + 1, o2 ++ [x], by omega, by go_num, ?_, by omega, HX.out, ?_, s1, ?_, HB2.out.trans hb5⟩
                  · show _ = _; rw [HP2.out, Nat.add_assoc]
                  · show _ = _; simp [HL2.out]
                  · rw [List.map_append]; exact ho5
                case measure => simp [intOf]; omega
              · have hmm : m = L := by omega
                subst hmm
                by_cases hle : p + m ≤ 65536
                · have hdd : decide ((65536 : Int) < (p2 : Int)) = false := by have := HP2.out; simp; omega
                  have HLE : Hid (p + m ≤ 65536) := hle
                  clear hle
                  go_wp2
                  go_roundw
                  case rel =>
                    refine ⟨j + 1, p2, o2, by omega, by go_num, ?_, HL2.out, ?_, hown2, HB2.out⟩
                    · show _ ≤ _; rw [HP2.out]; exact HLE.out
                    · show _ = _; rw [HO2.out]; exact HS.out HLE.out
                  case measure => simp [intOf]; omega
                · have hdd : decide ((65536 : Int) < (p2 : Int)) = true := by have := HP2.out; simp; omega
                  have HNN : Hid (joinL [] l = none) := HS2.out hle
                  clear hle
                  go_wp2
                  go_ret2
                  exact ⟨.inr ⟨HNN.out, rfl⟩, by rw [← HP.out]; exact HB2.out⟩
          · subst h0
            clear hbad
            have HS : Hid (p + 1 ≤ 65536 → joinL [] l = joinL (out ++ [sb]) (l.drop (j + 1))) := fun hle => by
              rw [HJS.out]; exact join_on _ (stepJ_byte (by rw [HOL.out]; exact ⟨⟨by simp, by simp⟩, fun h => absurd h (by simp), by simp only; omega⟩) rfl)
            have HS2 : Hid (¬ p + 1 ≤ 65536 → joinL [] l = none) := fun hle => HNO.out (by
              rintro ⟨_, _, f4⟩
              simp only at f4
              omega)
            have hpb : p + 1 ≤ 140737488355328 := by have := HPL.out; omega
            have q3 := HQ3.out
            have e0 := cell3_0 T1.out
            have t7 := owns_ne q3 T1.out (by decide)
            have t5 : P ≤ wc.heap.size := by have := t6.out.size; have := HP.out; omega
            have hdd : ∃ r, decide ((65536 : Int) < (p : Int) + 1) = r ∧ (r = false ∧ Hid (p + 1 ≤ 65536) ∨ r = true ∧ Hid (joinL [] l = none)) := by
              by_cases hle : p + 1 ≤ 65536
              · exact ⟨false, by simp; omega, .inl ⟨rfl, hle⟩⟩
              · exact ⟨true, by simp; omega, .inr ⟨rfl, HS2.out hle⟩⟩
            obtain ⟨r, hdd, hr⟩ := hdd
            clear HNO hao HQ3 d1 d2 d3 r2' HS2
            rcases hr with ⟨rfl, HR⟩ | ⟨rfl, HR⟩
            all_goals
              go_wp2_with (first
                | (at_builtin; refine wpList_pushB rfl (.tmp 44) (.tmp 47) rfl P _ p _ rfl q3 (sb : Int) wc.heap.size rfl rfl hpb t5 ?_
                   intro g2 cap2 w5 ho5 hf5 hat5 hb5
                   have s1 : w5.cell? ⟨q, 1, none⟩ = some (.int .i64 0) := cell3_1 ((hf5.block q (lt_of_block T1.out) (by simp) t7.symm).trans T1.out)
                   clear hf5 hat5))
              refine wp_loop_rounds 1 ?_
              rw [rounds_succ]
              go_wp2
              first
              | (go_ret2; exact ⟨.inr ⟨HR.out, rfl⟩, by rw [← HP.out]; exact t6.out.trans hb5⟩)
              | (go_roundw
                 case rel =>
                   refine ⟨j + 1, p + 1, out ++ [sb], by omega, by go_num, HR.out, ?_, HS.out HR.out, ?_, t6.out.trans hb5⟩
                   · show _ = _; simp [HOL.out]
                   · rw [List.map_append]; exact ho5
                 case measure => simp [intOf]; omega)
    · have hjj : j = n := by omega
      subst hjj
      have HD : Hid (joinL [] l = some out) := by
        show _ = _
        rw [HJ.out, List.drop_of_length_le (by rw [HN.out]; exact Nat.le_refl _)]
        rfl
      go_wp2
      go_ret2
      have hol := HOL.out
      subst hol
      exact ⟨.inl ⟨out, _, HD.out, rfl, by rw [← HP.out]; exact hown⟩, by rw [← HP.out]; exact hbl⟩
end Go.Proofs.Ythjnkoagmjcjfaa
