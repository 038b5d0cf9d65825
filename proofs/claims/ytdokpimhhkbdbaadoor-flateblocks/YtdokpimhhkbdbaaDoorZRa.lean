/-
  The document's own Split.
-/
import Derived.Test.YtdokpimhhkbdbaaDoorBd
set_option linter.unusedSimpArgs false
set_option linter.unusedVariables false
namespace Go.Proofs.YtdokpimhhkbdbaaDoor.Lz
open Go.RowKit

theorem Tryd.info41 : (Tryd.prog.info? 77).map (fun i => (i.zero, i.size, i.bytes)) = some (some (.agg #[.int .u8 0, .int .i64 0, .int .i64 0]), 3, 24) := by kernel_rfl
theorem Tryd.size41 : (Tryd.prog.info? 77).map (·.size) = some 3 := by kernel_rfl
theorem Tryd.underlying39 : Tryd.prog.underlying 75 = some (.slice 77) := by kernel_rfl

theorem refstep (b : List Nat) (a L D : Nat) (ha : a < b.length) (h : bestR b a (min 1024 a) = (L, D)) : (L < 3 ∧ stepOf b a = ⟨b.getD a 0, 0, 0⟩ ∧ wide b a = 1) ∨ (3 ≤ L ∧ stepOf b a = ⟨0, L, D⟩ ∧ wide b a = L ∧ a + L ≤ b.length) := by
  have hb := best_R b a (min 1024 a)
  rw [h] at hb
  by_cases h3 : L < 3
  · rw [if_pos h3] at hb
    rcases longest_fits b a 0 0 ha hb with ⟨_, _, h4, h5⟩ | ⟨h4, _⟩
    · exact .inl ⟨h3, h4, h5⟩
    · omega
  · rw [if_neg h3] at hb
    rcases longest_fits b a L D ha hb with ⟨h4, _⟩ | ⟨h4, h5, h6, h7, h8, h9, h10⟩
    · omega
    · exact .inr ⟨h4, h9, h10, h6⟩

theorem bestR_le (b : List Nat) (a m : Nat) (ha : a ≤ b.length) : (bestR b a m).1 ≤ 258 ∧ (bestR b a m).2 ≤ m := by
  induction m with
  | zero => simp [bestR]
  | succ m ih =>
    unfold bestR
    have := lik_le b (a - (m + 1)) a ha
    split
    · simp only; omega
    · omega

theorem bestR_up {b : List Nat} {a k L D n : Nat} (hk : 1 ≤ k) (h : (L, D) = bestR b a (k - 1)) (hn : n = lik b (a - k) a) (hlt : L < n) : (n, k) = bestR b a k := by
  obtain ⟨j, rfl⟩ : ∃ j, k = j + 1 := ⟨k - 1, by omega⟩
  simp only [bestR]
  have e : bestR b a j = (L, D) := h.symm
  rw [← hn, e, if_pos hlt]
theorem bestR_keep {b : List Nat} {a k L D n : Nat} (hk : 1 ≤ k) (h : (L, D) = bestR b a (k - 1)) (hn : n = lik b (a - k) a) (hlt : ¬ L < n) : (L, D) = bestR b a k := by
  obtain ⟨j, rfl⟩ : ∃ j, k = j + 1 := ⟨k - 1, by omega⟩
  simp only [bestR]
  have e : bestR b a j = (L, D) := h.symm
  rw [← hn, e, if_neg hlt]

set_option maxRecDepth 100000 in
set_option maxHeartbeats 8000000 in
theorem splitR_walk (w : World) (v : Value) (b : List Nat) (hv : Lies w v b) (hb : b.length ≤ 5864062014000) :
    Calls Tryd.prog 44 #[v] w fun e w' => ∃ v', e = .returned v' ∧ Steps w.heap.size 77 w' v' (splitL b) ∧ Below w.heap.size w w' := by
  obtain ⟨ao, cap, hve, hcells⟩ := hv.cell
  obtain ⟨P, hP⟩ : ∃ P, P = w.heap.size := ⟨_, rfl⟩
  subst hve
  obtain ⟨N, hN⟩ : ∃ N, N = b.length := ⟨_, rfl⟩
  rw [← hN] at hb hcells ⊢
  have HN : Hid (N = b.length) := hN
  clear hN hv
  go_enter Tryd.func44, Tryd.ntmps44
  go_wp2
  have hst : w.ownsRow P 77 3 (.slice none 0 0) 0 (cellsL []) := World.ownsRow_nil _ _ _ _
  have HP : Hid (P = w.heap.size) := hP
  clear hP
  go_loopw [3, 4] (fun l i wr => ∃ (a n f : Nat) (acc : List St), n ≤ a ∧ a ≤ N ∧ i = .int .i64 a ∧ Hid (acc.length = n) ∧ Hid (splitL b = acc ++ runL b f a) ∧ Hid (N - a ≤ f) ∧ wr.ownsRow P 77 3 l n (cellsL acc) ∧ Below P w wr) (fun _ i _ => N - (intOf i).toNat)
  case atStart => exact ⟨0, 0, N, [], by omega, by omega, rfl, rfl, by show _ = _; rw [HN.out]; rfl, by show _ ≤ _; omega, hst, Below.refl _ _⟩
  case round =>
    obtain ⟨a, n, f, acc, hna, haN, rfl, HAL, HSP, HF, hown, hbl⟩ := hrel
    clear hst
    have hPw : P ≤ wr.heap.size := by have := HP.out; have := hbl.size; omega
    by_cases ha : a < N
    · obtain ⟨A, rfl, hcs⟩ := hcells (by omega)
      have HCS : Hid (∀ k, k < N → wr.cell? (A.add k) = some (.int .u8 (b.getD k 0 : Nat))) := fun k hk => cell_old (HP.out ▸ hbl) (hcs k hk)
      have HA : Hid (a ≤ b.length ∧ a < b.length) := by rw [← HN.out]; exact ⟨haN, ha⟩
      have HST : Hid (splitL b = acc ++ (stepOf b a :: runL b (f - 1) (a + wide b a))) := by
        show _ = _
        rw [HSP.out, runL_step b f a HA.out.2 (by rw [← HN.out]; exact HF.out)]
      clear hcs hcells
      obtain ⟨wr0, hwr0⟩ : ∃ wr0, wr0 = wr := ⟨_, rfl⟩
      rw [← hwr0] at hown hbl hPw HCS
      have HW0 : Hid (Below wr0.heap.size wr0 wr) := by rw [← hwr0]; exact Below.refl _ _
      clear hwr0
      go_wp2
      go_loopw [5, 6, 7] (fun x y d wz => ∃ k L D : Nat, 1 ≤ k ∧ Hid (k ≤ 1025) ∧ k ≤ a + 1 ∧ L ≤ 258 ∧ x = .int .i64 L ∧ y = .int .i64 D ∧ d = .int .i64 k ∧ Hid ((L, D) = bestR b a (k - 1)) ∧ Hid (Below wr0.heap.size wr0 wz)) (fun _ _ d _ => 1025 - (intOf d).toNat)
      case atStart => exact ⟨1, 0, 0, by omega, (by decide : (1 : Nat) ≤ 1025), by omega, by omega, rfl, rfl, rfl, rfl, HW0⟩
      case round =>
        obtain ⟨k, L, D, hk1, HK, hka, hL, rfl, rfl, rfl, HBe, HBz⟩ := hrel
        clear HW0
        by_cases hgo : k ≤ a ∧ k ≤ 1024
        · obtain ⟨hk2, hk3⟩ := hgo
          have HK1 : Hid (k + 1 ≤ 1025) := by show _ ≤ _; omega
          have d1 : decide ((k : Int) ≤ 1024) = true := by simp; omega
          have d2 : (k : Int) ≤ a := by omega
          obtain ⟨R, hR⟩ : ∃ R, R = lik b (a - k) a := ⟨_, rfl⟩
          have HR : Hid (R = lik b (a - k) a) := hR
          have HS : Hid (Lik b (a - k) a R) := by show Lik _ _ _ _; rw [hR]; exact lik_spec b (a - k) a HA.out.1
          clear hk3 hR
          go_wp2
          go_loopw [8] (fun i wy => ∃ m : Nat, m ≤ 258 ∧ a + m ≤ N ∧ i = .int .i64 m ∧ Hid (∀ j, j < m → b.getD (a - k + j) 0 = b.getD (a + j) 0) ∧ Hid (Below wr0.heap.size wr0 wy)) (fun i _ => 258 - (intOf i).toNat)
          case atStart => exact ⟨0, by omega, by omega, rfl, fun j hj => by omega, HBz⟩
          case round =>
            obtain ⟨m, hm, ham, rfl, HE, HBy⟩ := hrel
            have hdone : ∀ (hl : Lik b (a - k) a m), R = m := fun hl => (hl.uni HS.out).symm
            have HDN : Hid (Lik b (a - k) a m → R = m) := hdone
            clear hdone
            by_cases h1 : m < 258
            · by_cases h2 : a + m < N
              · have c1 := cell_old HBy.out (HCS.out (a + m) h2)
                have c2 := cell_old HBy.out (HCS.out (a + m - k) (by omega))
                obtain ⟨x, hx⟩ : ∃ x, x = b.getD (a + m) 0 := ⟨_, rfl⟩
                obtain ⟨y, hy⟩ : ∃ y, y = b.getD (a + m - k) 0 := ⟨_, rfl⟩
                rw [← hx] at c1
                rw [← hy] at c2
                have HX : Hid (x = b.getD (a + m) 0) := hx
                have HY : Hid (y = b.getD (a - k + m) 0) := by
                  show _ = _
                  rw [hy]; congr 1; omega
                clear hx hy
                have e1 : decide ((m : Int) < 258) = true := by simp; omega
                have e2 : decide ((a : Int) + m < N) = true := by simp; omega
                have i1 : 0 ≤ (a : Int) + m ∧ (a : Int) + m < N := by omega
                have i2 : 0 ≤ (a : Int) + m - k ∧ (a : Int) + m - k < N := by omega
                have t1 : ((a : Int) + m).toNat = a + m := by omega
                have t2 : ((a : Int) + m - k).toNat = a + m - k := by omega
                by_cases hxy : x = y
                · have he : ((x : Int) == (y : Int)) = true := by simp [hxy]
                  have HXY : Hid (x = y) := hxy
                  clear hxy
                  go_wp2
                  go_quiet (fail)
                  go_wp2
                  go_roundw
                  case rel =>
                    refine ⟨m + 1, by omega, by omega, by go_num, fun j hj => ?_, HBy.out.trans ⟨rfl, rfl, rfl, Nat.le_refl _, fun _ _ => rfl⟩⟩
                    rcases (show j < m ∨ j = m by omega) with h | rfl
                    · exact HE.out j h
                    · rw [← HX.out, ← HY.out]; exact HXY.out.symm
                  case measure => simp [intOf]; omega
                · have he : ((x : Int) == (y : Int)) = false := by simp; omega
                  have HXY : Hid (¬ x = y) := hxy
                  have hRm : R = m := HDN.out ⟨hm, by rw [← HN.out]; exact ham, HE.out, .inr (.inr (by rw [← HX.out, ← HY.out]; exact fun h => HXY.out h.symm))⟩
                  have HRm : Hid (m = lik b (a - k) a) := by show _ = _; rw [← hRm]; exact HR.out
                  clear hxy hRm
                  by_cases hLm : L < m
                  · have HB2 : Hid ((m, k) = bestR b a k) := bestR_up hk1 HBe.out HRm.out hLm
                    go_wp2
                    go_quiet (fail)
                    go_wp2
                    go_roundw
                    case rel => exact ⟨k + 1, m, k, by omega, HK1, by omega, by omega, by first | rfl | trivial, by first | rfl | trivial, by go_num, HB2, HBy.out.trans ⟨rfl, rfl, rfl, Nat.le_refl _, fun _ _ => rfl⟩⟩
                    case measure => have := HK1.out; simp [intOf]; omega
                  · have HB2 : Hid ((L, D) = bestR b a k) := bestR_keep hk1 HBe.out HRm.out hLm
                    go_wp2
                    go_quiet (fail)
                    go_wp2
                    go_roundw
                    case rel => exact ⟨k + 1, L, D, by omega, HK1, by omega, by omega, by first | rfl | trivial, by first | rfl | trivial, by go_num, HB2, HBy.out.trans ⟨rfl, rfl, rfl, Nat.le_refl _, fun _ _ => rfl⟩⟩
                    case measure => have := HK1.out; simp [intOf]; omega
              · have e1 : decide ((m : Int) < 258) = true := by simp; omega
                have e2 : decide ((a : Int) + m < N) = false := by simp; omega
                have hRm : R = m := HDN.out ⟨hm, by rw [← HN.out]; exact ham, HE.out, .inr (.inl (by rw [← HN.out]; omega))⟩
                have HRm : Hid (m = lik b (a - k) a) := by show _ = _; rw [← hRm]; exact HR.out
                clear hRm
                by_cases hLm : L < m
                · have HB2 : Hid ((m, k) = bestR b a k) := bestR_up hk1 HBe.out HRm.out hLm
                  go_wp2
                  go_quiet (fail)
                  go_wp2
                  go_roundw
                  case rel => exact ⟨k + 1, m, k, by omega, HK1, by omega, by omega, by first | rfl | trivial, by first | rfl | trivial, by go_num, HB2, HBy.out.trans ⟨rfl, rfl, rfl, Nat.le_refl _, fun _ _ => rfl⟩⟩
                  case measure => have := HK1.out; simp [intOf]; omega
                · have HB2 : Hid ((L, D) = bestR b a k) := bestR_keep hk1 HBe.out HRm.out hLm
                  go_wp2
                  go_quiet (fail)
                  go_wp2
                  go_roundw
                  case rel => exact ⟨k + 1, L, D, by omega, HK1, by omega, by omega, by first | rfl | trivial, by first | rfl | trivial, by go_num, HB2, HBy.out.trans ⟨rfl, rfl, rfl, Nat.le_refl _, fun _ _ => rfl⟩⟩
                  case measure => have := HK1.out; simp [intOf]; omega
            · have e1 : decide ((m : Int) < 258) = false := by simp; omega
              have hRm : R = m := HDN.out ⟨hm, by rw [← HN.out]; exact ham, HE.out, .inl (by omega)⟩
              have HRm : Hid (m = lik b (a - k) a) := by show _ = _; rw [← hRm]; exact HR.out
              clear hRm
              by_cases hLm : L < m
              · have HB2 : Hid ((m, k) = bestR b a k) := bestR_up hk1 HBe.out HRm.out hLm
                go_wp2
                go_quiet (fail)
                go_wp2
                go_roundw
                case rel => exact ⟨k + 1, m, k, by omega, HK1, by omega, by omega, by first | rfl | trivial, by first | rfl | trivial, by go_num, HB2, HBy.out.trans ⟨rfl, rfl, rfl, Nat.le_refl _, fun _ _ => rfl⟩⟩
                case measure => have := HK1.out; simp [intOf]; omega
              · have HB2 : Hid ((L, D) = bestR b a k) := bestR_keep hk1 HBe.out HRm.out hLm
                go_wp2
                go_quiet (fail)
                go_wp2
                go_roundw
                case rel => exact ⟨k + 1, L, D, by omega, HK1, by omega, by omega, by first | rfl | trivial, by first | rfl | trivial, by go_num, HB2, HBy.out.trans ⟨rfl, rfl, rfl, Nat.le_refl _, fun _ _ => rfl⟩⟩
                case measure => have := HK1.out; simp [intOf]; omega
        · have HBF : Hid (bestR b a (min 1024 a) = (L, D)) := by
            show _ = _
            have : k - 1 = min 1024 a := by have := HK.out; omega
            rw [HBe.out, this]
          have hfit := refstep b a L D HA.out.2 HBF.out
          rw [← HN.out] at hfit
          have hx := cell_old HBz.out (HCS.out a ha)
          obtain ⟨x, hxe⟩ : ∃ x, x = b.getD a 0 := ⟨_, rfl⟩
          rw [← hxe] at hx hfit
          have hown2 := owns_below hown HBz.out
          have hPz : P ≤ wr.heap.size := by have := HBz.out.size; omega
          have HBW : Hid (Below P w wr) := hbl.trans (HBz.out.mono hPw)
          have hout : ((a : Int) < k) ∨ ((k : Int) ≤ a ∧ decide ((k : Int) ≤ 1024) = false) := by
            by_cases h : (a : Int) < k
            · exact .inl h
            · exact .inr ⟨by omega, by simp; omega⟩
          clear hgo hown hbl
          rcases hfit with ⟨h3, hse, hwe⟩ | ⟨h3, hse, hwe, hLN⟩
          · rw [hse, hwe] at HST
            have h3' : (L : Int) < 3 := by omega
            clear hse hwe hxe
            rcases hout with ho | ⟨ho, ho2⟩
            all_goals
              go_wp2_with (first
                | (at_builtin; refine wpList_pushSt rfl 75 77 (.tmp 58) (.tmp 64) rfl Tryd.underlying39 Tryd.info41 P _ n _ rfl hown2 _ _ _ ⟨rfl, rfl, rfl⟩ wr.heap.size rfl rfl (by omega) hPz ?_
                   intro g2 cap2 w5 ho5 hf5 hat5 hb5
                   clear hf5 hat5))
              go_roundw
              case rel =>
                refine ⟨a + 1, n + 1, f - 1, acc ++ [⟨x, 0, 0⟩], by omega, by omega, by go_num, ?_, ?_, ?_, ?_, ?_⟩
                · show _ = _; simp [HAL.out]
                · show _ = _; rw [HST.out]; simp
                · show _ ≤ _; have := HF.out; omega
                · rw [cellsL_append, cellsL_one]; exact ho5
                · exact HBW.out.trans hb5
              case measure => simp [intOf]; omega
          · rw [hse, hwe] at HST
            have h3' : (3 : Int) ≤ L := by omega
            have hLN' : (a : Int) + L ≤ N := by omega
            clear hse hwe hxe
            rcases hout with ho | ⟨ho, ho2⟩
            all_goals
              go_wp2_with (first
                | (at_builtin; refine wpList_pushSt rfl 75 77 (.tmp 68) (.tmp 72) rfl Tryd.underlying39 Tryd.info41 P _ n _ rfl hown2 _ _ _ ⟨rfl, rfl, rfl⟩ wr.heap.size rfl rfl (by omega) hPz ?_
                   intro g2 cap2 w5 ho5 hf5 hat5 hb5
                   clear hf5 hat5))
              go_roundw
              case rel =>
                refine ⟨a + L, n + 1, f - 1, acc ++ [⟨0, L, D⟩], by omega, by omega, by go_num, ?_, ?_, ?_, ?_, ?_⟩
                · show _ = _; simp [HAL.out]
                · show _ = _; rw [HST.out]; simp
                · show _ ≤ _; have := HF.out; omega
                · rw [cellsL_append, cellsL_one]; exact ho5
                · exact HBW.out.trans hb5
              case measure => simp [intOf]; omega
    · have haa : a = N := by omega
      subst haa
      go_wp2
      go_ret
      have e := HSP.out
      rw [runL_end b f a (by rw [← HN.out]; exact Nat.le_refl _), List.append_nil] at e
      have hn := HAL.out
      subst hn
      exact ⟨_, rfl, by rw [← HP.out, e]; exact hown, by rw [← HP.out]; exact hbl⟩
end Go.Proofs.YtdokpimhhkbdbaaDoor.Lz
