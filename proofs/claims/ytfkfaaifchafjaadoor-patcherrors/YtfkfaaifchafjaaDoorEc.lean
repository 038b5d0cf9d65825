/-
  PatchErrors: the law's walk.
-/
import Derived.Test.YtfkfaaifchafjaaDoorEg
set_option linter.unusedSimpArgs false
set_option linter.unusedVariables false
namespace Go.Proofs.YtfkfaaifchafjaaDoor
open Go.RowKit

theorem meas24 {j : Nat} (h : j < 24) : 24 - (intOf (.int .i64 ((j : Int) + 1))).toNat < 24 - (intOf (.int .i64 (j : Int))).toNat := by
  simp [intOf]; omega

set_option maxRecDepth 100000 in
set_option maxHeartbeats 8000000 in
theorem errors_walk (n : Int) (w : World) : Calls Tryd.prog 4 #[.int .i64 n] w fun e w' => e = .returned (.bool true) ∧ Old w w' := by
  obtain ⟨k0, hk0, kw⟩ := within_hid n 50 (by decide) (by decide)
  have kw' : Hid (∀ w, Calls Tryd.prog 7 #[.int .i64 n, .int .i64 50] w fun e w' => e = .returned (.int .i64 (k0 : Int)) ∧ w' = w) := kw
  have kp := plain_hid ⟨#[111, 110, 101]⟩
  have kc : Hid (∀ (w : World) g1 g2, w.heap[g1]? = some (.cells (plN.map encStr).toArray 9 (0, 0)) → w.heap[g2]? = some (.cells (cellsC plOne).toArray 44 (0, 0)) → Calls Tryd.prog 15 #[.agg #[.string ⟨#[98]⟩, .bool false, .slice (some ⟨g1, 0, none⟩) 2 2, .slice (some ⟨g2, 0, none⟩) 7 7]] w fun e w' => e = .returned (.int .i64 0) ∧ Old w w') := fun w g1 g2 h1 h2 => by
    have := check_any w ⟨#[98]⟩ false _ _ plN plOne (plain_mf (t := ⟨#[111, 110, 101]⟩) h1 h2) (small_of (by decide +kernel))
    rw [show checkM ((⟨#[98]⟩ : ByteArray).data.toList, false, plN, plOne) = true by decide +kernel] at this
    exact this
  obtain ⟨nn, hnn⟩ : ∃ nn : Nat, nn = k0 + 1 := ⟨_, rfl⟩
  have hn1 : (1 : Int) + (k0 : Int) = (nn : Int) := by omega
  have hn2 : 1 ≤ nn ∧ nn ≤ 50 := by omega
  obtain ⟨hn3, hn4⟩ := hn2
  clear kw hk0 hnn
  have kwk := wakes_hid
  go_enter Tryd.func4, Tryd.ntmps4
  go_wp2_with (first
    | (go_at_call 7; (with_reducible refine (kw'.out _).mono ?_); rintro e w1 ⟨rfl, rfl⟩)
    | (go_at_call 8; (with_reducible refine (kp.out _).mono ?_); rintro e w2 ⟨g1, g2, rfl, p1, p2, l1, l2, b2⟩
       have HP1 := mkHid p1
       have HP2 := mkHid p2
       have HB2 := mkHid b2
       clear p1 p2 l1 l2 b2)
    | (go_at_call 15; (with_reducible refine (kc.out _ _ _ HP1.out HP2.out).mono ?_); rintro e w3 ⟨rfl, b3⟩
       have HB3 := mkHid (below_then HB2.out b3)
       clear b3))
  go_loopw [3] (fun i wr => ∃ j : Nat, j ≤ 24 ∧ i = .int .i64 j ∧ Hid (Old w1 wr)) (fun i _ => 24 - (intOf i).toNat)
  case atStart => exact ⟨0, by omega, rfl, HB3⟩
  case round =>
    obtain ⟨j, hj, rfl, HO⟩ := hrel
    clear HP1 HP2 HB2 HB3 kw' kc
    by_cases hj24 : j < 24
    · have hj0 : (j : Int) < 24 := by omega
      go_upto_region 9 with (first
        | (go_at_call 8; (with_reducible refine (kp.out _).mono ?_); rintro e w4 ⟨g1, g2, rfl, p1, p2, l1, l2, b4⟩
           obtain ⟨a, ha⟩ : ∃ a, a = w4.heap.size := ⟨_, rfl⟩
           obtain ⟨W, hW⟩ : ∃ W, W = w4.alloc (.cells #[.string ⟨#[98]⟩, .bool false, .slice (some ⟨g1, 0, none⟩) 2 2, .slice (some ⟨g2, 0, none⟩) 7 7] 26) := ⟨_, rfl⟩
           have HES : Hid (ES w1 W a g1 g2) := by
             have h1 := below_then HO.out b4
             have h2 := HO.out.size
             show ES _ _ _ _ _
             rw [hW, ha]
             exact ⟨h10 _ _, block_old (old1 _ _) p1, block_old (old1 _ _) p2, below_then h1 (old1 _ _), h1.size, by omega⟩
           have HWW := mkHid hW
           have HA := mkHid ha
           clear p1 p2 l1 l2 b4 hW ha))
      rw [← HWW.out, ← HA.out]
      iterate 7 go_step
      refine sw_all w1 W a _ g2 nn j HES.out hn3 hn4 hj24 _ _ _ _ _ _ _ _ _ _ _ _ _ _ _ _ _ _ _ _ _ _ _ _ _ _ _ _ _ _ _ _ _ _ _ _ _ _ _ _ _ _ _ _ _ _ _ _ _ _ _ _ _ _ _ _ _ _ _ _ _ _ _ _ _ _ _ _ _ _ _ _ _ _ _ _ _ _ _ _ _ _ _ _ _ _ _ _ _ _ _ _ _ _ _ _ _ _ _ _ _ _ _ _ _ _ _ _ _ _ _ _ _ _ _ _ _ _ _ _ _ _ _ _ _ _ _ _ _ _ _ _ _ _ _ _ _ _ _ _ _ _ _ _ _ _ _ _ _ _ _ _ _ _ _ _ _ _ _ _ _ _ _ _ _ _ ?_
      iterate 131 intro _
      rintro wc ⟨nm, tg, nv, cv, needs, chs, hpa, hm, hck, hsm, ho⟩
      have HPA := mkHid hpa
      have HO2 := mkHid ho
      have kP : Hid (∀ w', Old wc w' → Calls Tryd.prog 9 #[.agg #[.string nm, .bool tg, nv, cv]] w' fun e w'' => e = .returned (.tuple #[.string ⟨#[]⟩, .int .i64 1]) ∧ Old w' w'') := fun w' h =>
        print_any w' nm tg nv cv needs chs (hm.old h) hsm _ _ (by rw [hck]; rfl) (by rw [hck]; rfl)
      have kC : Hid (∀ w', Old wc w' → Calls Tryd.prog 15 #[.agg #[.string nm, .bool tg, nv, cv]] w' fun e w'' => e = .returned (.int .i64 1) ∧ Old w' w'') := fun w' h => by
        have := check_any w' nm tg nv cv needs chs (hm.old h) hsm
        rw [hck] at this; exact this
      obtain ⟨p0, p1, p2, p3⟩ := cell4 hpa
      clear hpa hm hck hsm ho
      go_wp2_with (first
        | (go_at_call 9; (with_reducible refine (kP.out _ (old_refl _)).mono ?_); rintro e w5 ⟨rfl, b5⟩
           have HB5 := mkHid b5
           obtain ⟨p0, p1, p2, p3⟩ := cell4 (block_old b5 HPA.out)
           clear b5)
        | (go_at_call 15; (with_reducible refine (kC.out _ HB5.out).mono ?_); rintro e w6 ⟨rfl, b6⟩
           have HB6 := mkHid (below_then HO2.out (below_then HB5.out b6))
           clear b6))
      go_roundw
      case rel => exact ⟨j + 1, by omega, by go_num, HB6⟩
      case measure => exact meas24 hj24
    · have hjj : j = 24 := by omega
      subst hjj
      go_wp2_with (go_at_call 14; (with_reducible refine (kwk.out _).mono ?_); rintro e w5 ⟨rfl, b5⟩)
      go_ret
      exact ⟨rfl, below_then HO.out b5⟩
end Go.Proofs.YtfkfaaifchafjaaDoor
