/-
  The walk of the document's own Best: it is gauge's.
-/
import Derived.Test.YtghalbecgiepmaaDoorWke
import Derived.Test.YtghalbecgiepmaaDoorWkf
namespace Go.Proofs.YtghalbecgiepmaaDoor.wk
open Go.Proofs.YtghalbecgiepmaaDoor.flo Go.RowKit
set_option linter.unusedSimpArgs false
set_option linter.unusedVariables false

set_option maxHeartbeats 400000 in
theorem refBest_walk (b cap n : Nat) (F : Nat → Nat) (w : World) (hn : n ≤ 1000) (hF : ∀ i, i < n → F i < 18446744073709551616) (hc : ∀ i, i < n → w.cell? ⟨b, i, none⟩ = some (.float .f64 (F i))) :
    Calls Tryd.prog 20 #[.slice (some ⟨b, 0, none⟩) n cap] w fun e w' => e = .returned (.int .i64 (best F n)) ∧ w' = w := by
  go_enter Tryd.func20, Tryd.ntmps20
  go_wp2
  go_loop [3, 8] (fun t i => ∃ k : Nat, k ≤ n ∧ i = .int .i64 k ∧ t = .int .i64 (best F k)) (fun _ i => n - (intOf i).toNat)
  case atStart => exact ⟨0, Nat.zero_le _, rfl, rfl⟩
  case round =>
    obtain ⟨k, hk, rfl, rfl⟩ := hrel
    have hb := best_bd F k
    by_cases hlt : k < n
    · have hck := hc k hlt
      have hfk := hF k hlt
      have hrk : (rank (F k) != 3) = !nan (F k) := by
        unfold rank
        cases nan (F k) with
        | true => rfl
        | false =>
          rw [if_neg (by decide)]
          by_cases hi : rung (F k) = 9218868437227405312
          · rw [if_pos hi]; cases neg (F k) <;> rfl
          · rw [if_neg hi]; rfl
      have CR : Hid (∀ w, Calls Tryd.prog 28 #[.float .f64 (F k)] w fun e w' => e = .returned (.int .i64 (rank (F k))) ∧ w' = w) := fun w => rank_walk _ w hfk
      generalize rank (F k) = r at hrk CR
      cases hnan : nan (F k) <;> rw [hnan] at hrk
      · by_cases hneg : best F k < 0
        · have HS : Hid (best F (k + 1) = k) := by show best F (k + 1) = k; simp only [best, hnan, hneg, if_true, Bool.false_eq_true, if_false]
          have hm1 : best F k = -1 := by omega
          rw [hm1]
          clear hneg hm1 hb
          go_wp2_with (go_at_call 28; with_reducible refine (CR.out _).mono ?_; rintro e w' ⟨rfl, rfl⟩)
          go_round
          case rel => exact ⟨k + 1, by omega, by go_num, by rw [HS.out]⟩
          case measure => simp [intOf]; omega
        · obtain ⟨j, hj⟩ : ∃ j : Nat, best F k = j := ⟨(best F k).toNat, by omega⟩
          have hjk : j < k := by omega
          have hcj := hc j (by omega)
          have hfj := hF j (by omega)
          cases hl : less (F j) (F k)
          · have HS : Hid (best F (k + 1) = j) := by show best F (k + 1) = j; simp only [best, hnan, hneg, hj, Int.toNat_natCast, hl, Bool.false_eq_true, if_false]; rw [if_neg (by omega)]
            rw [hj]
            clear hneg hj hb
            go_wp2_with (first | (go_at_call 28; with_reducible refine (CR.out _).mono ?_; rintro e w' ⟨rfl, rfl⟩) | (go_at_call 18; refine (refLess_walk _ _ _ hfj hfk).mono ?_; rintro e w' ⟨rfl, rfl⟩))
            go_round
            case rel => exact ⟨k + 1, by omega, by go_num, by rw [HS.out]⟩
            case measure => simp [intOf]; omega
          · have HS : Hid (best F (k + 1) = k) := by show best F (k + 1) = k; simp only [best, hnan, hneg, hj, Int.toNat_natCast, hl, Bool.false_eq_true, if_false, if_true]; rw [if_neg (by omega)]
            rw [hj]
            clear hneg hj hb
            go_wp2_with (first | (go_at_call 28; with_reducible refine (CR.out _).mono ?_; rintro e w' ⟨rfl, rfl⟩) | (go_at_call 18; refine (refLess_walk _ _ _ hfj hfk).mono ?_; rintro e w' ⟨rfl, rfl⟩))
            go_round
            case rel => exact ⟨k + 1, by omega, by go_num, by rw [HS.out]⟩
            case measure => simp [intOf]; omega
      · have HS : Hid (best F (k + 1) = best F k) := by show best F (k + 1) = best F k; simp only [best, hnan, if_true]
        go_wp2_with (go_at_call 28; with_reducible refine (CR.out _).mono ?_; rintro e w' ⟨rfl, rfl⟩)
        go_round
        case rel => exact ⟨k + 1, by omega, by go_num, by rw [HS.out]⟩
        case measure => simp [intOf]; omega
    · obtain rfl : k = n := by omega
      go_wp2
      go_ret
      exact ⟨rfl, rfl⟩

theorem refBest_none_walk (w : World) : Calls Tryd.prog 20 #[.slice none 0 0] w fun e w' => e = .returned (.int .i64 (-1)) ∧ w' = w := by
  go_enter Tryd.func20, Tryd.ntmps20
  go_wp2
  go_loop [3, 8] (fun t i => i = .int .i64 0 ∧ t = .int .i64 (-1)) (fun _ i => 0)
  case atStart => exact ⟨rfl, rfl⟩
  case round =>
    obtain ⟨rfl, rfl⟩ := hrel
    go_wp2
    go_ret
    exact ⟨rfl, rfl⟩
end Go.Proofs.YtghalbecgiepmaaDoor.wk
