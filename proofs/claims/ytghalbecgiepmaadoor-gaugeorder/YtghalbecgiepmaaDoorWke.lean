/-
  The walk of gauge.Best.
-/
import Derived.Test.YtghalbecgiepmaaDoorWkd
namespace Go.Proofs.YtghalbecgiepmaaDoor.wk
open Go.Proofs.YtghalbecgiepmaaDoor.flo Go.RowKit
set_option linter.unusedSimpArgs false
set_option linter.unusedVariables false

/-- WHAT gauge.Best TELLS of the first n of some words: the place of the best, or -1 -/
def best (F : Nat → Nat) : Nat → Int
  | 0 => -1
  | n + 1 => if nan (F n) then best F n else if best F n < 0 then n else if less (F (best F n).toNat) (F n) then n else best F n

theorem best_bd (F : Nat → Nat) (n : Nat) : -1 ≤ best F n ∧ best F n < n := by
  induction n with
  | zero => simp [best]
  | succ n ih =>
    unfold best
    split
    · omega
    · split
      · omega
      · split <;> omega

set_option maxHeartbeats 400000 in
theorem best_walk (b cap n : Nat) (F : Nat → Nat) (w : World) (hn : n ≤ 1000) (hF : ∀ i, i < n → F i < 18446744073709551616) (hc : ∀ i, i < n → w.cell? ⟨b, i, none⟩ = some (.float .f64 (F i))) :
    Calls Tryd.prog 13 #[.slice (some ⟨b, 0, none⟩) n cap] w fun e w' => e = .returned (.int .i64 (best F n)) ∧ w' = w := by
  go_enter Tryd.func13, Tryd.ntmps13
  go_wp2
  go_loop [3, 8] (fun t i => ∃ k : Nat, k ≤ n ∧ i = .int .i64 k ∧ t = .int .i64 (best F k)) (fun _ i => n - (intOf i).toNat)
  case atStart => exact ⟨0, Nat.zero_le _, rfl, rfl⟩
  case round =>
    obtain ⟨k, hk, rfl, rfl⟩ := hrel
    have hb := best_bd F k
    by_cases hlt : k < n
    · have hck := hc k hlt
      have hfk := hF k hlt
      cases hnan : nan (F k)
      · by_cases hneg : best F k < 0
        · have HS : Hid (best F (k + 1) = k) := by show best F (k + 1) = k; simp only [best, hnan, hneg, if_true, Bool.false_eq_true, if_false]
          have hm1 : best F k = -1 := by omega
          rw [hm1]
          clear hneg hm1 hb
          go_wp2_with (go_at_call 24; refine (isNaN_walk _ _ hfk).mono ?_; rintro e w' ⟨rfl, rfl⟩)
          go_round
          case rel => exact ⟨k + 1, by omega, by go_num, by rw [HS.out]⟩
          case measure => simp [intOf]; omega
        · obtain ⟨j, hj⟩ : ∃ j : Nat, best F k = j := ⟨(best F k).toNat, by omega⟩
          have hjk : j < k := by omega
          have hcj := hc j (by omega)
          have hfj := hF j (by omega)
          cases hl : less (F j) (F k)
          · have HS : Hid (best F (k + 1) = j) := by show best F (k + 1) = j; simp only [best, hnan, hneg, hj, Int.toNat_natCast, hl, Bool.false_eq_true, if_false]; rw [if_neg (by omega)]
            rw [hj]
            clear hneg hj hb
            go_wp2_with (first | (go_at_call 24; refine (isNaN_walk _ _ hfk).mono ?_; rintro e w' ⟨rfl, rfl⟩) | (go_at_call 10; refine (less_walk _ _ _ hfj hfk).mono ?_; rintro e w' ⟨rfl, rfl⟩))
            go_round
            case rel => exact ⟨k + 1, by omega, by go_num, by rw [HS.out]⟩
            case measure => simp [intOf]; omega
          · have HS : Hid (best F (k + 1) = k) := by show best F (k + 1) = k; simp only [best, hnan, hneg, hj, Int.toNat_natCast, hl, Bool.false_eq_true, if_false, if_true]; rw [if_neg (by omega)]
            rw [hj]
            clear hneg hj hb
            go_wp2_with (first | (go_at_call 24; refine (isNaN_walk _ _ hfk).mono ?_; rintro e w' ⟨rfl, rfl⟩) | (go_at_call 10; refine (less_walk _ _ _ hfj hfk).mono ?_; rintro e w' ⟨rfl, rfl⟩))
            go_round
            case rel => exact ⟨k + 1, by omega, by go_num, by rw [HS.out]⟩
            case measure => simp [intOf]; omega
      · have HS : Hid (best F (k + 1) = best F k) := by show best F (k + 1) = best F k; simp only [best, hnan, if_true]
        go_wp2_with (go_at_call 24; refine (isNaN_walk _ _ hfk).mono ?_; rintro e w' ⟨rfl, rfl⟩)
        go_round
        case rel => exact ⟨k + 1, by omega, by go_num, by rw [HS.out]⟩
        case measure => simp [intOf]; omega
    · obtain rfl : k = n := by omega
      go_wp2
      go_ret
      exact ⟨rfl, rfl⟩

theorem best_none_walk (w : World) : Calls Tryd.prog 13 #[.slice none 0 0] w fun e w' => e = .returned (.int .i64 (-1)) ∧ w' = w := by
  go_enter Tryd.func13, Tryd.ntmps13
  go_wp2
  go_loop [3, 8] (fun t i => i = .int .i64 0 ∧ t = .int .i64 (-1)) (fun _ i => 0)
  case atStart => exact ⟨rfl, rfl⟩
  case round =>
    obtain ⟨rfl, rfl⟩ := hrel
    go_wp2
    go_ret
    exact ⟨rfl, rfl⟩
end Go.Proofs.YtghalbecgiepmaaDoor.wk
