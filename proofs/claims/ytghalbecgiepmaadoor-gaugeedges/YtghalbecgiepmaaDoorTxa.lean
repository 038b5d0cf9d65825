/-
  What gauge tells of a share of halves and quarters.
-/
import Derived.Test.YtghalbecgiepmaaDoorFls
import Derived.Test.YtghalbecgiepmaaDoorWkd
namespace Go.Proofs.YtghalbecgiepmaaDoor.wk
open Go.Proofs.YtghalbecgiepmaaDoor.flo Go.RowKit

theorem inB_small {p : Int} (h : p.natAbs ≤ 1000000) : inB p = true := by
  unfold inB; rw [decide_eq_true_eq]; omega
theorem inB_pow {k : Nat} (h : k ≤ 2) : inB ((2 ^ k : Nat) : Int) = true ∧ ((2 ^ k : Nat) : Int) ≠ 0 := by
  have : k = 0 ∨ k = 1 ∨ k = 2 := by omega
  rcases this with rfl | rfl | rfl <;> decide

theorem share_quo (p : Int) (k : Nat) (hp : p.natAbs ≤ 1000000) (hk : k ≤ 2) : floatBits .quo .f64 (floatOfInt .f64 p) (floatOfInt .f64 ((2 ^ k : Nat) : Int)) = some (share p ((2 ^ k : Nat) : Int)) := by
  obtain ⟨h1, h2⟩ := inB_pow hk
  unfold share
  rw [inB_small hp, h1]
  simp only [Bool.and_self, if_true]
  rw [if_neg h2]
  unfold quo
  have := quo_some p ((2 ^ k : Nat) : Int) (by omega) (inB_abs h1) h2
  obtain ⟨r, hr⟩ := Option.isSome_iff_exists.1 this
  rw [hr, Option.getD_some]

theorem text_share_pos (p : Int) (k : Nat) (hp0 : 0 < p) (hp : p.natAbs ≤ 1000000) (hk : k ≤ 2) : text (share p ((2 ^ k : Nat) : Int)) = cent ((p.natAbs * 100 / 2 ^ k : Nat) : Int) := by
  obtain ⟨h1, h2, h3, h4⟩ := hundredths p k hk (by omega) hp (share_quo p k hp hk)
  have hnn : neg (share p ((2 ^ k : Nat) : Int)) = false := by rw [h2, decide_eq_false_iff_not]; omega
  have hx := neg_rung h1
  rw [hnn] at hx
  simp only [Bool.false_eq_true, if_false, Nat.zero_add] at hx
  unfold text uns
  rw [if_neg (by unfold nan; rw [decide_eq_true_eq]; omega), hnn, if_neg (by decide), if_neg (by omega), if_neg (by omega)]
  rw [← hx] at h4
  rw [h4]
theorem text_share_neg (p : Int) (k : Nat) (hp0 : p < 0) (hp : p.natAbs ≤ 1000000) (hk : k ≤ 2) : text (share p ((2 ^ k : Nat) : Int)) = ⟨#[45]⟩ ++ cent ((p.natAbs * 100 / 2 ^ k : Nat) : Int) := by
  obtain ⟨h1, h2, h3, h4⟩ := hundredths p k hk (by omega) hp (share_quo p k hp hk)
  have hnn : neg (share p ((2 ^ k : Nat) : Int)) = true := by rw [h2, decide_eq_true_eq]; omega
  obtain ⟨r1, _, _⟩ := rung_rung (share p ((2 ^ k : Nat) : Int))
  unfold text uns
  rw [if_neg (by unfold nan; rw [decide_eq_true_eq]; omega), hnn, if_pos rfl, r1, if_neg (by omega), if_neg (by omega), h4]
theorem text_share_zero (k : Nat) (hk : k ≤ 2) : text (share 0 ((2 ^ k : Nat) : Int)) = cent 0 := by
  have h0 : share 0 ((2 ^ k : Nat) : Int) = 0 := by
    have : k = 0 ∨ k = 1 ∨ k = 2 := by omega
    rcases this with rfl | rfl | rfl <;> decide +kernel
  rw [h0]
  unfold text uns
  rw [if_neg (by decide), if_neg (by decide), if_neg (by decide), if_neg (by decide), show ones (mul100 0) = 0 from by decide +kernel]
  rfl
end Go.Proofs.YtghalbecgiepmaaDoor.wk
