/-
  The walk of the document's own Digits: the decimal digits of a number.
-/
import Derived.Test.YtghalbecgiepmaaDoorWkh
import Derived.Deep.QuietTactic
import Derived.BigQuiet
namespace Go.Proofs.YtghalbecgiepmaaDoor.wk
open Go.Proofs.YtghalbecgiepmaaDoor.flo Go.RowKit
set_option linter.unusedSimpArgs false
set_option linter.unusedVariables false

theorem ret_string {a b : ByteArray} (h : a = b) : Ending.returned (.string a) = .returned (.string b) := by rw [h]
theorem digit_at : ∀ d : Nat, d < 10 → ((ByteArray.mk #[48, 49, 50, 51, 52, 53, 54, 55, 56, 57]).extract d 10).extract 0 1 = ⟨#[UInt8.ofNat (48 + d)]⟩ := by decide +kernel
theorem digit_dec (d : Int) (h0 : 0 ≤ d) (h : d < 10) : ((ByteArray.mk #[48, 49, 50, 51, 52, 53, 54, 55, 56, 57]).extract d.toNat 10).extract 0 1 = dec d := by
  obtain ⟨k, rfl⟩ := Int.eq_ofNat_of_zero_le h0
  rw [Int.toNat_natCast, digit_at k (by omega), dec_small k (by omega)]
theorem dec_step (z : Int) (h : 10 ≤ z) : dec (z / 10) ++ dec (z % 10) = dec z := by
  obtain ⟨k, rfl⟩ := Int.eq_ofNat_of_zero_le (show 0 ≤ z by omega)
  have e1 : ((k : Int) / 10).toNat = k / 10 := by omega
  have e2 : ((k : Int) % 10).toNat = k % 10 := by omega
  unfold dec
  rw [e1, e2, Int.toNat_natCast]
  conv => rhs; rw [Lib.decDigits, dif_neg (show ¬ k < 10 by omega)]
  conv => lhs; arg 2; rw [Lib.decDigits, dif_pos (show k % 10 < 10 by omega)]
  apply ByteArray.ext
  simp
set_option maxHeartbeats 400000 in
theorem digits_walk (k : Nat) : ∀ (z : Int) (w : World), 0 ≤ z → z ≤ k → z ≤ 9223372036854775807 →
    Calls Tryd.prog 29 #[.int .i64 z] w fun e w' => e = .returned (.string (dec z)) ∧ ∃ m, w' = w.drewN m := by
  induction k with
  | zero =>
    intro z w h0 hk _
    obtain rfl : z = 0 := by omega
    go_enter Tryd.func29, Tryd.ntmps29
    go_wp2_with fail
    go_ret
    exact ⟨ret_string (digit_dec 0 (by decide) (by decide)), 0, rfl⟩
  | succ k ih =>
    intro z w h0 hk hn
    by_cases h10 : z < 10
    · go_enter Tryd.func29, Tryd.ntmps29
      go_wp2_with fail
      go_ret
      exact ⟨ret_string (digit_dec z h0 (by omega)), 0, rfl⟩
    · have hq : z.tdiv 10 = z / 10 := Int.tdiv_eq_ediv_of_nonneg h0
      have hr : z.tmod 10 = z % 10 := Int.tmod_eq_emod_of_nonneg h0
      have hw : IntKind.i64.wrap (z / 10) = z / 10 := by rw [IntKind.wrap_i64]; omega
      have hw2 : IntKind.i64.wrap (z % 10) = z % 10 := by rw [IntKind.wrap_i64]; omega
      have hz := dec_size (z / 10) (by omega) (by omega)
      go_enter Tryd.func29, Tryd.ntmps29
      go_wp2_with fail
      go_quiet ((go_at_call 29; exact Calls.quiet_of (ih _ _ (by omega) (by omega) (by omega))))
      go_wp2_with fail
      go_ret
      refine ⟨ret_string ?_, nq, rfl⟩
      rw [digit_dec (z % 10) (by omega) (by omega)]
      exact dec_step z (by omega)
end Go.Proofs.YtghalbecgiepmaaDoor.wk
