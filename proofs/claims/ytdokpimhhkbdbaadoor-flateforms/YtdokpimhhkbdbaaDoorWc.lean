/-
  The writer's Put, Code, Align.
-/
import Derived.Test.YtdokpimhhkbdbaaDoorWb
set_option linter.unusedSimpArgs false
set_option linter.unusedVariables false
namespace Go.Proofs.YtdokpimhhkbdbaaDoor
open Go.RowKit

theorem putting {N t : Nat} (n : Int) (k : Nat) : N + low n k * 2 ^ t + dig n k * 2 ^ (t + k) = N + low n (k + 1) * 2 ^ t := by
  rw [low_succ, Nat.add_mul, Nat.pow_add, Nat.mul_assoc, Nat.mul_comm (2 ^ k) (2 ^ t), Nat.add_assoc]

theorem coding {N t : Nat} (n : Int) (c k : Nat) : N + rev n c k * 2 ^ t + dig n (c - 1 - k) * 2 ^ (t + k) = N + rev n c (k + 1) * 2 ^ t := by
  rw [rev, Nat.add_mul, Nat.pow_add, Nat.mul_assoc, Nat.mul_comm (2 ^ k) (2 ^ t), Nat.add_assoc]

set_option maxHeartbeats 1000000 in
theorem put_walk (B p : Nat) (w : World) (N t : Nat) (n : Int) (c : Nat) (h : Wr B p w N t) (hc : c ≤ 16) (ht : t < 900000) :
    Calls Tryd.prog 39 #[.pointer (some ⟨p, 0, none⟩), .int .i64 n, .int .i64 c] w fun e w' => e = .returned (.tuple #[]) ∧ Wr B p w' (N + low n c * 2 ^ t) (t + c) ∧ Below B w w' := by
  have hmay : Hid (∀ w, Calls Tryd.prog 52 #[.int .i64 c] w fun e w' => e = .returned (.bool true) ∧ w' = w) := fun w => (may_walk c w).mono fun e w' ⟨h1, h2⟩ => ⟨by rw [h1]; simp; omega, h2⟩
  go_enter Tryd.func39, Tryd.ntmps39
  go_wp2_with (go_at_call 52; refine (hmay.out _).mono ?_; rintro e w' ⟨rfl, hx⟩; have hx := hx.symm; subst hx)
  go_loopw [6] (fun i wr => ∃ k : Nat, k ≤ c ∧ i = .int .i64 k ∧ Wr B p wr (N + low n k * 2 ^ t) (t + k) ∧ Below B w wr) (fun i _ => c - (intOf i).toNat)
  case atStart => exact ⟨0, by omega, rfl, by simpa [low_zero] using h, Below.refl _ _⟩
  case round =>
    obtain ⟨k, hk, rfl, hw, hb⟩ := hrel
    by_cases hkc : k < c
    · have hdig : Hid (∀ w, Calls Tryd.prog 54 #[.int .i64 n, .int .i64 k] w fun e w' => e = .returned (.int .u8 (dig n k)) ∧ w' = w) := digit_walk n k (by omega)
      have hadd : Hid (Calls Tryd.prog 53 #[.pointer (some ⟨p, 0, none⟩), .int .u8 (dig n k : Int)] wr fun e w' => e = .returned (.tuple #[]) ∧ Wr B p w' (N + low n k * 2 ^ t + dig n k * 2 ^ (t + k)) (t + k + 1) ∧ Below B wr w') := add_walk B p wr _ (t + k) _ hw (dig_lt n k) (by omega)
      go_wp2_with (first | (go_at_call 54; with_reducible refine (hdig.out _).mono ?_; rintro e w' ⟨rfl, hx⟩; have hx := hx.symm; subst hx) | (go_at_call 53; with_reducible refine hadd.out.mono ?_; rintro e w' ⟨rfl, hw2, hb2⟩))
      go_roundw
      case rel =>
        rw [putting] at hw2
        exact ⟨k + 1, by omega, by go_num, hw2, hb.trans hb2⟩
      case measure => simp [intOf]; omega
    · have hkk : k = c := by omega
      subst hkk
      go_wp2
      go_end0
      exact ⟨rfl, hw, hb⟩

theorem may_not (c : Int) (hc : ¬ (0 ≤ c ∧ c ≤ 16)) : Hid (∀ w, Calls Tryd.prog 52 #[.int .i64 c] w fun e w' => e = .returned (.bool false) ∧ w' = w) :=
  fun w => (may_walk c w).mono fun e w' ⟨h1, h2⟩ => ⟨by rw [h1]; simp only [hc, decide_false], h2⟩

theorem put_not (a : Value) (w : World) (n : Int) (c : Int) (hc : ¬ (0 ≤ c ∧ c ≤ 16)) :
    Calls Tryd.prog 39 #[a, .int .i64 n, .int .i64 c] w fun e w' => e = .returned (.tuple #[]) ∧ w' = w := by
  have hmay := may_not c hc
  go_enter Tryd.func39, Tryd.ntmps39
  go_wp2_with (go_at_call 52; refine (hmay.out _).mono ?_; rintro e w' ⟨rfl, hx⟩; have hx := hx.symm; subst hx)
  refine bodyPost_ret (results_none rfl _ _ _) rfl ?_
  exact ⟨rfl, rfl⟩

theorem code_not (a : Value) (w : World) (n : Int) (c : Int) (hc : ¬ (0 ≤ c ∧ c ≤ 16)) :
    Calls Tryd.prog 59 #[a, .int .i64 n, .int .i64 c] w fun e w' => e = .returned (.tuple #[]) ∧ w' = w := by
  have hmay := may_not c hc
  go_enter Tryd.func59, Tryd.ntmps59
  go_wp2_with (go_at_call 52; refine (hmay.out _).mono ?_; rintro e w' ⟨rfl, hx⟩; have hx := hx.symm; subst hx)
  refine bodyPost_ret (results_none rfl _ _ _) rfl ?_
  exact ⟨rfl, rfl⟩

set_option maxHeartbeats 1000000 in
theorem code_walk (B p : Nat) (w : World) (N t : Nat) (n : Int) (c : Nat) (h : Wr B p w N t) (hc : c ≤ 16) (ht : t < 900000) :
    Calls Tryd.prog 59 #[.pointer (some ⟨p, 0, none⟩), .int .i64 n, .int .i64 c] w fun e w' => e = .returned (.tuple #[]) ∧ Wr B p w' (N + rev n c c * 2 ^ t) (t + c) ∧ Below B w w' := by
  have hmay : Hid (∀ w, Calls Tryd.prog 52 #[.int .i64 c] w fun e w' => e = .returned (.bool true) ∧ w' = w) := fun w => (may_walk c w).mono fun e w' ⟨h1, h2⟩ => ⟨by rw [h1]; simp; omega, h2⟩
  go_enter Tryd.func59, Tryd.ntmps59
  go_wp2_with (go_at_call 52; refine (hmay.out _).mono ?_; rintro e w' ⟨rfl, hx⟩; have hx := hx.symm; subst hx)
  go_loopw [6] (fun i wr => ∃ k : Nat, k ≤ c ∧ i = .int .i64 ((c : Int) - 1 - k) ∧ Wr B p wr (N + rev n c k * 2 ^ t) (t + k) ∧ Below B w wr) (fun i _ => (intOf i + 1).toNat)
  case atStart => exact ⟨0, by omega, by simp, by simpa [rev] using h, Below.refl _ _⟩
  case round =>
    obtain ⟨k, hk, rfl, hw, hb⟩ := hrel
    by_cases hkc : k < c
    · have e1 : (c : Int) - 1 - k = ((c - 1 - k : Nat) : Int) := by omega
      rw [e1]
      have hdig : Hid (∀ w, Calls Tryd.prog 54 #[.int .i64 n, .int .i64 ((c - 1 - k : Nat) : Int)] w fun e w' => e = .returned (.int .u8 (dig n (c - 1 - k))) ∧ w' = w) := digit_walk n (c - 1 - k) (by omega)
      have hadd : Hid (Calls Tryd.prog 53 #[.pointer (some ⟨p, 0, none⟩), .int .u8 (dig n (c - 1 - k) : Int)] wr fun e w' => e = .returned (.tuple #[]) ∧ Wr B p w' (N + rev n c k * 2 ^ t + dig n (c - 1 - k) * 2 ^ (t + k)) (t + k + 1) ∧ Below B wr w') := add_walk B p wr _ (t + k) _ hw (dig_lt n _) (by omega)
      rw [coding] at hadd
      obtain ⟨j, hj⟩ : ∃ j, j = c - 1 - k := ⟨_, rfl⟩
      rw [← hj] at hdig hadd ⊢
      have hj2 : (c : Int) - 1 - (k + 1 : Nat) = (j : Int) - 1 := by omega
      clear e1
      have HJ : Hid (j = c - 1 - k) := hj
      have HJ2 : Hid ((c : Int) - 1 - (k + 1 : Nat) = (j : Int) - 1) := hj2
      have hj0 : j < 16 := by omega
      clear hj hj2
      go_wp2_with (first | (go_at_call 54; with_reducible refine (hdig.out _).mono ?_; rintro e w' ⟨rfl, hx⟩; have hx := hx.symm; subst hx) | (go_at_call 53; with_reducible refine hadd.out.mono ?_; rintro e w' ⟨rfl, hw2, hb2⟩))
      go_roundw
      case rel =>
        exact ⟨k + 1, by omega, by rw [HJ2.out], hw2, hb.trans hb2⟩
      case measure => simp [intOf] <;> omega
    · have hkk : k = c := by omega
      subst hkk
      go_wp2
      go_end0
      exact ⟨rfl, hw, hb⟩

end Go.Proofs.YtdokpimhhkbdbaaDoor
