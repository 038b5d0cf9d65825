/-
  The document's own LengthCode, DistanceCode.
-/
import Derived.Test.YthjnkoagmjcjfaaKc
set_option linter.unusedSimpArgs false
set_option linter.unusedVariables false
namespace Go.Proofs.Ythjnkoagmjcjfaa
open Go.RowKit

theorem lenOfR_any (c : Nat) (hc : c ≤ 28) : Of3 25 ((257 : Int) + c) (lenB c : Nat) (lenN c : Nat) true := by
  by_cases h8 : c = 28
  · subst h8; exact fun w => lenOfR_last w
  · exact fun w => lenOfR_walk c (by omega) w
theorem disOfR_any (c : Nat) (hc : c ≤ 29) : Of3 27 (c : Int) (disB c : Nat) (disN c : Nat) true := fun w => disOfR_walk c (by omega) w

set_option maxHeartbeats 1000000 in
theorem lenCodeR (n : Nat) (hn : 3 ≤ n) (hn2 : (n : Int) ≤ 258) (w : World) :
    Calls Try.prog 21 #[.int .i64 n] w fun e w' => e = .returned (.tuple #[.int .i64 (257 + topOf lenB n 28 : Nat), .int .i64 (n - lenB (topOf lenB n 28) : Nat), .int .i64 (lenN (topOf lenB n 28) : Nat)]) ∧ w' = w := by
  have hn0 : lenB 0 ≤ n := by rw [lenB_zero]; exact hn
  have hnl : (3 : Int) ≤ n := by omega
  have hnw : (n : Int) ≤ 40000 := by omega
  have HN0 : Hid (lenB 0 ≤ n) := hn0
  clear hn0
  obtain ⟨T, hT⟩ : ∃ T, T = topOf lenB n 28 := ⟨_, rfl⟩
  rw [← hT]
  have HT : Hid (T = topOf lenB n 28) := hT
  clear hT
  go_enter Try.func21, Try.ntmps21
  go_wp2
  go_loopw [5] (fun i wr => ∃ k : Nat, k ≤ 28 ∧ i = .int .i64 ((257 : Int) + k) ∧ Hid (T = topOf lenB n k) ∧ wr = w) (fun i _ => (intOf i).toNat)
  case atStart => exact ⟨28, by omega, rfl, HT, rfl⟩
  case round =>
    obtain ⟨k, hk, rfl, HK, rfl⟩ := hrel
    have hc := lenOfR_any k hk
    have hs := lenB_small k hk
    by_cases h : lenB k ≤ n
    · have e : T = k := by rw [HK.out]; exact topOf_stop _ _ _ HN0.out h
      have HE : Hid (T = k) := e
      clear e
      go_wp2_with (go_at_call 25; (with_reducible refine (hc.out _).mono ?_); rintro e w' ⟨rfl, hx⟩; have hx := hx.symm; subst hx)
      go_ret3
      exact ⟨ret_ints3 (by have := HE.out; omega) (by rw [HE.out]; omega) (by rw [HE.out]), rfl⟩
    · have hk0 : 0 < k := by
        rcases Nat.eq_zero_or_pos k with rfl | h'
        · exact absurd HN0.out h
        · exact h'
      have HR : Hid (T = topOf lenB n (k - 1)) := by
        show _ = _
        rw [HK.out]
        obtain ⟨j, rfl⟩ : ∃ j, k = j + 1 := ⟨k - 1, by omega⟩
        exact topOf_down _ _ _ h
      go_wp2_with (go_at_call 25; (with_reducible refine (hc.out _).mono ?_); rintro e w' ⟨rfl, hx⟩; have hx := hx.symm; subst hx)
      go_roundw
      case rel => exact ⟨k - 1, by omega, by congr 1; omega, HR, by first | rfl | trivial⟩
      case measure => simp [intOf]; omega

theorem lenCodeR_none (n : Int) (h : n < 3 ∨ 258 < n) (w : World) :
    Calls Try.prog 21 #[.int .i64 n] w fun e w' => e = .returned (.tuple #[.int .i64 0, .int .i64 0, .int .i64 0]) ∧ w' = w := by
  rcases h with h | h
  all_goals
    go_enter Try.func21, Try.ntmps21
    go_wp2
    go_ret3
    exact ⟨rfl, rfl⟩

theorem lenCode_both (n : Int) : ∃ c e b : Nat, Code3 20 n c e b ∧ Code3 21 n c e b := by
  by_cases h : n < 3 ∨ 258 < n
  · exact ⟨0, 0, 0, fun w => lenCode_none n h w, fun w => lenCodeR_none n h w⟩
  · obtain ⟨m, rfl⟩ := Int.eq_ofNat_of_zero_le (show 0 ≤ n by omega)
    exact ⟨_, _, _, fun w => lenCode_walk m (by omega) (by omega) w, fun w => lenCodeR m (by omega) (by omega) w⟩

set_option maxHeartbeats 1000000 in
theorem disCodeR (n : Nat) (hn : 1 ≤ n) (hn2 : (n : Int) ≤ 32768) (w : World) :
    Calls Try.prog 23 #[.int .i64 n] w fun e w' => e = .returned (.tuple #[.int .i64 (topOf disB n 29 : Nat), .int .i64 (n - disB (topOf disB n 29) : Nat), .int .i64 (disN (topOf disB n 29) : Nat)]) ∧ w' = w := by
  have hn0 : disB 0 ≤ n := by rw [disB_zero]; exact hn
  have hnl : (1 : Int) ≤ n := by omega
  have hnw : (n : Int) ≤ 40000 := by omega
  have HN0 : Hid (disB 0 ≤ n) := hn0
  clear hn0
  obtain ⟨T, hT⟩ : ∃ T, T = topOf disB n 29 := ⟨_, rfl⟩
  rw [← hT]
  have HT : Hid (T = topOf disB n 29) := hT
  clear hT
  go_enter Try.func23, Try.ntmps23
  go_wp2
  go_loopw [5] (fun i wr => ∃ k : Nat, k ≤ 29 ∧ i = .int .i64 (k : Int) ∧ Hid (T = topOf disB n k) ∧ wr = w) (fun i _ => (intOf i).toNat)
  case atStart => exact ⟨29, by omega, rfl, HT, rfl⟩
  case round =>
    obtain ⟨k, hk, rfl, HK, rfl⟩ := hrel
    have hc := disOfR_any k hk
    have hs := disB_small k hk
    by_cases h : disB k ≤ n
    · have e : T = k := by rw [HK.out]; exact topOf_stop _ _ _ HN0.out h
      have HE : Hid (T = k) := e
      clear e
      go_wp2_with (go_at_call 27; (with_reducible refine (hc.out _).mono ?_); rintro e w' ⟨rfl, hx⟩; have hx := hx.symm; subst hx)
      go_ret3
      exact ⟨ret_ints3 (by have := HE.out; omega) (by rw [HE.out]; omega) (by rw [HE.out]), rfl⟩
    · have hk0 : 0 < k := by
        rcases Nat.eq_zero_or_pos k with rfl | h'
        · exact absurd HN0.out h
        · exact h'
      have HR : Hid (T = topOf disB n (k - 1)) := by
        show _ = _
        rw [HK.out]
        obtain ⟨j, rfl⟩ : ∃ j, k = j + 1 := ⟨k - 1, by omega⟩
        exact topOf_down _ _ _ h
      go_wp2_with (go_at_call 27; (with_reducible refine (hc.out _).mono ?_); rintro e w' ⟨rfl, hx⟩; have hx := hx.symm; subst hx)
      go_roundw
      case rel => exact ⟨k - 1, by omega, by congr 1; omega, HR, by first | rfl | trivial⟩
      case measure => simp [intOf]; omega

theorem disCodeR_none (n : Int) (h : n < 1 ∨ 32768 < n) (w : World) :
    Calls Try.prog 23 #[.int .i64 n] w fun e w' => e = .returned (.tuple #[.int .i64 0, .int .i64 0, .int .i64 0]) ∧ w' = w := by
  rcases h with h | h
  all_goals
    go_enter Try.func23, Try.ntmps23
    go_wp2
    go_ret3
    exact ⟨rfl, rfl⟩

theorem disCode_both (n : Int) : ∃ c e b : Nat, Code3 22 n c e b ∧ Code3 23 n c e b := by
  by_cases h : n < 1 ∨ 32768 < n
  · exact ⟨0, 0, 0, fun w => disCode_none n h w, fun w => disCodeR_none n h w⟩
  · obtain ⟨m, rfl⟩ := Int.eq_ofNat_of_zero_le (show 0 ≤ n by omega)
    exact ⟨_, _, _, fun w => disCode_walk m (by omega) (by omega) w, fun w => disCodeR m (by omega) (by omega) w⟩
end Go.Proofs.Ythjnkoagmjcjfaa
