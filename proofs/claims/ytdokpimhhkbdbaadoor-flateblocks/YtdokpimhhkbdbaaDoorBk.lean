/-
  The document's own codes: LengthOf, DistanceOf, LengthCode, DistanceCode. The document's own LengthCode, DistanceCode.
-/
import Derived.Test.YtdokpimhhkbdbaaDoorBe
set_option linter.unusedSimpArgs false
set_option linter.unusedVariables false
namespace Go.Proofs.YtdokpimhhkbdbaaDoor.Lz
open Go.RowKit

theorem ret_of3 {a b a' b' : Int} {r : Bool} (h1 : a = a') (h2 : b = b') : Ending.returned (.tuple #[.int .i64 a, .int .i64 b, .bool r]) = .returned (.tuple #[.int .i64 a', .int .i64 b', .bool r]) := by rw [h1, h2]

theorem div4 : ∀ k, k < 28 → ((((257 : Int) + (k : Nat)) - 261).tdiv 4 < 0 ∧ -9 ≤ (((257 : Int) + (k : Nat)) - 261).tdiv 4 ∧ lenN k = 0) ∨ (0 ≤ (((257 : Int) + (k : Nat)) - 261).tdiv 4 ∧ (((257 : Int) + (k : Nat)) - 261).tdiv 4 = (lenN k : Nat)) := by decide
theorem div2 : ∀ k, k < 30 → ((((k : Nat) : Int) - 2).tdiv 2 < 0 ∧ -9 ≤ (((k : Nat) : Int) - 2).tdiv 2 ∧ disN k = 0) ∨ (0 ≤ (((k : Nat) : Int) - 2).tdiv 2 ∧ (((k : Nat) : Int) - 2).tdiv 2 = (disN k : Nat)) := by decide

set_option maxHeartbeats 2000000 in
theorem lenOfR_walk (c : Nat) (hc : c < 28) (w : World) :
    Calls Tryd.prog 35 #[.int .i64 ((257 : Int) + c)] w fun e w' => e = .returned (.tuple #[.int .i64 (lenB c : Nat), .int .i64 (lenN c : Nat), .bool true]) ∧ w' = w := by
  have hx : ((257 : Int) + c == 285) = false := by simp; omega
  go_enter Tryd.func35, Tryd.ntmps35
  go_wp2
  go_loopw [5, 6] (fun b i wr => ∃ k s : Nat, k ≤ c ∧ i = .int .i64 ((257 : Int) + k) ∧ b = .int .i64 (s : Int) ∧ Hid (s = lenB k) ∧ (s : Int) ≤ 40000 ∧ wr = w) (fun _ i _ => (300 - intOf i).toNat)
  case atStart => exact ⟨0, lenB 0, by omega, rfl, rfl, rfl, by decide, rfl⟩
  case round =>
    obtain ⟨k, s, hk, rfl, rfl, HS, hs, rfl⟩ := hrel
    have hd := div4 k (by omega)
    obtain ⟨q, hq⟩ : ∃ q, q = (((257 : Int) + (k : Nat)) - 261).tdiv 4 := ⟨_, rfl⟩
    rw [← hq] at hd
    have hq' : (((257 : Int) + (k : Nat)) - 261).tdiv 4 = q := hq.symm
    clear hq
    by_cases hkc : k = c
    · subst hkc
      have hn16 := lenN_small k (by omega)
      rcases hd with ⟨h1, h0, h2⟩ | ⟨h1, h2⟩
      · have hqw : wrap64 q = q := by unfold wrap64; omega
        clear hn16
        have H2 : Hid (lenN k = 0) := h2
        clear h2
        go_wp2
        go_ret3
        exact ⟨ret_of3 (by rw [HS.out]) (by rw [H2.out]; rfl), rfl⟩
      · have hqw : wrap64 q = q := by unfold wrap64; omega
        have H2 : Hid (q = (lenN k : Nat)) := h2
        clear h2 hn16
        go_wp2
        go_ret3
        exact ⟨ret_of3 (by rw [HS.out]) H2.out, rfl⟩
    · have hne : (((257 : Int) + k) == ((257 : Int) + c)) = false := by simp; omega
      have hlt : k + 1 ≤ c := by omega
      have hn16 := lenN_small k (by omega)
      have hst := len_step k (by omega) (by omega)
      have hsm := lenB_small (k + 1) (by omega)
      obtain ⟨z, hz⟩ : ∃ z, z = 2 ^ lenN k := ⟨_, rfl⟩
      have HW : Hid (wrap64 (2 ^ lenN k) = ((2 ^ lenN k : Nat) : Int)) := pow_small (lenN k) hn16
      rw [← hz] at hst HW
      have HST : Hid (lenB (k + 1) = lenB k + z) := hst
      have hz2 : (z : Int) ≤ 40000 := by have := HS.out; omega
      have hz3 : (s : Int) + z ≤ 40000 := by have := HS.out; omega
      rcases hd with ⟨h1, h0, h2⟩ | ⟨h1, h2⟩
      · have hqw : wrap64 q = q := by unfold wrap64; omega
        rw [h2] at hz
        have hz1 : z = 1 := by simpa using hz
        subst hz1
        clear h2 hz hkc hst hsm HW hn16
        go_wp2
        go_roundw
        case rel => exact ⟨k + 1, s + 1, by omega, by go_num, by go_num, by show _ = _; rw [HST.out, HS.out], by omega, by first | rfl | trivial⟩
        case measure => simp [intOf]; omega
      · obtain ⟨b, hbe⟩ : ∃ b, b = lenN k := ⟨_, rfl⟩
        rw [← hbe] at h2 HW hn16
        subst h2
        have hqw : wrap64 (b : Int) = b := by unfold wrap64; omega
        clear hz hkc hst hsm hbe
        have hw := HW.out
        clear HW
        go_wp2
        go_roundw
        case rel =>
          clear hw
          exact ⟨k + 1, s + z, by omega, by go_num, by go_num, by show _ = _; rw [HST.out, HS.out], by omega, by first | rfl | trivial⟩
        case measure =>
          clear hw
          simp [intOf]; omega

set_option maxHeartbeats 2000000 in
theorem disOfR_walk (c : Nat) (hc : c < 30) (w : World) :
    Calls Tryd.prog 36 #[.int .i64 (c : Int)] w fun e w' => e = .returned (.tuple #[.int .i64 (disB c : Nat), .int .i64 (disN c : Nat), .bool true]) ∧ w' = w := by
  go_enter Tryd.func36, Tryd.ntmps36
  go_wp2
  go_loopw [5, 6] (fun b i wr => ∃ k s : Nat, k ≤ c ∧ i = .int .i64 (k : Int) ∧ b = .int .i64 (s : Int) ∧ Hid (s = disB k) ∧ (s : Int) ≤ 40000 ∧ wr = w) (fun _ i _ => (40 - intOf i).toNat)
  case atStart => exact ⟨0, disB 0, by omega, rfl, rfl, rfl, by decide, rfl⟩
  case round =>
    obtain ⟨k, s, hk, rfl, rfl, HS, hs, rfl⟩ := hrel
    have hd := div2 k (by omega)
    obtain ⟨q, hq⟩ : ∃ q, q = (((k : Nat) : Int) - 2).tdiv 2 := ⟨_, rfl⟩
    rw [← hq] at hd
    have hq' : (((k : Nat) : Int) - 2).tdiv 2 = q := hq.symm
    clear hq
    by_cases hkc : k = c
    · subst hkc
      have hn16 := disN_small k (by omega)
      rcases hd with ⟨h1, h0, h2⟩ | ⟨h1, h2⟩
      · have hqw : wrap64 q = q := by unfold wrap64; omega
        clear hn16
        have H2 : Hid (disN k = 0) := h2
        clear h2
        go_wp2
        go_ret3
        exact ⟨ret_of3 (by rw [HS.out]) (by rw [H2.out]; rfl), rfl⟩
      · have hqw : wrap64 q = q := by unfold wrap64; omega
        have H2 : Hid (q = (disN k : Nat)) := h2
        clear h2 hn16
        go_wp2
        go_ret3
        exact ⟨ret_of3 (by rw [HS.out]) H2.out, rfl⟩
    · have hne : ((k : Int) == (c : Int)) = false := by simp; omega
      have hlt : k + 1 ≤ c := by omega
      have hn16 := disN_small k (by omega)
      have hst := dis_step k (by omega)
      have hsm := disB_small (k + 1) (by omega)
      obtain ⟨z, hz⟩ : ∃ z, z = 2 ^ disN k := ⟨_, rfl⟩
      have HW : Hid (wrap64 (2 ^ disN k) = ((2 ^ disN k : Nat) : Int)) := pow_small (disN k) hn16
      rw [← hz] at hst HW
      have HST : Hid (disB (k + 1) = disB k + z) := hst
      have hz2 : (z : Int) ≤ 40000 := by have := HS.out; omega
      have hz3 : (s : Int) + z ≤ 40000 := by have := HS.out; omega
      rcases hd with ⟨h1, h0, h2⟩ | ⟨h1, h2⟩
      · have hqw : wrap64 q = q := by unfold wrap64; omega
        rw [h2] at hz
        have hz1 : z = 1 := by simpa using hz
        subst hz1
        clear h2 hz hkc hst hsm HW hn16
        go_wp2
        go_roundw
        case rel => exact ⟨k + 1, s + 1, by omega, by go_num, by go_num, by show _ = _; rw [HST.out, HS.out], by omega, by first | rfl | trivial⟩
        case measure => simp [intOf]; omega
      · obtain ⟨b, hbe⟩ : ∃ b, b = disN k := ⟨_, rfl⟩
        rw [← hbe] at h2 HW hn16
        subst h2
        have hqw : wrap64 (b : Int) = b := by unfold wrap64; omega
        clear hz hkc hst hsm hbe
        have hw := HW.out
        clear HW
        go_wp2
        go_roundw
        case rel =>
          clear hw
          exact ⟨k + 1, s + z, by omega, by go_num, by go_num, by show _ = _; rw [HST.out, HS.out], by omega, by first | rfl | trivial⟩
        case measure =>
          clear hw
          simp [intOf]; omega

theorem lenOfR_last (w : World) : Calls Tryd.prog 35 #[.int .i64 285] w fun e w' => e = .returned (.tuple #[.int .i64 258, .int .i64 0, .bool true]) ∧ w' = w := by
  go_enter Tryd.func35, Tryd.ntmps35
  go_wp2
  go_ret3
  exact ⟨rfl, rfl⟩

theorem lenOfR_none (C : Int) (hC : C < 257 ∨ 285 < C) (w : World) : Calls Tryd.prog 35 #[.int .i64 C] w fun e w' => e = .returned (.tuple #[.int .i64 0, .int .i64 0, .bool false]) ∧ w' = w := by
  rcases hC with h | h
  all_goals
    go_enter Tryd.func35, Tryd.ntmps35
    go_wp2
    go_ret3
    exact ⟨rfl, rfl⟩

theorem disOfR_none (C : Int) (hC : C < 0 ∨ 29 < C) (w : World) : Calls Tryd.prog 36 #[.int .i64 C] w fun e w' => e = .returned (.tuple #[.int .i64 0, .int .i64 0, .bool false]) ∧ w' = w := by
  rcases hC with h | h
  all_goals
    go_enter Tryd.func36, Tryd.ntmps36
    go_wp2
    go_ret3
    exact ⟨rfl, rfl⟩

/-- Of each code the program and the document say the same. -/
theorem lenOf_both (C : Int) : ∃ (b n : Nat) (r : Bool), Of3 71 C b n r ∧ Of3 35 C b n r := by
  by_cases h : C < 257 ∨ 285 < C
  · exact ⟨0, 0, false, fun w => lenOf_none C h w, fun w => lenOfR_none C h w⟩
  · obtain ⟨c, hc⟩ := Int.eq_ofNat_of_zero_le (show 0 ≤ C - 257 by omega)
    have e : C = 257 + (c : Int) := by omega
    subst e
    refine ⟨lenB c, lenN c, true, fun w => lenOf_walk c _ rfl (by omega) w, ?_⟩
    by_cases h8 : c = 28
    · subst h8; exact fun w => lenOfR_last w
    · exact fun w => lenOfR_walk c (by omega) w

theorem disOf_both (C : Int) : ∃ (b n : Nat) (r : Bool), Of3 72 C b n r ∧ Of3 36 C b n r := by
  by_cases h : C < 0 ∨ 29 < C
  · exact ⟨0, 0, false, fun w => disOf_none C h w, fun w => disOfR_none C h w⟩
  · obtain ⟨c, hc⟩ := Int.eq_ofNat_of_zero_le (show 0 ≤ C by omega)
    subst hc
    exact ⟨disB c, disN c, true, fun w => disOf_walk c (by omega) w, fun w => disOfR_walk c (by omega) w⟩
end Go.Proofs.YtdokpimhhkbdbaaDoor.Lz

set_option linter.unusedSimpArgs false
set_option linter.unusedVariables false
namespace Go.Proofs.YtdokpimhhkbdbaaDoor.Lz
open Go.RowKit

theorem lenOfR_any (c : Nat) (hc : c ≤ 28) : Of3 35 ((257 : Int) + c) (lenB c : Nat) (lenN c : Nat) true := by
  by_cases h8 : c = 28
  · subst h8; exact fun w => lenOfR_last w
  · exact fun w => lenOfR_walk c (by omega) w
theorem disOfR_any (c : Nat) (hc : c ≤ 29) : Of3 36 (c : Int) (disB c : Nat) (disN c : Nat) true := fun w => disOfR_walk c (by omega) w

set_option maxHeartbeats 1000000 in
theorem lenCodeR (n : Nat) (hn : 3 ≤ n) (hn2 : (n : Int) ≤ 258) (w : World) :
    Calls Tryd.prog 16 #[.int .i64 n] w fun e w' => e = .returned (.tuple #[.int .i64 (257 + topOf lenB n 28 : Nat), .int .i64 (n - lenB (topOf lenB n 28) : Nat), .int .i64 (lenN (topOf lenB n 28) : Nat)]) ∧ w' = w := by
  have hn0 : lenB 0 ≤ n := by rw [lenB_zero]; exact hn
  have hnl : (3 : Int) ≤ n := by omega
  have hnw : (n : Int) ≤ 40000 := by omega
  have HN0 : Hid (lenB 0 ≤ n) := hn0
  clear hn0
  obtain ⟨T, hT⟩ : ∃ T, T = topOf lenB n 28 := ⟨_, rfl⟩
  rw [← hT]
  have HT : Hid (T = topOf lenB n 28) := hT
  clear hT
  go_enter Tryd.func16, Tryd.ntmps16
  go_wp2
  go_loopw [5] (fun i wr => ∃ k : Nat, k ≤ 28 ∧ i = .int .i64 ((257 : Int) + k) ∧ Hid (T = topOf lenB n k) ∧ wr = w) (fun i _ => (intOf i).toNat)
  case atStart => exact ⟨28, by omega, rfl, HT, rfl⟩
  case round =>
    obtain ⟨k, hk, rfl, HK, rfl⟩ := hrel
    have hc := lenOfR_any k hk
    have hs := lenB_small k hk
    by_cases h : lenB k ≤ n
    · have e : T = k := by rw [HK.out]; exact topOf_stop _ _ _ HN0.out h
      have HE : Hid (T = k) := e
      clear e
      go_wp2_with (go_at_call 35; (with_reducible refine (hc.out _).mono ?_); rintro e w' ⟨rfl, hx⟩; have hx := hx.symm; subst hx)
      go_ret3
      exact ⟨ret_ints3 (by have := HE.out; omega) (by rw [HE.out]; omega) (by rw [HE.out]), rfl⟩
    · have hk0 : 0 < k := by
        rcases Nat.eq_zero_or_pos k with rfl | h'
        · exact absurd HN0.out h
        · exact h'
      have HR : Hid (T = topOf lenB n (k - 1)) := by
        show _ = _
        rw [HK.out]
        obtain ⟨j, rfl⟩ : ∃ j, k = j + 1 := ⟨k - 1, by omega⟩
        exact topOf_down _ _ _ h
      go_wp2_with (go_at_call 35; (with_reducible refine (hc.out _).mono ?_); rintro e w' ⟨rfl, hx⟩; have hx := hx.symm; subst hx)
      go_roundw
      case rel => exact ⟨k - 1, by omega, by congr 1; omega, HR, by first | rfl | trivial⟩
      case measure => simp [intOf]; omega

theorem lenCodeR_none (n : Int) (h : n < 3 ∨ 258 < n) (w : World) :
    Calls Tryd.prog 16 #[.int .i64 n] w fun e w' => e = .returned (.tuple #[.int .i64 0, .int .i64 0, .int .i64 0]) ∧ w' = w := by
  rcases h with h | h
  all_goals
    go_enter Tryd.func16, Tryd.ntmps16
    go_wp2
    go_ret3
    exact ⟨rfl, rfl⟩

theorem lenCode_both (n : Int) : ∃ c e b : Nat, Code3 56 n c e b ∧ Code3 16 n c e b := by
  by_cases h : n < 3 ∨ 258 < n
  · exact ⟨0, 0, 0, fun w => lenCode_none n h w, fun w => lenCodeR_none n h w⟩
  · obtain ⟨m, rfl⟩ := Int.eq_ofNat_of_zero_le (show 0 ≤ n by omega)
    exact ⟨_, _, _, fun w => lenCode_walk m (by omega) (by omega) w, fun w => lenCodeR m (by omega) (by omega) w⟩

set_option maxHeartbeats 1000000 in
theorem disCodeR (n : Nat) (hn : 1 ≤ n) (hn2 : (n : Int) ≤ 32768) (w : World) :
    Calls Tryd.prog 18 #[.int .i64 n] w fun e w' => e = .returned (.tuple #[.int .i64 (topOf disB n 29 : Nat), .int .i64 (n - disB (topOf disB n 29) : Nat), .int .i64 (disN (topOf disB n 29) : Nat)]) ∧ w' = w := by
  have hn0 : disB 0 ≤ n := by rw [disB_zero]; exact hn
  have hnl : (1 : Int) ≤ n := by omega
  have hnw : (n : Int) ≤ 40000 := by omega
  have HN0 : Hid (disB 0 ≤ n) := hn0
  clear hn0
  obtain ⟨T, hT⟩ : ∃ T, T = topOf disB n 29 := ⟨_, rfl⟩
  rw [← hT]
  have HT : Hid (T = topOf disB n 29) := hT
  clear hT
  go_enter Tryd.func18, Tryd.ntmps18
  go_wp2
  go_loopw [5] (fun i wr => ∃ k : Nat, k ≤ 29 ∧ i = .int .i64 (k : Int) ∧ Hid (T = topOf disB n k) ∧ wr = w) (fun i _ => (intOf i).toNat)
  case atStart => exact ⟨29, by omega, rfl, HT, rfl⟩
  case round =>
    obtain ⟨k, hk, rfl, HK, rfl⟩ := hrel
    have hc := disOfR_any k hk
    have hs := disB_small k hk
    by_cases h : disB k ≤ n
    · have e : T = k := by rw [HK.out]; exact topOf_stop _ _ _ HN0.out h
      have HE : Hid (T = k) := e
      clear e
      go_wp2_with (go_at_call 36; (with_reducible refine (hc.out _).mono ?_); rintro e w' ⟨rfl, hx⟩; have hx := hx.symm; subst hx)
      go_ret3
      exact ⟨ret_ints3 (by have := HE.out; omega) (by rw [HE.out]; omega) (by rw [HE.out]), rfl⟩
    · have hk0 : 0 < k := by
        rcases Nat.eq_zero_or_pos k with rfl | h'
        · exact absurd HN0.out h
        · exact h'
      have HR : Hid (T = topOf disB n (k - 1)) := by
        show _ = _
        rw [HK.out]
        obtain ⟨j, rfl⟩ : ∃ j, k = j + 1 := ⟨k - 1, by omega⟩
        exact topOf_down _ _ _ h
      go_wp2_with (go_at_call 36; (with_reducible refine (hc.out _).mono ?_); rintro e w' ⟨rfl, hx⟩; have hx := hx.symm; subst hx)
      go_roundw
      case rel => exact ⟨k - 1, by omega, by congr 1; omega, HR, by first | rfl | trivial⟩
      case measure => simp [intOf]; omega

theorem disCodeR_none (n : Int) (h : n < 1 ∨ 32768 < n) (w : World) :
    Calls Tryd.prog 18 #[.int .i64 n] w fun e w' => e = .returned (.tuple #[.int .i64 0, .int .i64 0, .int .i64 0]) ∧ w' = w := by
  rcases h with h | h
  all_goals
    go_enter Tryd.func18, Tryd.ntmps18
    go_wp2
    go_ret3
    exact ⟨rfl, rfl⟩

theorem disCode_both (n : Int) : ∃ c e b : Nat, Code3 57 n c e b ∧ Code3 18 n c e b := by
  by_cases h : n < 1 ∨ 32768 < n
  · exact ⟨0, 0, 0, fun w => disCode_none n h w, fun w => disCodeR_none n h w⟩
  · obtain ⟨m, rfl⟩ := Int.eq_ofNat_of_zero_le (show 0 ≤ n by omega)
    exact ⟨_, _, _, fun w => disCode_walk m (by omega) (by omega) w, fun w => disCodeR m (by omega) (by omega) w⟩
end Go.Proofs.YtdokpimhhkbdbaaDoor.Lz
