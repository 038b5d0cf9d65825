/-
  codeOf, LengthCode, DistanceCode.
-/
import Derived.Test.YtdokpimhhkbdbaaDoorZKa
set_option linter.unusedSimpArgs false
set_option linter.unusedVariables false
namespace Go.Proofs.YtdokpimhhkbdbaaDoor.Lz
open Go.RowKit

theorem topOf_stop (f : Nat → Nat) (n k : Nat) (h0 : f 0 ≤ n) (h : f k ≤ n) : topOf f n k = k := by
  cases k with
  | zero => rfl
  | succ k => simp [topOf, h]

theorem topOf_down (f : Nat → Nat) (n k : Nat) (h : ¬ f (k + 1) ≤ n) : topOf f n (k + 1) = topOf f n k := by simp [topOf, h]

theorem ret_ints3 {a b c a' b' c' : Int} (h1 : a = a') (h2 : b = b') (h3 : c = c') : Ending.returned (.tuple #[.int .i64 a, .int .i64 b, .int .i64 c]) = .returned (.tuple #[.int .i64 a', .int .i64 b', .int .i64 c']) := by rw [h1, h2, h3]

theorem lenB_small : ∀ c, c ≤ 28 → lenB c ≤ 258 ∧ 3 ≤ lenB c := by decide
theorem disB_small : ∀ c, c ≤ 29 → disB c ≤ 32768 ∧ 1 ≤ disB c := by decide
theorem lenB_zero : lenB 0 = 3 := by decide
theorem disB_zero : disB 0 = 1 := by decide


set_option maxHeartbeats 1000000 in
theorem codeOf_len (n : Nat) (hn : lenB 0 ≤ n) (hn2 : n ≤ 40000) (w : World) :
    Calls Tryd.prog 70 #[.int .i64 n, .int .i64 285, .func (.func 71) #[] #[]] w fun e w' => e = .returned (.tuple #[.int .i64 (257 + topOf lenB n 28 : Nat), .int .i64 (n - lenB (topOf lenB n 28) : Nat), .int .i64 (lenN (topOf lenB n 28) : Nat)]) ∧ w' = w := by
  have hof : Hid (∀ (k : Nat) (C : Int) (wx : World), C = ((257 : Int) + k) → k ≤ 28 → Calls Tryd.prog 71 #[.int .i64 C] wx fun e w' => e = .returned (.tuple #[.int .i64 (lenB k : Nat), .int .i64 (lenN k : Nat), .bool true]) ∧ w' = wx) := fun k C wx hC hk => lenOf_walk k C hC hk wx
  obtain ⟨T, hT⟩ : ∃ T, T = topOf lenB n 28 := ⟨_, rfl⟩
  rw [← hT]
  have HT : Hid (T = topOf lenB n 28) := hT
  clear hT
  go_enter Tryd.func70, Tryd.ntmps70
  go_wp2
  go_loopw [6] (fun i wr => ∃ k : Nat, k ≤ 28 ∧ i = .int .i64 ((257 : Int) + k) ∧ Hid (T = topOf lenB n k) ∧ wr = w) (fun i _ => (intOf i).toNat)
  case atStart => exact ⟨28, by omega, rfl, HT, rfl⟩
  case round =>
    obtain ⟨k, hk, rfl, HK, rfl⟩ := hrel
    have hc : Hid (∀ wx, Calls Tryd.prog 71 #[.int .i64 ((257 : Int) + k)] wx fun e w' => e = .returned (.tuple #[.int .i64 (lenB k : Nat), .int .i64 (lenN k : Nat), .bool true]) ∧ w' = wx) := fun wx => hof.out k _ wx rfl hk
    have hs := lenB_small k hk
    by_cases h : lenB k ≤ n
    · have e : T = k := by rw [HK.out]; exact topOf_stop _ _ _ hn h
      have HE : Hid (T = k) := e
      clear e
      go_wp2_with (go_at_call 71; (with_reducible refine (hc.out _).mono ?_); rintro e w' ⟨rfl, hx⟩; have hx := hx.symm; subst hx)
      go_ret3
      exact ⟨ret_ints3 (by have := HE.out; omega) (by rw [HE.out]; omega) (by rw [HE.out]), rfl⟩
    · have hk0 : 0 < k := by
        rcases Nat.eq_zero_or_pos k with rfl | h'
        · exact absurd hn h
        · exact h'
      have HR : Hid (T = topOf lenB n (k - 1)) := by
        show _ = _
        rw [HK.out]
        obtain ⟨j, rfl⟩ : ∃ j, k = j + 1 := ⟨k - 1, by omega⟩
        exact topOf_down _ _ _ h
      go_wp2_with (go_at_call 71; (with_reducible refine (hc.out _).mono ?_); rintro e w' ⟨rfl, hx⟩; have hx := hx.symm; subst hx)
      go_roundw
      case rel => exact ⟨k - 1, by omega, by congr 1; omega, HR, by first | rfl | trivial⟩
      case measure => simp [intOf]; omega

set_option maxHeartbeats 1000000 in
theorem codeOf_dis (n : Nat) (hn : disB 0 ≤ n) (hn2 : n ≤ 40000) (w : World) :
    Calls Tryd.prog 70 #[.int .i64 n, .int .i64 29, .func (.func 72) #[] #[]] w fun e w' => e = .returned (.tuple #[.int .i64 (topOf disB n 29 : Nat), .int .i64 (n - disB (topOf disB n 29) : Nat), .int .i64 (disN (topOf disB n 29) : Nat)]) ∧ w' = w := by
  have hof : Hid (∀ (k : Nat) (C : Int) (wx : World), C = (k : Int) → k ≤ 29 → Calls Tryd.prog 72 #[.int .i64 C] wx fun e w' => e = .returned (.tuple #[.int .i64 (disB k : Nat), .int .i64 (disN k : Nat), .bool true]) ∧ w' = wx) := fun k C wx hC hk => by
    subst hC
    exact disOf_walk k hk wx
  obtain ⟨T, hT⟩ : ∃ T, T = topOf disB n 29 := ⟨_, rfl⟩
  rw [← hT]
  have HT : Hid (T = topOf disB n 29) := hT
  clear hT
  go_enter Tryd.func70, Tryd.ntmps70
  go_wp2
  go_loopw [6] (fun i wr => ∃ k : Nat, k ≤ 29 ∧ i = .int .i64 (k : Int) ∧ Hid (T = topOf disB n k) ∧ wr = w) (fun i _ => (intOf i).toNat)
  case atStart => exact ⟨29, by omega, rfl, HT, rfl⟩
  case round =>
    obtain ⟨k, hk, rfl, HK, rfl⟩ := hrel
    have hc : Hid (∀ wx, Calls Tryd.prog 72 #[.int .i64 (k : Int)] wx fun e w' => e = .returned (.tuple #[.int .i64 (disB k : Nat), .int .i64 (disN k : Nat), .bool true]) ∧ w' = wx) := fun wx => hof.out k _ wx rfl hk
    have hs := disB_small k hk
    by_cases h : disB k ≤ n
    · have e : T = k := by rw [HK.out]; exact topOf_stop _ _ _ hn h
      have HE : Hid (T = k) := e
      clear e
      go_wp2_with (go_at_call 72; (with_reducible refine (hc.out _).mono ?_); rintro e w' ⟨rfl, hx⟩; have hx := hx.symm; subst hx)
      go_ret3
      exact ⟨ret_ints3 (by have := HE.out; omega) (by rw [HE.out]; omega) (by rw [HE.out]), rfl⟩
    · have hk0 : 0 < k := by
        rcases Nat.eq_zero_or_pos k with rfl | h'
        · exact absurd hn h
        · exact h'
      have HR : Hid (T = topOf disB n (k - 1)) := by
        show _ = _
        rw [HK.out]
        obtain ⟨j, rfl⟩ : ∃ j, k = j + 1 := ⟨k - 1, by omega⟩
        exact topOf_down _ _ _ h
      go_wp2_with (go_at_call 72; (with_reducible refine (hc.out _).mono ?_); rintro e w' ⟨rfl, hx⟩; have hx := hx.symm; subst hx)
      go_roundw
      case rel => exact ⟨k - 1, by omega, by congr 1; omega, HR, by first | rfl | trivial⟩
      case measure => simp [intOf]; omega

theorem lenCode_walk (n : Nat) (h3 : 3 ≤ n) (h : n ≤ 258) (w : World) :
    Calls Tryd.prog 56 #[.int .i64 n] w fun e w' => e = .returned (.tuple #[.int .i64 (257 + topOf lenB n 28 : Nat), .int .i64 (n - lenB (topOf lenB n 28) : Nat), .int .i64 (lenN (topOf lenB n 28) : Nat)]) ∧ w' = w := by
  have hc : Hid (∀ wx, Calls Tryd.prog 70 #[.int .i64 n, .int .i64 285, .func (.func 71) #[] #[]] wx fun e w' => e = .returned (.tuple #[.int .i64 (257 + topOf lenB n 28 : Nat), .int .i64 (n - lenB (topOf lenB n 28) : Nat), .int .i64 (lenN (topOf lenB n 28) : Nat)]) ∧ w' = wx) := fun wx => codeOf_len n (by rw [lenB_zero]; exact h3) (by omega) wx
  generalize 257 + topOf lenB n 28 = a at hc ⊢
  generalize n - lenB (topOf lenB n 28) = b at hc ⊢
  generalize lenN (topOf lenB n 28) = c at hc ⊢
  go_enter Tryd.func56, Tryd.ntmps56
  go_wp2_with (go_at_call 70; (with_reducible refine (hc.out _).mono ?_); rintro e w' ⟨rfl, hx⟩; have hx := hx.symm; subst hx)
  go_ret3
  exact ⟨rfl, rfl⟩

theorem lenCode_none (n : Int) (h : n < 3 ∨ 258 < n) (w : World) :
    Calls Tryd.prog 56 #[.int .i64 n] w fun e w' => e = .returned (.tuple #[.int .i64 0, .int .i64 0, .int .i64 0]) ∧ w' = w := by
  rcases h with h | h
  all_goals
    go_enter Tryd.func56, Tryd.ntmps56
    go_wp2
    go_ret3
    exact ⟨rfl, rfl⟩

theorem disCode_walk (n : Nat) (h3 : 1 ≤ n) (h : n ≤ 32768) (w : World) :
    Calls Tryd.prog 57 #[.int .i64 n] w fun e w' => e = .returned (.tuple #[.int .i64 (topOf disB n 29 : Nat), .int .i64 (n - disB (topOf disB n 29) : Nat), .int .i64 (disN (topOf disB n 29) : Nat)]) ∧ w' = w := by
  have hc : Hid (∀ wx, Calls Tryd.prog 70 #[.int .i64 n, .int .i64 29, .func (.func 72) #[] #[]] wx fun e w' => e = .returned (.tuple #[.int .i64 (topOf disB n 29 : Nat), .int .i64 (n - disB (topOf disB n 29) : Nat), .int .i64 (disN (topOf disB n 29) : Nat)]) ∧ w' = wx) := fun wx => codeOf_dis n (by rw [disB_zero]; exact h3) (by omega) wx
  generalize topOf disB n 29 = a at hc ⊢
  generalize n - disB (topOf disB n 29) = b at hc ⊢
  generalize disN (topOf disB n 29) = c at hc ⊢
  go_enter Tryd.func57, Tryd.ntmps57
  go_wp2_with (go_at_call 70; (with_reducible refine (hc.out _).mono ?_); rintro e w' ⟨rfl, hx⟩; have hx := hx.symm; subst hx)
  go_ret3
  exact ⟨rfl, rfl⟩

theorem disCode_none (n : Int) (h : n < 1 ∨ 32768 < n) (w : World) :
    Calls Tryd.prog 57 #[.int .i64 n] w fun e w' => e = .returned (.tuple #[.int .i64 0, .int .i64 0, .int .i64 0]) ∧ w' = w := by
  rcases h with h | h
  all_goals
    go_enter Tryd.func57, Tryd.ntmps57
    go_wp2
    go_ret3
    exact ⟨rfl, rfl⟩
end Go.Proofs.YtdokpimhhkbdbaaDoor.Lz
