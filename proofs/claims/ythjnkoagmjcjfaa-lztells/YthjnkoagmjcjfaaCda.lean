/-
  LzCodes: its walk.
-/
import Derived.Test.YthjnkoagmjcjfaaKb
import Derived.Test.YthjnkoagmjcjfaaSf
set_option linter.unusedSimpArgs false
set_option linter.unusedVariables false
namespace Go.Proofs.Ythjnkoagmjcjfaa
open Go.RowKit

theorem within_lit (v n : Int) (m : Nat) (hm : 0 < m) (hn : n = m) (hm2 : m < 4294967296) :
    ∃ r : Nat, r < m ∧ Hid (∀ w, Calls Try.prog 8 #[.int .i64 v, .int .i64 n] w fun e w' => e = .returned (.int .i64 (r : Int)) ∧ w' = w) := by
  subst hn
  have h1 := Int.emod_nonneg v (show (m : Int) ≠ 0 by omega)
  have h2 := Int.emod_lt_of_pos v (show (0 : Int) < m by omega)
  refine ⟨(v % (m : Int)).toNat, by omega, fun w => ?_⟩
  have := within_walk v m (by omega) (by omega) w
  rwa [Int.toNat_of_nonneg h1]

abbrev Code3 (F : Nat) (n : Int) (c e b : Int) : Prop := Hid (∀ w, Calls Try.prog F #[.int .i64 n] w fun en w' => en = .returned (.tuple #[.int .i64 c, .int .i64 e, .int .i64 b]) ∧ w' = w)
abbrev Of3 (F : Nat) (c : Int) (e b : Int) (ok : Bool) : Prop := Hid (∀ w, Calls Try.prog F #[.int .i64 c] w fun en w' => en = .returned (.tuple #[.int .i64 e, .int .i64 b, .bool ok]) ∧ w' = w)

theorem pow_small (b : Nat) (h : b < 16) : wrap64 (2 ^ b) = ((2 ^ b : Nat) : Int) := by
  have : (2 : Nat) ^ b ≤ 32768 := Nat.le_trans (Nat.pow_le_pow_right (by decide) (by omega : b ≤ 15)) (by decide)
  have e : ((2 : Int) ^ b) = ((2 ^ b : Nat) : Int) := by push_cast; rfl
  rw [e]
  generalize (2 : Nat) ^ b = z at *
  unfold wrap64
  omega

theorem lenN_small : ∀ c, c ≤ 28 → lenN c < 16 := by decide
theorem disN_small : ∀ c, c ≤ 29 → disN c < 16 := by decide

/-- All that is asked of a length's code. -/
theorem len_all (n : Nat) (h3 : 3 ≤ n) (h : n ≤ 258) : ∃ c e b bs s : Nat, Code3 20 n c e b ∧ Of3 24 c bs b true ∧ bs + e = n ∧ wrap64 (2 ^ b) = (s : Int) ∧ e < s ∧ 257 ≤ c ∧ c ≤ 285 ∧ b < 16 ∧ Hid (c = 257 + topOf lenB n 28) := by
  obtain ⟨h1, h2, h4⟩ := len_code n h3 h
  have hb := lenN_small _ h1
  refine ⟨257 + topOf lenB n 28, n - lenB (topOf lenB n 28), lenN (topOf lenB n 28), lenB (topOf lenB n 28), 2 ^ lenN (topOf lenB n 28), fun w => lenCode_walk n h3 h w, fun w => lenOf_walk (topOf lenB n 28) _ (by omega) h1 w, by omega, pow_small _ hb, h4, by omega, by omega, hb, rfl⟩

theorem dis_all (n : Nat) (h3 : 1 ≤ n) (h : n ≤ 32768) : ∃ c e b bs s : Nat, Code3 22 n c e b ∧ Of3 26 c bs b true ∧ bs + e = n ∧ wrap64 (2 ^ b) = (s : Int) ∧ e < s ∧ c ≤ 29 ∧ b < 16 ∧ Hid (c = topOf disB n 29) := by
  obtain ⟨h1, h2, h4⟩ := dis_code n h3 h
  have hb := disN_small _ h1
  refine ⟨topOf disB n 29, n - disB (topOf disB n 29), disN (topOf disB n 29), disB (topOf disB n 29), 2 ^ disN (topOf disB n 29), fun w => disCode_walk n h3 h w, fun w => disOf_walk (topOf disB n 29) h1 w, by omega, pow_small _ hb, h4, h1, hb, rfl⟩

theorem len_less (n : Nat) (h3 : 3 ≤ n) (h : n ≤ 258) (c : Nat) (hc : Hid (c = 257 + topOf lenB n 28)) : ∃ f e b : Nat, Code3 20 ((n : Int) - 1) f e b ∧ f ≤ c := by
  by_cases h0 : n = 3
  · subst h0
    exact ⟨0, 0, 0, fun w => lenCode_none _ (by omega) w, by omega⟩
  · have e : (n : Int) - 1 = ((n - 1 : Nat) : Int) := by omega
    rw [e]
    refine ⟨_, _, _, fun w => lenCode_walk (n - 1) (by omega) (by omega) w, ?_⟩
    have := topOf_mono lenB (n - 1) n 28 (by omega)
    rw [hc.out]; omega

theorem dis_less (n : Nat) (h3 : 1 ≤ n) (h : n ≤ 32768) (c : Nat) (hc : Hid (c = topOf disB n 29)) : ∃ f e b : Nat, Code3 22 ((n : Int) - 1) f e b ∧ f ≤ c := by
  by_cases h0 : n = 1
  · subst h0
    exact ⟨0, 0, 0, fun w => disCode_none _ (by omega) w, by omega⟩
  · have e : (n : Int) - 1 = ((n - 1 : Nat) : Int) := by omega
    rw [e]
    refine ⟨_, _, _, fun w => disCode_walk (n - 1) (by omega) (by omega) w, ?_⟩
    have := topOf_mono disB (n - 1) n 29 (by omega)
    rw [hc.out]; omega

set_option maxRecDepth 100000 in
set_option maxHeartbeats 8000000 in
theorem codes_walk (n d : Int) (w : World) : Calls Try.prog 7 #[.int .i64 n, .int .i64 d] w fun e w' => e = .returned (.bool true) ∧ Below w.heap.size w w' := by
  obtain ⟨r, hr, hw1⟩ := within_lit n 256 256 (by decide) rfl (by decide)
  obtain ⟨q, hq, hw2⟩ := within_lit d 32768 32768 (by decide) rfl (by decide)
  obtain ⟨N, hN⟩ : ∃ N : Nat, N = 3 + r := ⟨_, rfl⟩
  obtain ⟨D, hD⟩ : ∃ D : Nat, D = 1 + q := ⟨_, rfl⟩
  have hN' : (3 : Int) + r = (N : Int) := by omega
  have hD' : (1 : Int) + q = (D : Int) := by omega
  have hr' : (r : Int) < 256 := by omega
  have hNl : (N : Int) < 300 := by omega
  have hNg : (3 : Int) ≤ N := by omega
  have hDw0 : wrap64 (D : Int) = (D : Int) := by unfold wrap64; omega
  have hDw : wrap64 ((D : Int) - 1) = (D : Int) - 1 := by unfold wrap64; omega
  have hDg : (1 : Int) ≤ D := by omega
  obtain ⟨c, e, b, bs, s, k1, k2, k3, k4, k5, k6, k7, k8, k9⟩ := len_all N (by omega) (by omega)
  obtain ⟨x, y, m, fr, t, l1, l2, l3, l4, l5, l7, l8, l9⟩ := dis_all D (by omega) (by omega)
  obtain ⟨f, fe, fb, m1, m2⟩ := len_less N (by omega) (by omega) c k9
  obtain ⟨g, ge, gb, n1, n2⟩ := dis_less D (by omega) (by omega) x l9
  have a1 : ∃ ae ab : Nat, Code3 20 258 285 ae ab := ⟨_, _, fun w => lenCode_walk 258 (by decide) (by decide) w⟩
  have a2 : ∃ ae ab : Nat, Code3 20 257 284 ae ab := ⟨_, _, fun w => lenCode_walk 257 (by decide) (by decide) w⟩
  have a3 : ∃ ae ab : Nat, Code3 22 32768 29 ae ab := ⟨_, _, fun w => disCode_walk 32768 (by decide) (by decide) w⟩
  have a4 : Of3 24 256 0 0 false := fun w => lenOf_none 256 (by omega) w
  have a5 : Of3 26 30 0 0 false := fun w => disOf_none 30 (by omega) w
  obtain ⟨_, _, a1⟩ := a1
  obtain ⟨_, _, a2⟩ := a2
  obtain ⟨_, _, a3⟩ := a3
  have hwk := wakes_hid
  have hx1 : (bs : Int) + e = N := by omega
  have hx2 : ((e : Int) < s) := by omega
  have hx3 : (fr : Int) + y = D := by omega
  have hx4 : ((y : Int) < t) := by omega
  have hx5 : (257 : Int) ≤ c ∧ (c : Int) ≤ 285 := by omega
  have hx6 : (x : Int) ≤ 29 := by omega
  have hx7 : (f : Int) ≤ c := by omega
  have hx8 : (g : Int) ≤ x := by omega
  clear k3 k5 k6 k7 k9 l3 l5 l7 l9 m2 n2 hN hD hr hq
  go_enter Try.func7, Try.ntmps7
  go_wp2_with (first
    | (go_at_call 8; (with_reducible refine (hw1.out _).mono ?_); rintro e w' ⟨rfl, hx⟩; have hx := hx.symm; subst hx)
    | (go_at_call 8; (with_reducible refine (hw2.out _).mono ?_); rintro e w' ⟨rfl, hx⟩; have hx := hx.symm; subst hx)
    | (go_at_call 20; first
        | (with_reducible refine (k1.out _).mono ?_)
        | (with_reducible refine (m1.out _).mono ?_)
        | (with_reducible refine (a1.out _).mono ?_)
        | (with_reducible refine (a2.out _).mono ?_)
       rintro e w' ⟨rfl, hx⟩; have hx := hx.symm; subst hx)
    | (go_at_call 22; first
        | (with_reducible refine (l1.out _).mono ?_)
        | (with_reducible refine (n1.out _).mono ?_)
        | (with_reducible refine (a3.out _).mono ?_)
       rintro e w' ⟨rfl, hx⟩; have hx := hx.symm; subst hx)
    | (go_at_call 24; first
        | (with_reducible refine (k2.out _).mono ?_)
        | (with_reducible refine (a4.out _).mono ?_)
       rintro e w' ⟨rfl, hx⟩; have hx := hx.symm; subst hx)
    | (go_at_call 26; first
        | (with_reducible refine (l2.out _).mono ?_)
        | (with_reducible refine (a5.out _).mono ?_)
       rintro e w' ⟨rfl, hx⟩; have hx := hx.symm; subst hx)
    | (go_at_call 13; (with_reducible refine (hwk.out _).mono ?_); rintro e w2 ⟨rfl, hb2⟩))
  all_goals go_ret
  all_goals exact ⟨rfl, hb2⟩
end Go.Proofs.Ythjnkoagmjcjfaa
