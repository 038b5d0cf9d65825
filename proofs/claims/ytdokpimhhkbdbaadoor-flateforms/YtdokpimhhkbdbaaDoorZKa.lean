/-
  The codes of lengths and distances: their plain numbers; ladder, LengthOf, DistanceOf.
-/
import Derived.Test.YtdokpimhhkbdbaaDoorZGa
set_option linter.unusedSimpArgs false
set_option linter.unusedVariables false
namespace Go.Proofs.YtdokpimhhkbdbaaDoor.Lz
open Go.RowKit

/-- How many digits are behind the c-th code, if m codes in a row have as many. -/
def ladN (m c : Nat) : Nat := c / m - 1
/-- How far above the least one the c-th code begins. -/
def ladB (m c : Nat) : Nat := if c < m then c else (m + c % m) * 2 ^ (c / m - 1)

def lenB (c : Nat) : Nat := if c = 28 then 258 else 3 + ladB 4 c
def lenN (c : Nat) : Nat := if c = 28 then 0 else ladN 4 c
def disB (c : Nat) : Nat := 1 + ladB 2 c
def disN (c : Nat) : Nat := ladN 2 c

/-- The last one of 0 .. k that f does not put above n. -/
def topOf (f : Nat → Nat) (n : Nat) : Nat → Nat
  | 0 => 0
  | k + 1 => if f (k + 1) ≤ n then k + 1 else topOf f n k

theorem topOf_le (f : Nat → Nat) (n k : Nat) : topOf f n k ≤ k := by
  induction k with
  | zero => simp [topOf]
  | succ k ih => unfold topOf; split <;> omega

theorem topOf_base (f : Nat → Nat) (n k : Nat) (h : f 0 ≤ n) : f (topOf f n k) ≤ n := by
  induction k with
  | zero => simpa [topOf] using h
  | succ k ih => unfold topOf; split
                 · assumption
                 · exact ih

theorem topOf_above (f : Nat → Nat) (n k j : Nat) (h1 : topOf f n k < j) (h2 : j ≤ k) : n < f j := by
  induction k with
  | zero => omega
  | succ k ih =>
    unfold topOf at h1
    split at h1
    · omega
    · rcases (show j ≤ k ∨ j = k + 1 by omega) with h | rfl
      · exact ih h1 h
      · omega

theorem topOf_mono (f : Nat → Nat) (n m k : Nat) (h : n ≤ m) : topOf f n k ≤ topOf f m k := by
  induction k with
  | zero => simp [topOf]
  | succ k ih =>
    unfold topOf
    have := topOf_le f n k
    split <;> split <;> omega

theorem lad_small : ∀ c, c < 30 → ladB 4 c < 65536 ∧ ladN 4 c < 16 ∧ ladB 2 c < 65536 ∧ ladN 2 c < 16 := by decide
theorem len_step : ∀ c, c < 28 → c ≠ 27 → lenB (c + 1) = lenB c + 2 ^ lenN c := by decide
theorem len_last : lenB 27 + 2 ^ lenN 27 = 259 := by decide
theorem dis_step : ∀ c, c < 29 → disB (c + 1) = disB c + 2 ^ disN c := by decide
theorem dis_last : disB 29 + 2 ^ disN 29 = 32769 := by decide
theorem len_room : ∀ c, c < 27 → lenB (c + 1) - lenB c = 2 ^ lenN c := by decide

/-- A length's code: what is added is below what its digits hold. -/
theorem len_code (n : Nat) (h3 : 3 ≤ n) (h : n ≤ 258) : topOf lenB n 28 ≤ 28 ∧ lenB (topOf lenB n 28) ≤ n ∧ n - lenB (topOf lenB n 28) < 2 ^ lenN (topOf lenB n 28) := by
  have h1 := topOf_le lenB n 28
  have h2 := topOf_base lenB n 28 (by rw [show lenB 0 = 3 by decide]; exact h3)
  refine ⟨h1, h2, ?_⟩
  have h4 := fun j => topOf_above lenB n 28 j
  generalize topOf lenB n 28 = k at *
  rcases (show k = 28 ∨ k = 27 ∨ k < 27 by omega) with rfl | rfl | hk
  · have e : lenB 28 = 258 := by decide
    have e2 : lenN 28 = 0 := by decide
    rw [e, e2]; omega
  · have := len_last
    omega
  · have := h4 (k + 1) (by omega) (by omega)
    have := len_step k (by omega) (by omega)
    omega

theorem dis_code (n : Nat) (h3 : 1 ≤ n) (h : n ≤ 32768) : topOf disB n 29 ≤ 29 ∧ disB (topOf disB n 29) ≤ n ∧ n - disB (topOf disB n 29) < 2 ^ disN (topOf disB n 29) := by
  have h1 := topOf_le disB n 29
  have h2 := topOf_base disB n 29 (by rw [show disB 0 = 1 by decide]; exact h3)
  refine ⟨h1, h2, ?_⟩
  have h4 := fun j => topOf_above disB n 29 j
  generalize topOf disB n 29 = k at *
  rcases (show k = 29 ∨ k < 29 by omega) with rfl | hk
  · have := dis_last
    omega
  · have := h4 (k + 1) (by omega) (by omega)
    have := dis_step k (by omega)
    omega

theorem lad_pos (m c : Nat) (h : m ≤ c) (hm : 0 < m) : 1 ≤ c / m := (Nat.one_le_div_iff hm).2 h

set_option maxHeartbeats 1000000 in
theorem ladder_walk (c m : Nat) (hm : 0 < m) (hm4 : m ≤ 4) (hc : c < 30) (w : World) :
    Calls Tryd.prog 83 #[.int .i64 c, .int .i64 m] w fun e w' => e = .returned (.tuple #[.int .i64 (ladB m c : Nat), .int .i64 (ladN m c : Nat)]) ∧ w' = w := by
  by_cases h : c < m
  · have e1 : ladB m c = c := by simp [ladB, h]
    have e2 : ladN m c = 0 := by simp [ladN, Nat.div_eq_of_lt h]
    rw [e1, e2]
    go_enter Tryd.func83, Tryd.ntmps83
    go_wp2
    go_ret2
    exact ⟨rfl, rfl⟩
  · have hd := lad_pos m c (by omega) hm
    have hq : (c : Int).tdiv (m : Int) = ((c / m : Nat) : Int) := by simp [Int.tdiv]
    have hr : (c : Int).tmod (m : Int) = ((c % m : Nat) : Int) := by simp [Int.tmod]
    have hdl : c / m < 30 := Nat.lt_of_le_of_lt (Nat.div_le_self c m) hc
    have hrl : c % m < m := Nat.mod_lt _ hm
    have hm0 : ((m : Int) == 0) = false := by simp; omega
    have hs : 0 ≤ ((c / m : Nat) : Int) - 1 := by omega
    go_enter Tryd.func83, Tryd.ntmps83
    go_wp2
    go_ret2
    have hp : 2 ^ (c / m - 1) ≤ 536870912 := Nat.le_trans (Nat.pow_le_pow_right (by decide) (by omega : c / m - 1 ≤ 29)) (by decide)
    have hmul : (m + c % m) * 2 ^ (c / m - 1) ≤ 8 * 536870912 := Nat.mul_le_mul (by omega) hp
    have e1 : ladB m c = (m + c % m) * 2 ^ (c / m - 1) := by simp [ladB, h]
    have e2 : wrap64 (((m : Int) + (c : Int) % (m : Int)) * 2 ^ (c / m - 1)) = ((ladB m c : Nat) : Int) := by
      rw [e1]
      have : ((m : Int) + (c : Int) % (m : Int)) * 2 ^ (c / m - 1) = (((m + c % m) * 2 ^ (c / m - 1) : Nat) : Int) := by push_cast; rfl
      rw [this]
      generalize (m + c % m) * 2 ^ (c / m - 1) = z at hmul ⊢
      unfold wrap64
      omega
    have e3 : (c : Int) / (m : Int) - 1 = ((ladN m c : Nat) : Int) := by
      unfold ladN
      have : ((c / m : Nat) : Int) = (c : Int) / (m : Int) := by simp
      omega
    refine ⟨?_, rfl⟩
    show Ending.returned (.tuple #[.int .i64 (wrap64 (((m : Int) + (c : Int) % (m : Int)) * 2 ^ (c / m - 1))), .int .i64 ((c : Int) / (m : Int) - 1)]) = _
    rw [e2, e3]

theorem lad4 (c : Nat) (hc : c < 30) : Hid (∀ w, Calls Tryd.prog 83 #[.int .i64 c, .int .i64 4] w fun e w' => e = .returned (.tuple #[.int .i64 (ladB 4 c : Nat), .int .i64 (ladN 4 c : Nat)]) ∧ w' = w) := fun w => ladder_walk c 4 (by decide) (by decide) hc w
theorem lad2 (c : Nat) (hc : c < 30) : Hid (∀ w, Calls Tryd.prog 83 #[.int .i64 c, .int .i64 2] w fun e w' => e = .returned (.tuple #[.int .i64 (ladB 2 c : Nat), .int .i64 (ladN 2 c : Nat)]) ∧ w' = w) := fun w => ladder_walk c 2 (by decide) (by decide) hc w

theorem lenOf_walk (c : Nat) (C : Int) (hC : C = 257 + c) (hc : c ≤ 28) (w : World) :
    Calls Tryd.prog 71 #[.int .i64 C] w fun e w' => e = .returned (.tuple #[.int .i64 (lenB c : Nat), .int .i64 (lenN c : Nat), .bool true]) ∧ w' = w := by
  subst hC
  by_cases h : c = 28
  · subst h
    go_enter Tryd.func71, Tryd.ntmps71
    go_wp2
    go_ret3
    exact ⟨rfl, rfl⟩
  · have hl := lad4 c (by omega)
    have hb := lad_small c (by omega)
    have e1 : lenB c = 3 + ladB 4 c := by simp [lenB, h]
    have e2 : lenN c = ladN 4 c := by simp [lenN, h]
    rw [e1, e2]
    have hx : ((257 : Int) + c == 285) = false := by simp; omega
    have hy : (257 : Int) + c - 257 = c := by omega
    go_enter Tryd.func71, Tryd.ntmps71
    go_wp2_with (go_at_call 83; (with_reducible refine (hl.out _).mono ?_); rintro e w' ⟨rfl, hx⟩; have hx := hx.symm; subst hx)
    go_ret3
    exact ⟨rfl, rfl⟩

theorem lenOf_none (C : Int) (hC : C < 257 ∨ 285 < C) (w : World) :
    Calls Tryd.prog 71 #[.int .i64 C] w fun e w' => e = .returned (.tuple #[.int .i64 0, .int .i64 0, .bool false]) ∧ w' = w := by
  rcases hC with h | h
  all_goals
    go_enter Tryd.func71, Tryd.ntmps71
    go_wp2
    go_ret3
    exact ⟨rfl, rfl⟩

theorem disOf_walk (c : Nat) (hc : c ≤ 29) (w : World) :
    Calls Tryd.prog 72 #[.int .i64 c] w fun e w' => e = .returned (.tuple #[.int .i64 (disB c : Nat), .int .i64 (disN c : Nat), .bool true]) ∧ w' = w := by
  have hl := lad2 c (by omega)
  have hb := lad_small c (by omega)
  have e1 : disB c = 1 + ladB 2 c := rfl
  have e2 : disN c = ladN 2 c := rfl
  rw [e1, e2]
  go_enter Tryd.func72, Tryd.ntmps72
  go_wp2_with (go_at_call 83; (with_reducible refine (hl.out _).mono ?_); rintro e w' ⟨rfl, hx⟩; have hx := hx.symm; subst hx)
  go_ret3
  exact ⟨rfl, rfl⟩

theorem disOf_none (C : Int) (hC : C < 0 ∨ 29 < C) (w : World) :
    Calls Tryd.prog 72 #[.int .i64 C] w fun e w' => e = .returned (.tuple #[.int .i64 0, .int .i64 0, .bool false]) ∧ w' = w := by
  rcases hC with h | h
  all_goals
    go_enter Tryd.func72, Tryd.ntmps72
    go_wp2
    go_ret3
    exact ⟨rfl, rfl⟩
end Go.Proofs.YtdokpimhhkbdbaaDoor.Lz
