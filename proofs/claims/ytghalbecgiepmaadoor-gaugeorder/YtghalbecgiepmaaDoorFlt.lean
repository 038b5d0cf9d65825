/-
  Plain mathematics of float64's words: twice a number is another number, but for nought and what is endless; one divided by nought.
-/
import Derived.Test.YtghalbecgiepmaaDoorFls
namespace Go.Proofs.YtghalbecgiepmaaDoor.flo
open Ieee

/-- the rung of twice a number -/
def dbl (r : Nat) : Nat := if r < 4503599627370496 then 2 * r else if r < 9214364837600034816 then r + 4503599627370496 else 9218868437227405312

theorem two_read : double.read 4611686018427387904 = .number false 4503599627370496 (-51) := by decide +kernel

theorem log2_mul_pow (m : Nat) (h : 0 < m) : (4503599627370496 * m).log2 = 52 + m.log2 := by
  obtain ⟨l1, l2⟩ := log2_spec h
  rw [Nat.log2_eq_iff (by omega)]
  rw [show (4503599627370496 : Nat) = 2 ^ 52 from by decide]
  constructor
  · rw [Nat.pow_add]; exact Nat.mul_le_mul_left _ l1
  · rw [show 52 + m.log2 + 1 = 52 + (m.log2 + 1) from by omega, Nat.pow_add]; exact Nat.mul_lt_mul_of_pos_left l2 (by decide)

theorem nearest_at (s : Bool) (mag : Nat) (place last : Int) (h0 : 0 < mag) (hl : max (place + (mag.log2 : Int) - 52) (-1074) = last) :
    double.nearest s mag place = double.word s (min ((last + 1074).toNat * 4503599627370496 + Toward.even.cut s (mag <<< (place - last).toNat) (last - place).toNat) 9218868437227405312) := by
  unfold Format.nearest
  rw [if_neg (by omega), show double.fractionBits = 52 from rfl, show double.leastPlace = -1074 from rfl, show double.binade = 4503599627370496 from rfl, show double.infRung = 9218868437227405312 from rfl]
  simp only
  rw [show (((52 : Nat) : Int)) = 52 from rfl, hl, show last - -1074 = last + 1074 from by omega]

theorem dbl_word (s : Bool) (r : Nat) (hr : r < 9218868437227405312) :
    double.nearest s (4503599627370496 * mg r) (-51 + (-1074 + (ex r : Int))) = double.word s (dbl r) := by
  by_cases h0 : r = 0
  · subst h0
    rw [show mg 0 = 0 from by decide, Nat.mul_zero, show dbl 0 = 0 from by decide]
    unfold Format.nearest
    rw [if_pos rfl]
  · have hm : 0 < mg r := by rcases Nat.eq_zero_or_pos (mg r) with h | h; exact absurd (mg_zero.1 h) h0; exact h
    have hlog := log2_mul_pow (mg r) hm
    by_cases h1 : r < 4503599627370496
    · have hmr : mg r = r := by unfold mg; rw [if_pos h1]
      have hex : ex r = 0 := by unfold ex; omega
      have hl : (mg r).log2 ≤ 51 := by
        obtain ⟨l1, _⟩ := log2_spec hm
        rcases Nat.lt_or_ge 51 (mg r).log2 with h | h
        · exfalso
          have : 2 ^ 52 ≤ 2 ^ (mg r).log2 := Nat.pow_le_pow_right (by decide) h
          omega
        · exact h
      rw [nearest_at s _ _ (-1074) (by omega) (by rw [hlog, hex]; omega), hex]
      rw [show (-51 + (-1074 + ((0 : Nat) : Int)) - -1074).toNat = 0 from by decide, show (-1074 - (-51 + (-1074 + ((0 : Nat) : Int)))).toNat = 51 from by decide, show ((-1074 : Int) + 1074).toNat = 0 from by decide]
      rw [Nat.shiftLeft_eq, Nat.pow_zero, Nat.mul_one, Nat.zero_mul, Nat.zero_add, hmr]
      have hd : 4503599627370496 * r = 2 * r * 2 ^ 51 := by omega
      rw [cut_exact s _ 51 (by rw [← hmr, hlog]; omega) (by rw [hd]; exact Nat.mul_mod_left _ _), hd, Nat.mul_div_cancel _ (by decide)]
      unfold dbl
      rw [if_pos h1, Nat.min_eq_left (by omega)]
    · have hmr : mg r = 4503599627370496 + r % 4503599627370496 := by unfold mg; rw [if_neg h1]
      have hl : (mg r).log2 = 52 := by
        rw [Nat.log2_eq_iff (by omega)]
        omega
      rw [nearest_at s _ _ (-1074 + (ex r : Int) + 1) (by omega) (by rw [hlog, hl]; omega)]
      rw [show (-51 + (-1074 + (ex r : Int)) - (-1074 + (ex r : Int) + 1)).toNat = 0 from by omega, show (-1074 + (ex r : Int) + 1 - (-51 + (-1074 + (ex r : Int)))).toNat = 52 from by omega, show (-1074 + (ex r : Int) + 1 + 1074).toNat = ex r + 1 from by omega]
      rw [Nat.shiftLeft_eq, Nat.pow_zero, Nat.mul_one]
      have hd : 4503599627370496 * mg r = mg r * 2 ^ 52 := by omega
      rw [cut_exact s _ 52 (by rw [hlog]; omega) (by rw [hd]; exact Nat.mul_mod_left _ _), hd, Nat.mul_div_cancel _ (by decide)]
      congr 1
      unfold dbl
      rw [if_neg h1]
      have he : (ex r + 1) * 4503599627370496 + mg r = r + 4503599627370496 := by unfold ex; omega
      rw [he]
      split
      · rw [Nat.min_eq_left (by omega)]
      · rw [Nat.min_eq_right (by omega)]

theorem mul_two_fin {x : Nat} (hx : x < 18446744073709551616) (hf : rung x < 9218868437227405312) :
    floatBits .mul .f64 4611686018427387904 x = some (double.word (neg x) (dbl (rung x))) := by
  show double.mul 4611686018427387904 x = _
  unfold Format.mul
  rw [two_read, read_fin hx hf]
  unfold Datum.product
  simp only [Option.map_some, Bool.false_xor]
  exact congrArg some (dbl_word (neg x) (rung x) hf)
theorem word_self {x : Nat} (hx : x < 18446744073709551616) : double.word (neg x) (rung x) = x := by
  have h := neg_rung hx
  unfold Format.word
  rw [show double.signWeight = 9223372036854775808 from rfl]
  cases hs : neg x
  · rw [hs] at h
    rw [if_neg (by decide)]
    rw [if_neg (by decide)] at h
    omega
  · rw [hs] at h
    rw [if_pos rfl]
    rw [if_pos rfl] at h
    omega
theorem mul_two_inf {x : Nat} (hx : x < 18446744073709551616) (hf : rung x = 9218868437227405312) :
    floatBits .mul .f64 4611686018427387904 x = some x := by
  show double.mul 4611686018427387904 x = _
  unfold Format.mul
  rw [two_read, read_inf hx hf]
  unfold Datum.product
  simp only [Bool.xor_false]
  rw [if_neg (by decide), Option.map_some]
  have := word_self hx
  rw [hf] at this
  exact congrArg some this

theorem dbl_lt (r : Nat) (h : r < 9218868437227405312) : dbl r ≤ 9218868437227405312 := by
  unfold dbl; split
  · omega
  · split <;> omega
theorem dbl_ne (r : Nat) (h0 : 0 < r) (h : r < 9218868437227405312) : dbl r ≠ r := by
  unfold dbl; split
  · omega
  · split <;> omega

/-- x == 2*x of what is no NaN: nought, or endless -/
theorem same_twice {x : Nat} (hx : x < 18446744073709551616) (hn : nan x = false) :
    ∃ y, floatBits .mul .f64 4611686018427387904 x = some y ∧ y < 18446744073709551616 ∧ (double.order x y == some .eq) = decide (rung x = 0 ∨ rung x = 9218868437227405312) := by
  rcases not_nan hn with hf | hf
  · refine ⟨_, mul_two_fin hx hf, ?_, ?_⟩
    · exact (word_facts (neg x) (r := dbl (rung x)) (by have := dbl_lt _ hf; omega)).1
    · obtain ⟨w1, w2, w3⟩ := word_facts (neg x) (r := dbl (rung x)) (by have := dbl_lt _ hf; omega)
      have hny : nan (double.word (neg x) (dbl (rung x))) = false := by unfold nan; rw [w3, decide_eq_false_iff_not]; have := dbl_lt _ hf; omega
      rw [order_sv hx w1 hn hny]
      unfold sv
      rw [w2, w3]
      by_cases h0 : rung x = 0
      · rw [h0, show dbl 0 = 0 from by decide, compare_eq rfl, show decide ((0 : Nat) = 0 ∨ (0 : Nat) = 9218868437227405312) = true from by decide]; rfl
      · have hd := dbl_ne (rung x) (by omega) hf
        rw [show decide (rung x = 0 ∨ rung x = 9218868437227405312) = false from by rw [decide_eq_false_iff_not]; omega]
        rcases Nat.lt_or_ge (dbl (rung x)) (rung x) with h | h
        · cases neg x
          · rw [compare_gt (by simp only [sg, Bool.false_eq_true, if_false]; omega)]; rfl
          · rw [compare_lt (by simp only [sg, if_true]; omega)]; rfl
        · cases neg x
          · rw [compare_lt (by simp only [sg, Bool.false_eq_true, if_false]; omega)]; rfl
          · rw [compare_gt (by simp only [sg, if_true]; omega)]; rfl
  · refine ⟨x, mul_two_inf hx hf, hx, ?_⟩
    rw [order_self hx, hn, show decide (rung x = 0 ∨ rung x = 9218868437227405312) = true from by rw [decide_eq_true_eq]; exact Or.inr hf]; rfl
end Go.Proofs.YtghalbecgiepmaaDoor.flo
