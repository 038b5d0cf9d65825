/-
  Plain mathematics of float64's words: a whole number divided by one, two or four, and a hundred times that.
-/
import Derived.Test.YtghalbecgiepmaaDoorFlr
namespace Go.Proofs.YtghalbecgiepmaaDoor.flo
open Ieee

theorem U_big : 4503599627370496 < U := by
  rw [U_def]
  calc 4503599627370496 < 2 ^ 53 := by decide
    _ ≤ 2 ^ lo := Nat.pow_le_pow_right (by decide) (by decide)

/-- a rung whose magnitude is a multiple of one is that of a normal number -/
theorem normal_of {r a : Nat} (h0 : 0 < a) (ha : a < 9007199254740992) (h : vl r = a * U) : mg r = 4503599627370496 + r % 4503599627370496 ∧ (mg r).log2 = 52 ∧ 1022 ≤ ex r ∧ ex r ≤ 1074 := by
  have hU := U_big
  have h1 : U ≤ vl r := by rw [h]; exact Nat.le_mul_of_pos_left U h0
  have hr : ¬ r < 4503599627370496 := by
    intro hr
    have e1 : r / 4503599627370496 = 0 := by omega
    have : vl r = r := by unfold vl mg ex; simp [hr, e1]
    omega
  have hm : mg r = 4503599627370496 + r % 4503599627370496 := by unfold mg; rw [if_neg hr]
  refine ⟨hm, ?_, ?_, ?_⟩
  · rw [Nat.log2_eq_iff (by omega)]
    omega
  · rcases Nat.lt_or_ge (ex r) 1022 with h2 | h2
    · exfalso
      have h3 : mg r * 2 ^ ex r < 9007199254740992 * 2 ^ 1021 := by
        calc mg r * 2 ^ ex r < 9007199254740992 * 2 ^ ex r := Nat.mul_lt_mul_of_pos_right (mg_lt r) (Nat.two_pow_pos _)
          _ ≤ 9007199254740992 * 2 ^ 1021 := Nat.mul_le_mul_left _ (Nat.pow_le_pow_right (by decide) (by omega))
      have h4 : 9007199254740992 * 2 ^ (lo - 53) = U := by
        rw [show 9007199254740992 = 2 ^ 53 from by decide, Nat.mul_comm, U_split 53 (by decide)]
      rw [show lo - 53 = 1021 from rfl] at h4
      rw [h4] at h3
      have : vl r = mg r * 2 ^ ex r := rfl
      omega
    · exact h2
  · rcases Nat.lt_or_ge 1074 (ex r) with h2 | h2
    · exfalso
      have h3 : 4503599627370496 * (2 * U) ≤ mg r * 2 ^ ex r := by
        calc 4503599627370496 * (2 * U) = 4503599627370496 * 2 ^ (lo + 1) := by rw [Nat.pow_succ, ← U_def, Nat.mul_comm U]
          _ ≤ 4503599627370496 * 2 ^ ex r := Nat.mul_le_mul_left _ (Nat.pow_le_pow_right (by decide) h2)
          _ ≤ mg r * 2 ^ ex r := Nat.mul_le_mul_right _ (by omega)
      have h4 : vl r = mg r * 2 ^ ex r := rfl
      have h5 : a * U < 9007199254740992 * U := Nat.mul_lt_mul_of_pos_right ha U_pos
      rw [← h4, h] at h3
      omega
    · exact h2

/-- the word of 1, 2, 4 -/
def pw (k : Nat) : Nat := 4607182418800017408 + k * 4503599627370496
theorem pw_read {k : Nat} (hk : k ≤ 2) : double.read (pw k) = .number false 4503599627370496 (-52 + (k : Int)) := by
  have : k = 0 ∨ k = 1 ∨ k = 2 := by omega
  rcases this with rfl | rfl | rfl <;> decide +kernel
theorem pw_ofInt {k : Nat} (hk : k ≤ 2) : floatOfInt .f64 ((2 ^ k : Nat) : Int) = pw k := by
  have : k = 0 ∨ k = 1 ∨ k = 2 := by omega
  rcases this with rfl | rfl | rfl <;> decide +kernel

theorem quo_exact (p : Int) (k : Nat) (hk : k ≤ 2) (hp0 : p ≠ 0) (hp : p.natAbs < 9007199254740992) :
    ∃ x, floatBits .quo .f64 (floatOfInt .f64 p) (floatOfInt .f64 ((2 ^ k : Nat) : Int)) = some x ∧ x < 18446744073709551616 ∧ neg x = decide (p < 0) ∧ rung x < 9218868437227405312 ∧
      vl (rung x) * 2 ^ k = p.natAbs * U ∧ ∃ r, vl r = p.natAbs * U ∧ vl (rung x) = mg r * 2 ^ (ex r - k) := by
  obtain ⟨w1, w2, w3, w4⟩ := ofInt_facts p hp
  have hrd := read_ofInt p hp
  generalize rung (floatOfInt .f64 p) = r at w3 w4 hrd
  obtain ⟨n1, n2, n3, n4⟩ := normal_of (by omega) hp w4
  have hq : double.div (floatOfInt .f64 p) (pw k) = some (double.nearest (decide (p < 0)) (8 * mg r) (-1074 + ((ex r - 3 - k : Nat) : Int))) := by
    unfold Format.div
    rw [hrd, pw_read hk, show double.fractionBits + 2 = 54 from rfl]
    unfold Datum.quotient
    simp only [Bool.xor_false]
    rw [if_neg (by decide)]
    rw [n2, show Nat.log2 4503599627370496 = 52 from by decide +kernel, show 54 + 52 - 52 = 54 from rfl]
    have e1 : mg r <<< 54 / 4503599627370496 = 4 * mg r := by rw [Nat.shiftLeft_eq]; omega
    have e2 : mg r <<< 54 % 4503599627370496 = 0 := by rw [Nat.shiftLeft_eq]; omega
    rw [e1, e2, Option.map_some]
    have e3 : 2 * (4 * mg r) + ((0 : Nat) != 0).toNat = 8 * mg r := by
      rw [show ((0 : Nat) != 0).toNat = 0 from rfl]; omega
    have e4 : (-1074 + (ex r : Int) - (-52 + (k : Int)) - ((54 : Nat) : Int) - 1) = -1074 + ((ex r - 3 - k : Nat) : Int) := by omega
    rw [e3, e4]
    rfl
  obtain ⟨v1, v2, v3, v4⟩ := nearest_exact (decide (p < 0)) (8 * mg r) (ex r - 3 - k) (mg r) (ex r - k) (by omega)
    (by rw [show ex r - k = 3 + (ex r - 3 - k) by omega, Nat.pow_add, ← Nat.mul_assoc, Nat.mul_comm 8]) (mg_lt r) (by omega)
  refine ⟨_, ?_, v1, v2, v3, ?_, r, w4, v4⟩
  · rw [pw_ofInt hk]; exact hq
  · rw [v4, Nat.mul_assoc, ← Nat.pow_add, Nat.sub_add_cancel (by omega)]; exact w4

/-- of a share of halves and quarters, in hundredths -/
theorem hundredths (p : Int) (k : Nat) (hk : k ≤ 2) (hp0 : p ≠ 0) (hp : p.natAbs ≤ 1000000) {x : Nat}
    (hx : floatBits .quo .f64 (floatOfInt .f64 p) (floatOfInt .f64 ((2 ^ k : Nat) : Int)) = some x) :
    x < 18446744073709551616 ∧ neg x = decide (p < 0) ∧ rung x < 4831355200913801216 ∧ ones (mul100 (rung x)) = p.natAbs * 100 / 2 ^ k := by
  obtain ⟨x', h1, h2, h3, h4, h5, r, h6, h7⟩ := quo_exact p k hk hp0 (by omega)
  obtain rfl : x' = x := by rw [h1] at hx; exact Option.some.inj hx
  obtain ⟨n1, n2, n3, n4⟩ := normal_of (by omega) (by omega) h6
  have hUk := U_split k (by rw [lo_eq]; omega)
  have hpk := Nat.two_pow_pos k
  have hv : vl (rung x') = p.natAbs * 2 ^ (lo - k) := by
    rw [← hUk, ← Nat.mul_assoc] at h5
    exact Nat.eq_of_mul_eq_mul_right hpk h5
  have hbig : rung x' < 4831355200913801216 := by
    refine vl_lt_iff.1 ?_
    have b1 : vl 4831355200913801216 = mg 4831355200913801216 * 2 ^ ex 4831355200913801216 := rfl
    have b2 : ex 4831355200913801216 = lo - 3 := by decide
    have b3 : mg 4831355200913801216 = 8000000000000000 := by decide
    rw [b1, b2, b3, hv]
    have b4 : 2 ^ (lo - k) ≤ 2 ^ (lo - 3 + 3) := Nat.pow_le_pow_right (by decide) (by rw [lo_eq]; omega)
    rw [Nat.pow_add] at b4
    have b5 : 0 < 2 ^ (lo - 3) := Nat.two_pow_pos _
    calc p.natAbs * 2 ^ (lo - k) ≤ 1000000 * (2 ^ (lo - 3) * 2 ^ 3) := Nat.mul_le_mul hp b4
      _ < 8000000000000000 * 2 ^ (lo - 3) := by omega
  refine ⟨h2, h3, hbig, ?_⟩
  -- the product by 100
  obtain ⟨q1, q2⟩ : rung (rung x') = rung x' ∧ neg (rung x') = false := by
    generalize hz : rung x' = z at hbig ⊢
    refine ⟨by unfold rung; omega, by unfold neg; rw [decide_eq_false_iff_not]; omega⟩
  have hex : 46 ≤ ex (rung x') := by
    rcases Nat.lt_or_ge (ex (rung x')) 46 with g | g
    · exfalso
      have g1 : vl (rung x') < 9007199254740992 * 2 ^ 46 := by
        calc vl (rung x') = mg (rung x') * 2 ^ ex (rung x') := rfl
          _ < 9007199254740992 * 2 ^ ex (rung x') := Nat.mul_lt_mul_of_pos_right (mg_lt _) (Nat.two_pow_pos _)
          _ ≤ 9007199254740992 * 2 ^ 46 := Nat.mul_le_mul_left _ (Nat.pow_le_pow_right (by decide) (by omega))
      have g2 : 2 ^ 100 ≤ 2 ^ (lo - k) := Nat.pow_le_pow_right (by decide) (by rw [lo_eq]; omega)
      have g3 : 2 ^ (lo - k) ≤ vl (rung x') := by rw [hv]; exact Nat.le_mul_of_pos_left _ (by omega)
      omega
    · exact g
  have hm : mul100 (rung x') = double.nearest false (mg (rung x') * 7036874417766400) (-1074 + ((ex (rung x') - 46 : Nat) : Int)) := by
    unfold mul100
    have : floatBits .mul .f64 (rung x') 4636737291354636288 = some (double.nearest false (mg (rung x') * 7036874417766400) (-1074 + ((ex (rung x') - 46 : Nat) : Int))) := by
      show double.mul (rung x') 4636737291354636288 = _
      unfold Format.mul
      rw [read_fin (by omega) (by rw [q1]; omega), q2, q1, show double.read 4636737291354636288 = .number false 7036874417766400 (-46) from by decide +kernel]
      unfold Datum.product
      simp only [Option.map_some, Bool.xor_false]
      unfold Format.write
      rw [show (-1074 + (ex (rung x') : Int) + -46) = -1074 + ((ex (rung x') - 46 : Nat) : Int) by omega]
    rw [this, Option.getD_some]
  have hmpos : 0 < mg (rung x') := by
    rcases Nat.eq_zero_or_pos (mg (rung x')) with g | g
    · exfalso
      rw [mg_zero] at g
      rw [g, vl_zero] at hv
      have : 0 < p.natAbs * 2 ^ (lo - k) := Nat.mul_pos (by omega) (Nat.two_pow_pos _)
      omega
    · exact g
  obtain ⟨v1, v2, v3, v4⟩ := nearest_exact false (mg (rung x') * 7036874417766400) (ex (rung x') - 46) (p.natAbs * 100) (lo - k) (Nat.mul_pos hmpos (by decide))
    (by
      have e : mg (rung x') * 7036874417766400 * 2 ^ (ex (rung x') - 46) = 100 * vl (rung x') := by
        have : 2 ^ ex (rung x') = 2 ^ 46 * 2 ^ (ex (rung x') - 46) := by rw [← Nat.pow_add]; congr 1; omega
        unfold vl
        rw [this, Nat.mul_assoc, Nat.mul_left_comm 100, show 7036874417766400 = 100 * 2 ^ 46 from by decide, Nat.mul_assoc]
      rw [e, hv, ← Nat.mul_assoc, Nat.mul_comm 100]) (by omega) (by rw [lo_eq]; omega)
  rw [← hm] at v4
  unfold ones
  rw [v4, ← hUk, Nat.mul_comm (2 ^ (lo - k)), Nat.mul_div_mul_right _ _ (Nat.two_pow_pos _)]
end Go.Proofs.YtghalbecgiepmaaDoor.flo
