/-
  Plain mathematics of float64's words, without the program: a word's rung and sign; that Go's comparison of two words that are numbers or endless is that of their signed rungs.
-/
import Derived.Laws.FloatArith
namespace Go.Proofs.YtghalbecgiepmaaDoor.flo
open Ieee

def rung (b : Nat) : Nat := b % 9223372036854775808
def neg (b : Nat) : Bool := decide (9223372036854775808 ≤ b)
def nan (b : Nat) : Bool := decide (9218868437227405312 < rung b)
def sg (s : Bool) (n : Nat) : Int := if s then -(n : Int) else n
/-- the signed rung -/
def sv (b : Nat) : Int := sg (neg b) (rung b)
def mg (r : Nat) : Nat := if r < 4503599627370496 then r else 4503599627370496 + r % 4503599627370496
def ex (r : Nat) : Nat := r / 4503599627370496 - 1
/-- the magnitude of a rung, in units of the least place -/
def vl (r : Nat) : Nat := mg r * 2 ^ ex r

theorem rung_lt (b : Nat) : rung b < 9223372036854775808 := Nat.mod_lt _ (by decide)
theorem neg_div {b : Nat} (h : b < 18446744073709551616) : (b / double.signWeight % 2 == 1) = neg b := by
  unfold neg
  rw [show double.signWeight = 9223372036854775808 from rfl, Bool.eq_iff_iff]
  simp only [beq_iff_eq, decide_eq_true_eq]
  omega

theorem read_fin {b : Nat} (h : b < 18446744073709551616) (hf : rung b < 9218868437227405312) :
    double.read b = .number (neg b) (mg (rung b)) (-1074 + (ex (rung b) : Int)) := by
  unfold Format.read
  simp only [neg_div h]
  rw [show double.signWeight = 9223372036854775808 from rfl, show double.binade = 4503599627370496 from rfl, show double.infRung = 9218868437227405312 from rfl, show double.leastPlace = -1074 from rfl]
  rw [show b % 9223372036854775808 = rung b from rfl]
  unfold mg ex
  by_cases h1 : rung b < 4503599627370496
  · rw [if_pos h1, if_pos h1]
    have : rung b / 4503599627370496 = 0 := by omega
    simp [this]
  · rw [if_neg h1, if_neg h1, if_pos hf]

theorem read_inf {b : Nat} (h : b < 18446744073709551616) (hf : rung b = 9218868437227405312) : double.read b = .infinity (neg b) := by
  unfold Format.read
  simp only [neg_div h]
  rw [show double.signWeight = 9223372036854775808 from rfl, show double.binade = 4503599627370496 from rfl, show double.infRung = 9218868437227405312 from rfl, show double.leastPlace = -1074 from rfl]
  rw [show b % 9223372036854775808 = rung b from rfl]
  rw [if_neg (by omega), if_neg (by omega), if_pos hf]

theorem read_nan {b : Nat} (h : b < 18446744073709551616) (hf : nan b = true) : double.read b = .nan (neg b) (rung b - 9218868437227405312) := by
  have hf : 9218868437227405312 < rung b := by simpa [nan] using hf
  unfold Format.read
  simp only [neg_div h]
  rw [show double.signWeight = 9223372036854775808 from rfl, show double.binade = 4503599627370496 from rfl, show double.infRung = 9218868437227405312 from rfl, show double.leastPlace = -1074 from rfl]
  rw [show b % 9223372036854775808 = rung b from rfl]
  rw [if_neg (by omega), if_neg (by omega), if_neg (by omega)]

theorem vl_zero : vl 0 = 0 := by decide

theorem vl_lt {r q : Nat} (h : r < q) : vl r < vl q := by
  unfold vl mg ex
  by_cases h1 : r < 4503599627370496
  · have e1 : r / 4503599627370496 = 0 := by omega
    by_cases h2 : q < 4503599627370496
    · have e2 : q / 4503599627370496 = 0 := by omega
      simp [h1, h2, e1, e2, h]
    · simp only [h1, h2, if_true, if_false, e1]
      have : 1 ≤ 2 ^ (q / 4503599627370496 - 1) := Nat.one_le_two_pow
      have : (4503599627370496 + q % 4503599627370496) * 1 ≤ (4503599627370496 + q % 4503599627370496) * 2 ^ (q / 4503599627370496 - 1) := Nat.mul_le_mul_left _ this
      simp only [Nat.zero_sub, Nat.pow_zero, Nat.mul_one]
      omega
  · have h2 : ¬ q < 4503599627370496 := by omega
    simp only [h1, h2, if_false]
    by_cases hq : r / 4503599627370496 = q / 4503599627370496
    · rw [hq]
      exact Nat.mul_lt_mul_of_pos_right (by omega) (Nat.two_pow_pos _)
    · have hlt : r / 4503599627370496 < q / 4503599627370496 := by omega
      have hk : r / 4503599627370496 - 1 + 1 ≤ q / 4503599627370496 - 1 := by omega
      calc (4503599627370496 + r % 4503599627370496) * 2 ^ (r / 4503599627370496 - 1)
          < (2 * 4503599627370496) * 2 ^ (r / 4503599627370496 - 1) := Nat.mul_lt_mul_of_pos_right (by omega) (Nat.two_pow_pos _)
        _ = 4503599627370496 * 2 ^ (r / 4503599627370496 - 1 + 1) := by rw [Nat.pow_succ]; omega
        _ ≤ 4503599627370496 * 2 ^ (q / 4503599627370496 - 1) := Nat.mul_le_mul_left _ (Nat.pow_le_pow_right (by decide) hk)
        _ ≤ (4503599627370496 + q % 4503599627370496) * 2 ^ (q / 4503599627370496 - 1) := Nat.mul_le_mul_right _ (by omega)

theorem vl_lt_iff {r q : Nat} : vl r < vl q ↔ r < q := by
  constructor
  · intro h
    rcases Nat.lt_trichotomy r q with h1 | h1 | h1
    · exact h1
    · subst h1; omega
    · have := vl_lt h1; omega
  · exact vl_lt
theorem vl_inj {r q : Nat} : vl r = vl q ↔ r = q := by
  constructor
  · intro h
    rcases Nat.lt_trichotomy r q with h1 | h1 | h1
    · have := vl_lt h1; omega
    · exact h1
    · have := vl_lt h1; omega
  · intro h; rw [h]

theorem compare_int (x y : Int) : compare x y = if x < y then .lt else if x = y then .eq else .gt := rfl

theorem compare_congr {x y x' y' : Int} (h1 : x < y ↔ x' < y') (h2 : x = y ↔ x' = y') : compare x y = compare x' y' := by
  rw [compare_int, compare_int]
  simp only [h1, h2]

theorem signed_eq (s : Bool) (m k : Nat) : signed s m k = sg s (m * 2 ^ k) := by
  unfold signed sg; rw [Nat.shiftLeft_eq]

theorem sg_mul (s : Bool) (n k : Nat) : sg s n * (k : Int) = sg s (n * k) := by
  cases s <;> simp [sg, Int.neg_mul]

theorem sg_vl_lt (s t : Bool) (r q : Nat) : sg s (vl r) < sg t (vl q) ↔ sg s r < sg t q := by
  have h1 := @vl_lt_iff r q
  have h2 := @vl_lt_iff q r
  have h3 := @vl_lt_iff 0 r
  have h4 := @vl_lt_iff 0 q
  rw [vl_zero] at h3 h4
  cases s <;> cases t <;> simp only [sg, if_true, Bool.false_eq_true, if_false] <;> omega
theorem sg_vl_eq (s t : Bool) (r q : Nat) : sg s (vl r) = sg t (vl q) ↔ sg s r = sg t q := by
  have h1 := @vl_lt_iff r q
  have h2 := @vl_lt_iff q r
  have h3 := @vl_lt_iff 0 r
  have h4 := @vl_lt_iff 0 q
  rw [vl_zero] at h3 h4
  cases s <;> cases t <;> simp only [sg, if_true, Bool.false_eq_true, if_false] <;> omega

theorem mg_scaled (r k : Nat) (h : k ≤ ex r) : mg r * 2 ^ (ex r - k) * 2 ^ k = vl r := by
  unfold vl
  rw [Nat.mul_assoc, ← Nat.pow_add, Nat.sub_add_cancel h]

theorem order_num (s t : Bool) (r q : Nat) :
    Datum.order (.number s (mg r) (-1074 + (ex r : Int))) (.number t (mg q) (-1074 + (ex q : Int))) = some (compare (sg s r) (sg t q)) := by
  unfold Datum.order
  simp only
  have e1 : (-1074 + (ex r : Int) - min (-1074 + (ex r : Int)) (-1074 + (ex q : Int))).toNat = ex r - min (ex r) (ex q) := by omega
  have e2 : (-1074 + (ex q : Int) - min (-1074 + (ex r : Int)) (-1074 + (ex q : Int))).toNat = ex q - min (ex r) (ex q) := by omega
  rw [e1, e2, signed_eq, signed_eq]
  have hp : (0 : Int) < ((2 ^ min (ex r) (ex q) : Nat) : Int) := by exact_mod_cast Nat.two_pow_pos _
  have m1 := mg_scaled r (min (ex r) (ex q)) (Nat.min_le_left _ _)
  have m2 := mg_scaled q (min (ex r) (ex q)) (Nat.min_le_right _ _)
  have hl := sg_vl_lt s t r q
  have he := sg_vl_eq s t r q
  rw [← m1, ← m2, ← sg_mul s (mg r * 2 ^ (ex r - min (ex r) (ex q))), ← sg_mul t (mg q * 2 ^ (ex q - min (ex r) (ex q)))] at hl he
  refine congrArg some (compare_congr ?_ ?_)
  · rw [← hl]; exact (Int.mul_lt_mul_right hp).symm
  · rw [← he]; exact (Int.mul_eq_mul_right_iff (fun h0 => by rw [h0] at hp; exact absurd hp (by decide))).symm

theorem compare_lt {x y : Int} (h : x < y) : compare x y = .lt := by rw [compare_int, if_pos h]
theorem compare_gt {x y : Int} (h : y < x) : compare x y = .gt := by rw [compare_int, if_neg (by omega), if_neg (by omega)]
theorem compare_eq {x y : Int} (h : x = y) : compare x y = .eq := by rw [compare_int, if_neg (by omega), if_pos h]

theorem neg_rung {b : Nat} (h : b < 18446744073709551616) : b = (if neg b then 9223372036854775808 else 0) + rung b := by
  unfold neg rung
  by_cases h1 : 9223372036854775808 ≤ b <;> simp [h1] <;> omega

theorem not_nan {b : Nat} (h : nan b = false) : rung b < 9218868437227405312 ∨ rung b = 9218868437227405312 := by
  have : ¬ 9218868437227405312 < rung b := by simpa [nan] using h
  omega

/-- GO's COMPARISON of two words that are no NaN. -/
theorem order_sv {a b : Nat} (ha : a < 18446744073709551616) (hb : b < 18446744073709551616) (na : nan a = false) (nb : nan b = false) :
    double.order a b = some (compare (sv a) (sv b)) := by
  unfold Format.order sv
  rcases not_nan na with fa | fa <;> rcases not_nan nb with fb | fb
  · rw [read_fin ha fa, read_fin hb fb]; exact order_num _ _ _ _
  · rw [read_fin ha fa, read_inf hb fb, fb]
    cases neg a <;> cases neg b <;> first | (rw [compare_lt (by simp only [sg, if_true, Bool.false_eq_true, if_false]; omega)]; rfl) | (rw [compare_gt (by simp only [sg, if_true, Bool.false_eq_true, if_false]; omega)]; rfl)
  · rw [read_inf ha fa, read_fin hb fb, fa]
    cases neg a <;> cases neg b <;> first | (rw [compare_lt (by simp only [sg, if_true, Bool.false_eq_true, if_false]; omega)]; rfl) | (rw [compare_gt (by simp only [sg, if_true, Bool.false_eq_true, if_false]; omega)]; rfl)
  · rw [read_inf ha fa, read_inf hb fb, fa, fb]
    cases neg a <;> cases neg b <;> decide

theorem order_nan_l {a b : Nat} (ha : a < 18446744073709551616) (na : nan a = true) : double.order a b = none := by
  unfold Format.order
  rw [read_nan ha na]
  cases double.read b <;> rfl
theorem order_nan_r {a b : Nat} (hb : b < 18446744073709551616) (nb : nan b = true) : double.order a b = none := by
  unfold Format.order
  rw [read_nan hb nb]
  cases double.read a <;> rfl

/-- x == x, but for NaN -/
theorem order_self {a : Nat} (ha : a < 18446744073709551616) : (double.order a a == some .eq) = !nan a := by
  cases h : nan a
  · rw [order_sv ha ha h h, compare_int]; simp
  · rw [order_nan_l ha h]; rfl

/-- the place in the order of Less -/
def key (b : Nat) : Int := if nan b then 9223372036854775808 else if neg b then -(rung b : Int) - 1 else rung b

/-- WHAT gauge.Less COMPUTES is the order of the keys. -/
def less (a b : Nat) : Bool :=
  if nan a then false else if nan b then true else if double.order a b == some .eq then neg a && !neg b else double.order a b == some .lt

theorem less_key {a b : Nat} (ha : a < 18446744073709551616) (hb : b < 18446744073709551616) : less a b = decide (key a < key b) := by
  have ra := rung_lt a
  have rb := rung_lt b
  unfold less key
  cases na : nan a
  · cases nb : nan b
    · rw [order_sv ha hb na nb, compare_int]
      simp only [Bool.false_eq_true, if_false]
      unfold sv
      rw [Bool.eq_iff_iff]
      cases neg a <;> cases neg b <;> simp only [sg, if_true, Bool.false_eq_true, if_false, Bool.not_true, Bool.not_false, Bool.and_true, Bool.and_false] <;> (repeat' split) <;> simp_all <;> omega
    · have := not_nan na
      simp only [Bool.false_eq_true, if_false, if_true]
      symm; rw [decide_eq_true_eq]
      split <;> omega
  · have : ¬ (9223372036854775808 : Int) < (if nan b then 9223372036854775808 else if neg b then -(rung b : Int) - 1 else rung b) := by
      split
      · omega
      · split <;> omega
    simp [this]
end Go.Proofs.YtghalbecgiepmaaDoor.flo
