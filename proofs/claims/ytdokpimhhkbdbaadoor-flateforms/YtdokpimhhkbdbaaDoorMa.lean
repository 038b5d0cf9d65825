/-
  Plain mathematics of bytes as one number: 'val', its digits; the digits of an integer from below and from above.
-/
import Derived.WalkKit
set_option linter.unusedSimpArgs false
set_option linter.unusedVariables false
namespace Go.Proofs.YtdokpimhhkbdbaaDoor

/-- The number that bytes are, the lowest byte first. -/
def val : List Nat → Nat
  | [] => 0
  | b :: r => b + 256 * val r

def Small (bs : List Nat) : Prop := ∀ b ∈ bs, b < 256

theorem Small.cons {b : Nat} {r : List Nat} (h : Small (b :: r)) : b < 256 ∧ Small r :=
  ⟨h b (by simp), fun x hx => h x (by simp [hx])⟩

theorem pow8 (n : Nat) : 2 ^ (8 * (n + 1)) = 256 * 2 ^ (8 * n) := by
  rw [Nat.mul_add, Nat.pow_add]; omega

theorem val_lt {bs : List Nat} (h : Small bs) : val bs < 2 ^ (8 * bs.length) := by
  induction bs with
  | nil => simp [val]
  | cons b r ih =>
    have h2 := ih h.cons.2
    have h1 := h.cons.1
    simp only [val, List.length_cons, pow8]
    omega

theorem val_append (a b : List Nat) : val (a ++ b) = val a + 2 ^ (8 * a.length) * val b := by
  induction a with
  | nil => simp [val]
  | cons x r ih =>
    have e : 256 * (2 ^ (8 * r.length) * val b) = 256 * 2 ^ (8 * r.length) * val b := (Nat.mul_assoc _ _ _).symm
    simp only [List.cons_append, val, ih, List.length_cons, pow8]
    omega

theorem val_byte {bs : List Nat} (h : Small bs) (i : Nat) : val bs / 2 ^ (8 * i) % 256 = bs.getD i 0 := by
  induction bs generalizing i with
  | nil => simp [val]
  | cons b r ih =>
    have h1 := h.cons.1
    cases i with
    | zero => simp [val]; omega
    | succ i =>
      rw [pow8, ← Nat.div_div_eq_div_mul]
      have : val (b :: r) / 256 = val r := by simp only [val]; omega
      rw [this, ih h.cons.2]
      simp

theorem mod_div_pow (x a b : Nat) (hab : a ≤ b) : x % 2 ^ b / 2 ^ a = x / 2 ^ a % 2 ^ (b - a) := by
  obtain ⟨c, rfl⟩ : ∃ c, b = a + c := ⟨b - a, by omega⟩
  rw [Nat.add_sub_cancel_left, Nat.pow_add, Nat.mod_mul_right_div_self]

theorem val_bit {bs : List Nat} (h : Small bs) (i : Nat) : val bs / 2 ^ i % 2 = bs.getD (i / 8) 0 / 2 ^ (i % 8) % 2 := by
  rw [← val_byte h]
  have e : i = 8 * (i / 8) + i % 8 := by omega
  have hlt : i % 8 < 8 := Nat.mod_lt _ (by omega)
  generalize hq : i / 8 = q at *
  generalize hr : i % 8 = r at *
  rw [show (256 : Nat) = 2 ^ 8 from rfl, mod_div_pow _ _ _ (by omega), Nat.div_div_eq_div_mul, ← Nat.pow_add, ← e]
  rw [Nat.mod_mod_of_dvd]
  exact ⟨2 ^ (8 - r - 1), by rw [← Nat.pow_succ']; congr 1; omega⟩

/-- The digit of an integer at a place (two's complement). -/
def dig (n : Int) (k : Nat) : Nat := (n / 2 ^ k % 2).toNat
/-- Its lowest k digits. -/
def low (n : Int) (k : Nat) : Nat := (n % 2 ^ k).toNat

theorem dig_lt (n : Int) (k : Nat) : dig n k < 2 := by unfold dig; omega

theorem low_zero (n : Int) : low n 0 = 0 := by simp [low, Int.emod_one]

theorem ipow_pos (k : Nat) : (0 : Int) < 2 ^ k := Int.pow_pos (by decide)

theorem low_cast (n : Int) (k : Nat) : (low n k : Int) = n % 2 ^ k := by
  unfold low
  exact Int.toNat_of_nonneg (Int.emod_nonneg _ (by have := ipow_pos k; omega))

theorem dig_cast (n : Int) (k : Nat) : (dig n k : Int) = n / 2 ^ k % 2 := by unfold dig; omega

theorem low_lt (n : Int) (k : Nat) : low n k < 2 ^ k := by
  have h := Int.emod_lt_of_pos n (ipow_pos k)
  rw [← low_cast] at h
  have e : ((2 ^ k : Nat) : Int) = 2 ^ k := by simp
  rw [← e] at h
  exact_mod_cast h

theorem low_succ (n : Int) (k : Nat) : low n (k + 1) = low n k + dig n k * 2 ^ k := by
  have h : ((low n (k + 1) : Nat) : Int) = ((low n k + dig n k * 2 ^ k : Nat) : Int) := by
    rw [low_cast]
    push_cast
    rw [low_cast, dig_cast, Int.pow_succ]
    have h1 := Int.emod_add_mul_ediv n (2 ^ k)
    have h2 := Int.emod_add_mul_ediv (n / 2 ^ k) 2
    have h3 : n / 2 ^ k / 2 = n / (2 ^ k * 2) := Int.ediv_ediv_of_nonneg (by have := ipow_pos k; omega)
    have h4 := Int.emod_add_mul_ediv n (2 ^ k * 2)
    rw [h3] at h2
    generalize n / (2 ^ k * 2) = q at *
    generalize n / 2 ^ k = p at *
    generalize (2 : Int) ^ k = P at *
    have : P * p = P * (p % 2) + P * 2 * q := by rw [Int.mul_assoc, ← Int.mul_add, h2]
    have e : p % 2 * P = P * (p % 2) := Int.mul_comm _ _
    omega
  exact_mod_cast h

/-- What is written of the digits of n, the highest of c first, behind j of them. -/
def rev (n : Int) (c : Nat) : Nat → Nat
  | 0 => 0
  | j + 1 => rev n c j + dig n (c - 1 - j) * 2 ^ j

theorem rev_lt (n : Int) (c j : Nat) : rev n c j < 2 ^ j := by
  induction j with
  | zero => simp [rev]
  | succ j ih =>
    simp only [rev, Nat.pow_succ]
    have := dig_lt n (c - 1 - j)
    rcases (show dig n (c - 1 - j) = 0 ∨ dig n (c - 1 - j) = 1 by omega) with h | h <;> rw [h] <;> omega

theorem rev_bit (n : Int) (c j k : Nat) (hk : k < j) : rev n c j / 2 ^ k % 2 = dig n (c - 1 - k) := by
  induction j with
  | zero => omega
  | succ j ih =>
    simp only [rev]
    by_cases h : k = j
    · subst h
      have h1 := rev_lt n c k
      have h2 := dig_lt n (c - 1 - k)
      have hp : 0 < 2 ^ k := Nat.pow_pos (by decide)
      rw [Nat.add_mul_div_right _ _ hp, Nat.div_eq_of_lt h1]
      omega
    · have e : dig n (c - 1 - j) * 2 ^ j = 2 ^ k * (2 * (dig n (c - 1 - j) * 2 ^ (j - k - 1))) := by
        have : 2 ^ j = 2 ^ k * (2 * 2 ^ (j - k - 1)) := by
          rw [← Nat.pow_succ', ← Nat.pow_add]; congr 1; omega
        rw [this]
        simp only [Nat.mul_left_comm, Nat.mul_comm, Nat.mul_assoc]
      have hp : 0 < 2 ^ k := Nat.pow_pos (by decide)
      rw [e, Nat.add_mul_div_left _ _ hp, ← ih (by omega)]
      omega

theorem dig_low (n : Int) (c k : Nat) (hk : k < c) : low n c / 2 ^ k % 2 = dig n k := by
  induction c with
  | zero => omega
  | succ c ih =>
    rw [low_succ]
    by_cases h : k = c
    · subst h
      have h1 := low_lt n k
      have h2 := dig_lt n k
      have hp : 0 < 2 ^ k := Nat.pow_pos (by decide)
      rw [Nat.add_mul_div_right _ _ hp, Nat.div_eq_of_lt h1]
      omega
    · have e : dig n c * 2 ^ c = 2 ^ k * (2 * (dig n c * 2 ^ (c - k - 1))) := by
        have : 2 ^ c = 2 ^ k * (2 * 2 ^ (c - k - 1)) := by
          rw [← Nat.pow_succ', ← Nat.pow_add]; congr 1; omega
        rw [this]
        simp only [Nat.mul_left_comm, Nat.mul_comm, Nat.mul_assoc]
      have hp : 0 < 2 ^ k := Nat.pow_pos (by decide)
      rw [e, Nat.add_mul_div_left _ _ hp, ← ih (by omega)]
      omega

end Go.Proofs.YtdokpimhhkbdbaaDoor
