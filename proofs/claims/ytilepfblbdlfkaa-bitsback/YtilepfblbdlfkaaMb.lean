/-
  Plain mathematics of BitsBack: what is written round by round, and what is read of it.
-/
import Derived.Test.YtilepfblbdlfkaaMa
set_option linter.unusedSimpArgs false
set_option linter.unusedVariables false
namespace Go.Proofs.Ytilepfblbdlfkaa

/-- How many digits are written behind i rounds. -/
def tot (c : Nat → Nat) : Nat → Nat
  | 0 => 0
  | i + 1 => tot c i + 2 * c i

/-- The number that they are. -/
def num (a c : Nat → Nat) : Nat → Nat
  | 0 => 0
  | i + 1 => num a c i + low (a i) (c i) * 2 ^ tot c i + rev (a i) (c i) (c i) * 2 ^ (tot c i + c i)

variable {a c : Nat → Nat}

theorem join_lt {x y s t : Nat} (hx : x < 2 ^ s) (hy : y < 2 ^ t) : x + y * 2 ^ s < 2 ^ (s + t) := by
  rw [Nat.pow_add]
  have h1 : y + 1 ≤ 2 ^ t := hy
  have h2 : (y + 1) * 2 ^ s ≤ 2 ^ t * 2 ^ s := Nat.mul_le_mul_right _ h1
  rw [Nat.add_mul, Nat.one_mul] at h2
  rw [Nat.mul_comm (2 ^ s)]
  omega

theorem num_lt (i : Nat) : num a c i < 2 ^ tot c i := by
  induction i with
  | zero => simp [num, tot]
  | succ i ih =>
    simp only [num, tot]
    have h1 := join_lt ih (low_lt (a i) (c i))
    have h2 := join_lt h1 (rev_lt (a i) (c i) (c i))
    rw [show tot c i + 2 * c i = tot c i + c i + c i by omega]
    exact h2

theorem tot_mono {i j : Nat} (h : i ≤ j) : tot c i ≤ tot c j := by
  induction j with
  | zero => obtain rfl : i = 0 := by omega
            exact Nat.le_refl _
  | succ j ih =>
    rcases (show i ≤ j ∨ i = j + 1 by omega) with h' | rfl
    · have := ih h'
      simp only [tot]
      omega
    · exact Nat.le_refl _

theorem tot_le {k : Nat} (h : ∀ j, c j ≤ 16) : tot c k ≤ 32 * k := by
  induction k with
  | zero => simp [tot]
  | succ k ih => have := h k; simp only [tot]; omega

theorem join_mod {x y s t : Nat} (hx : x < 2 ^ s) (hst : t ≤ s) : (x + y * 2 ^ s) % 2 ^ t = x % 2 ^ t := by
  obtain ⟨u, rfl⟩ : ∃ u, s = t + u := ⟨s - t, by omega⟩
  rw [Nat.pow_add, ← Nat.mul_assoc, Nat.mul_comm y, Nat.mul_assoc, Nat.add_mul_mod_self_left]

/-- The digits of the rounds before stay as they are. -/
theorem num_mod {i j : Nat} (h : i ≤ j) : num a c j % 2 ^ tot c i = num a c i := by
  induction j with
  | zero =>
    obtain rfl : i = 0 := by omega
    simp [num]
  | succ j ih =>
    rcases (show i ≤ j ∨ i = j + 1 by omega) with h' | rfl
    · have h1 := join_lt (num_lt (a := a) (c := c) j) (low_lt (a j) (c j))
      have h2 := tot_mono h' (c := c)
      simp only [num]
      rw [join_mod h1 (by omega), join_mod (num_lt j) h2, ih h']
    · exact Nat.mod_eq_of_lt (num_lt _)

/-- What Get reads behind i rounds. -/
theorem read_low {i n : Nat} (h : i < n) : num a c n / 2 ^ tot c i % 2 ^ c i = low (a i) (c i) := by
  have h1 := num_mod (show i + 1 ≤ n from h) (a := a) (c := c)
  have h2 : num a c n % 2 ^ (tot c i + c i) = num a c i + low (a i) (c i) * 2 ^ tot c i := by
    have e : num a c n % 2 ^ (tot c i + c i) = num a c n % 2 ^ tot c (i + 1) % 2 ^ (tot c i + c i) := by
      rw [Nat.mod_mod_of_dvd]
      exact Nat.pow_dvd_pow 2 (by simp only [tot]; omega)
    rw [e, h1]
    simp only [num]
    have h3 := join_lt (num_lt (a := a) (c := c) i) (low_lt (a i) (c i))
    rw [join_mod h3 (Nat.le_refl _), Nat.mod_eq_of_lt h3]
  have h4 := mod_div_pow (num a c n) (tot c i) (tot c i + c i) (by omega)
  rw [Nat.add_sub_cancel_left] at h4
  rw [← h4, h2, Nat.add_mul_div_right _ _ (Nat.pow_pos (by decide)), Nat.div_eq_of_lt (num_lt i), Nat.zero_add]

/-- What Bit reads of a code's digits. -/
theorem read_bit {i n k : Nat} (h : i < n) (hk : k < c i) : num a c n / 2 ^ (tot c i + c i + k) % 2 = dig (a i) (c i - 1 - k) := by
  have h1 := num_mod (show i + 1 ≤ n from h) (a := a) (c := c)
  have h3 := join_lt (num_lt (a := a) (c := c) i) (low_lt (a i) (c i))
  have h4 := mod_div_pow (num a c n) (tot c i + c i + k) (tot c (i + 1)) (by simp only [tot]; omega)
  have h5 : num a c n / 2 ^ (tot c i + c i + k) % 2 = (num a c n % 2 ^ tot c (i + 1)) / 2 ^ (tot c i + c i + k) % 2 := by
    rw [h4, Nat.mod_mod_of_dvd]
    exact ⟨2 ^ (tot c (i + 1) - (tot c i + c i + k) - 1), by rw [← Nat.pow_succ']; congr 1; simp only [tot]; omega⟩
  rw [h5, h1]
  simp only [num]
  rw [Nat.pow_add 2 (tot c i + c i) k, ← Nat.div_div_eq_div_mul, Nat.add_mul_div_right _ _ (Nat.pow_pos (by decide)), Nat.div_eq_of_lt h3, Nat.zero_add]
  exact rev_bit _ _ _ _ hk

/-- A code, digit by digit from above. -/
theorem code_step (n : Int) (c k : Nat) (hk : k < c) : 2 * (low n c / 2 ^ (c - k)) + dig n (c - 1 - k) = low n c / 2 ^ (c - (k + 1)) := by
  rw [← dig_low n c (c - 1 - k) (by omega)]
  have e : 2 ^ (c - k) = 2 ^ (c - (k + 1)) * 2 := by rw [← Nat.pow_succ]; congr 1; omega
  rw [e, ← Nat.div_div_eq_div_mul, show c - 1 - k = c - (k + 1) by omega]
  omega

theorem code_lt (n : Int) (c k : Nat) (hc : c ≤ 16) : low n c / 2 ^ (c - k) < 65536 :=
  Nat.lt_of_le_of_lt (Nat.div_le_self _ _) (Nat.lt_of_lt_of_le (low_lt n c) (Nat.pow_le_pow_right (by decide) hc : 2 ^ c ≤ 2 ^ 16))

theorem low_nat (x c : Nat) : low x c = x % 2 ^ c := by
  unfold low
  have : ((x : Int) % 2 ^ c) = ((x % 2 ^ c : Nat) : Int) := by push_cast; rfl
  rw [this]
  rfl

end Go.Proofs.Ytilepfblbdlfkaa
