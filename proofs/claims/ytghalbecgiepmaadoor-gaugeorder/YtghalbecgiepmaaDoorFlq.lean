/-
  Plain mathematics of float64's words: whole numbers as floats, quotients of them, a word cut down to a whole number.
-/
import Derived.Test.YtghalbecgiepmaaDoorFlp
namespace Go.Proofs.YtghalbecgiepmaaDoor.flo
open Ieee

def lo : Nat := 1074
theorem lo_eq : lo = 1074 := rfl
/-- one, in units of the least place -/
def U : Nat := 2 ^ lo
theorem U_def : U = 2 ^ lo := by unfold U; rfl
theorem U_pos : 0 < U := by rw [U_def]; exact Nat.two_pow_pos lo
theorem U_split (k : Nat) (h : k ≤ lo) : 2 ^ (lo - k) * 2 ^ k = U := by
  rw [← Nat.pow_add, Nat.sub_add_cancel h, U_def]
theorem U_over (k : Nat) (h : lo ≤ k) : 2 ^ k = 2 ^ (k - lo) * U := by
  rw [U_def, ← Nat.pow_add, Nat.sub_add_cancel h]

theorem mg_lt (r : Nat) : mg r < 9007199254740992 := by
  unfold mg; split <;> omega
theorem mg_zero {r : Nat} : mg r = 0 ↔ r = 0 := by
  unfold mg; split <;> omega
theorem vl_pos {r : Nat} (h : 0 < r) : 0 < vl r := by
  have := vl_lt h; rw [vl_zero] at this; exact this

theorem cut_down (n d : Nat) (way : Toward) (hw : way = .down ∨ way = .zero) : way.cut false n d = n / 2 ^ d := by
  have hlow : n / (1 <<< min d (n.log2 + 2)) = n / 2 ^ d := by
    rw [Nat.shiftLeft_eq, Nat.one_mul]
    rcases Nat.le_total d (n.log2 + 2) with h | h
    · rw [Nat.min_eq_left h]
    · rw [Nat.min_eq_right h]
      have h1 : n < 2 ^ (n.log2 + 1) := Nat.lt_log2_self
      have h2 : 2 ^ (n.log2 + 1) ≤ 2 ^ (n.log2 + 2) := Nat.pow_le_pow_right (by decide) (by omega)
      have h3 : 2 ^ (n.log2 + 2) ≤ 2 ^ d := Nat.pow_le_pow_right (by decide) h
      rw [Nat.div_eq_of_lt (by omega), Nat.div_eq_of_lt (by omega)]
  unfold Toward.cut
  rcases hw with rfl | rfl <;> simp [hlow]

theorem integral_eq (r : Nat) (way : Toward) (hw : way = .down ∨ way = .zero) :
    Datum.integral way (.number false (mg r) (-1074 + (ex r : Int))) = .number false (vl r / U) 0 := by
  unfold Datum.integral
  simp only
  rw [cut_down _ _ way hw]
  congr 1
  rw [Nat.shiftLeft_eq]
  unfold vl
  have hlo := lo_eq
  rcases Nat.le_total lo (ex r) with h | h
  · have e1 : (-(-1074 + (ex r : Int))).toNat = 0 := by omega
    have e2 : (-1074 + (ex r : Int)).toNat = ex r - lo := by omega
    rw [e1, e2, Nat.pow_zero, Nat.div_one]
    rw [U_over _ h, ← Nat.mul_assoc, Nat.mul_div_cancel _ U_pos]
  · have e1 : (-(-1074 + (ex r : Int))).toNat = lo - ex r := by omega
    have e2 : (-1074 + (ex r : Int)).toNat = 0 := by omega
    rw [e1, e2, Nat.pow_zero, Nat.mul_one, ← U_split (ex r) h, Nat.mul_div_mul_right _ _ (Nat.two_pow_pos _)]

theorem toInt_eq (r : Nat) : Datum.toInt .zero (.number false (mg r) (-1074 + (ex r : Int))) = some ((vl r / U : Nat) : Int) := by
  unfold Datum.toInt
  rw [integral_eq r .zero (Or.inr rfl)]
  simp [signed]

/-- how many ones a word holds -/
def ones (b : Nat) : Nat := vl (rung b) / U

/-- the word of a whole number that came of a word -/
theorem whole_exact (r : Nat) (h : ex r ≤ 2044) : ∃ q, double.nearest false (vl r / U) 0 = q ∧ q < 9218868437227405312 ∧ vl q = vl r / U * U := by
  by_cases h0 : vl r / U = 0
  · refine ⟨0, ?_, by decide, by rw [h0, vl_zero, Nat.zero_mul]⟩
    rw [h0]; rfl
  · have hn := nearest_exact false (vl r / U) lo
    rw [show (-1074 + ((lo : Nat) : Int)) = 0 from by rw [lo_eq]; rfl, ← U_def] at hn
    have go : ∀ m e : Nat, vl r / U * U = m * 2 ^ e → m < 9007199254740992 → e ≤ 2044 → ∃ q, double.nearest false (vl r / U) 0 = q ∧ q < 9218868437227405312 ∧ vl q = vl r / U * U := by
      intro m e h1 h2 h3
      obtain ⟨w1, w2, w3, w4⟩ := hn m e (Nat.pos_of_ne_zero h0) h1 h2 h3
      have hr := neg_rung w1
      rw [w2] at hr
      simp only [Bool.false_eq_true, if_false, Nat.zero_add] at hr
      refine ⟨_, rfl, by rw [hr]; exact w3, ?_⟩
      rw [hr, w4, h1]
    have hlo := lo_eq
    rcases Nat.le_total lo (ex r) with h' | h'
    · refine go (mg r) (ex r) ?_ (mg_lt r) h
      unfold vl
      rw [U_over _ h', ← Nat.mul_assoc, Nat.mul_div_cancel _ U_pos]
    · refine go (vl r / U) lo (by rw [U_def]) ?_ (by decide)
      have h1 : vl r / U = mg r / 2 ^ (lo - ex r) := by
        unfold vl; rw [← U_split (ex r) h', Nat.mul_div_mul_right _ _ (Nat.two_pow_pos _)]
      rw [h1]
      exact Nat.lt_of_le_of_lt (Nat.div_le_self _ _) (mg_lt r)

/-- FLOOR, then to an integer: the ones. -/
theorem floor_int {b : Nat} (hb : b < 18446744073709551616) (hn : neg b = false) (hf : rung b < 9218868437227405312) (he : ex (rung b) ≤ 2044) :
    ∃ z, FloatKind.f64.encode ((FloatKind.f64.decode b).integral .down) = z ∧ (∃ s m e, FloatKind.f64.decode b = .number s m e) ∧ (FloatKind.f64.decode z).toInt .zero = some ((ones b : Nat) : Int) := by
  have hr : FloatKind.f64.decode b = .number false (mg (rung b)) (-1074 + (ex (rung b) : Int)) := by
    rw [← hn]; exact read_fin hb hf
  rw [hr, integral_eq _ .down (Or.inl rfl)]
  obtain ⟨q, hq, hq2, hq3⟩ := whole_exact (rung b) he
  refine ⟨q, hq, ⟨_, _, _, rfl⟩, ?_⟩
  have hrq : rung q = q := by unfold rung; omega
  have hnq : neg q = false := by unfold neg; rw [decide_eq_false_iff_not]; omega
  have hd : FloatKind.f64.decode q = .number false (mg q) (-1074 + (ex q : Int)) := by
    have := read_fin (b := q) (by omega) (by rw [hrq]; exact hq2)
    rw [hrq, hnq] at this
    exact this
  rw [hd, toInt_eq, hq3, Nat.mul_div_cancel _ U_pos]
  rfl

/-- whole numbers as floats -/
theorem ofInt_facts (n : Int) (h : n.natAbs < 9007199254740992) :
    floatOfInt .f64 n < 18446744073709551616 ∧ neg (floatOfInt .f64 n) = decide (n < 0) ∧ rung (floatOfInt .f64 n) < 9218868437227405312 ∧ vl (rung (floatOfInt .f64 n)) = n.natAbs * U := by
  have e : floatOfInt .f64 n = double.nearest (decide (n < 0)) n.natAbs 0 := rfl
  by_cases h0 : n = 0
  · subst h0
    rw [show floatOfInt .f64 0 = 0 from by decide +kernel]
    refine ⟨by decide, by decide, by decide, ?_⟩
    rw [show rung 0 = 0 from rfl, vl_zero]; simp
  · have hn := nearest_exact (decide (n < 0)) n.natAbs lo n.natAbs lo (by omega) rfl h (by decide)
    rw [show (-1074 + ((lo : Nat) : Int)) = 0 from by rw [lo_eq]; rfl, ← U_def] at hn
    rw [e]
    exact hn

theorem quotient_some {s t : Bool} {m n : Nat} {i j : Int} (h : n ≠ 0) : (Datum.quotient 54 (.number s m i) (.number t n j)).isSome = true := by
  unfold Datum.quotient
  simp [h]

theorem read_ofInt (n : Int) (h : n.natAbs < 9007199254740992) :
    double.read (floatOfInt .f64 n) = .number (decide (n < 0)) (mg (rung (floatOfInt .f64 n))) (-1074 + (ex (rung (floatOfInt .f64 n)) : Int)) := by
  obtain ⟨w1, w2, w3, _⟩ := ofInt_facts n h
  rw [read_fin w1 w3, w2]

theorem mg_ofInt (n : Int) (h : n.natAbs < 9007199254740992) (h0 : n ≠ 0) : mg (rung (floatOfInt .f64 n)) ≠ 0 := by
  obtain ⟨_, _, _, w4⟩ := ofInt_facts n h
  intro hz
  rw [mg_zero] at hz
  rw [hz, vl_zero] at w4
  have : 0 < n.natAbs * U := Nat.mul_pos (by omega) U_pos
  omega

/-- a quotient of whole numbers by one that is not nought is told -/
theorem quo_some (p q : Int) (hp : p.natAbs < 9007199254740992) (hq : q.natAbs < 9007199254740992) (h0 : q ≠ 0) :
    (floatBits .quo .f64 (floatOfInt .f64 p) (floatOfInt .f64 q)).isSome = true := by
  show (double.div _ _).isSome = true
  unfold Format.div
  rw [read_ofInt p hp, read_ofInt q hq, Option.isSome_map]
  exact quotient_some (mg_ofInt q hq h0)
end Go.Proofs.YtghalbecgiepmaaDoor.flo
