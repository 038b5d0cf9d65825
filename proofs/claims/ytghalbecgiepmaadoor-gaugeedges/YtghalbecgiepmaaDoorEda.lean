/-
  What gauge tells at the edges: the order of the seven of the statement on edges, their texts.
-/
import Derived.Test.YtghalbecgiepmaaDoorTxa
import Derived.Test.YtghalbecgiepmaaDoorWke
namespace Go.Proofs.YtghalbecgiepmaaDoor.wk
open Go.Proofs.YtghalbecgiepmaaDoor.flo Go.RowKit

/-- the seven, in their order -/
def seven (x2 x1 : Nat) : Nat → Nat
  | 0 => 18442240474082181120
  | 1 => x2
  | 2 => 9223372036854775808
  | 3 => 0
  | 4 => x1
  | 5 => 9218868437227405312
  | _ => 9221120237041090561

/-- a number above nought, and its like below -/
structure Pair (x2 x1 : Nat) : Prop where
  l1 : x1 < 18446744073709551616
  l2 : x2 < 18446744073709551616
  n1 : neg x1 = false
  n2 : neg x2 = true
  p1 : 0 < rung x1
  p2 : 0 < rung x2
  f1 : rung x1 < 9218868437227405312
  f2 : rung x2 < 9218868437227405312

theorem pair_of (N : Nat) (h0 : 0 < N) (h : N ≤ 1000) : Pair (share (-(N : Int)) 1) (share N 1) := by
  have a1 := share_quo N 0 (by omega) (by omega)
  have a2 := share_quo (-(N : Int)) 0 (by omega) (by omega)
  rw [show ((2 ^ 0 : Nat) : Int) = 1 from rfl] at a1 a2
  obtain ⟨x, b1, b2, b3, b4, b5, _⟩ := quo_exact N 0 (by omega) (by omega) (by omega)
  obtain ⟨y, c1, c2, c3, c4, c5, _⟩ := quo_exact (-(N : Int)) 0 (by omega) (by omega) (by omega)
  rw [show ((2 ^ 0 : Nat) : Int) = 1 from rfl] at b1 c1
  rw [a1] at b1
  rw [a2] at c1
  obtain rfl := Option.some.inj b1
  obtain rfl := Option.some.inj c1
  have hU := U_pos
  have pos : ∀ r a : Nat, vl r * 2 ^ 0 = a * U → 0 < a → 0 < r := by
    intro r a e ha
    rcases Nat.eq_zero_or_pos r with hr | hr
    · exfalso
      rw [hr, vl_zero, Nat.zero_mul] at e
      have : 0 < a * U := Nat.mul_pos ha hU
      omega
    · exact hr
  exact ⟨b2, c2, by rw [b3, decide_eq_false_iff_not]; omega, by rw [c3, decide_eq_true_eq]; omega, pos _ _ b5 (by omega), pos _ _ c5 (by omega), b4, c4⟩

theorem seven_lt {x2 x1 : Nat} (h : Pair x2 x1) (i : Nat) : seven x2 x1 i < 18446744073709551616 := by
  have := h.l1
  have := h.l2
  unfold seven
  split <;> omega

/-- the keys of the seven rise -/
theorem seven_key {x2 x1 : Nat} (h : Pair x2 x1) (i j : Nat) (hi : i < 7) (hj : j < 7) : less (seven x2 x1 i) (seven x2 x1 j) = decide (i < j) := by
  rw [less_key (seven_lt h i) (seven_lt h j), decide_eq_decide]
  have p1 := h.p1
  have p2 := h.p2
  have f1 := h.f1
  have f2 := h.f2
  have k0 : key 18442240474082181120 = -9218868437227405313 := by decide
  have k1 : key x2 = -(rung x2 : Int) - 1 := by unfold key nan; rw [if_neg (by rw [decide_eq_true_eq]; omega), h.n2, if_pos rfl]
  have k2 : key 9223372036854775808 = -1 := by decide
  have k3 : key 0 = 0 := by decide
  have k4 : key x1 = rung x1 := by unfold key nan; rw [if_neg (by rw [decide_eq_true_eq]; omega), h.n1, if_neg (by decide)]
  have k5 : key 9218868437227405312 = 9218868437227405312 := by decide
  have k6 : key 9221120237041090561 = 9223372036854775808 := by decide
  have hi' : i = 0 ∨ i = 1 ∨ i = 2 ∨ i = 3 ∨ i = 4 ∨ i = 5 ∨ i = 6 := by omega
  have hj' : j = 0 ∨ j = 1 ∨ j = 2 ∨ j = 3 ∨ j = 4 ∨ j = 5 ∨ j = 6 := by omega
  rcases hi' with rfl | rfl | rfl | rfl | rfl | rfl | rfl <;> rcases hj' with rfl | rfl | rfl | rfl | rfl | rfl | rfl <;> simp only [seven, k0, k1, k2, k3, k4, k5, k6] <;> omega

theorem seven_nan {x2 x1 : Nat} (h : Pair x2 x1) (i : Nat) (hi : i < 7) : nan (seven x2 x1 i) = decide (i = 6) := by
  have f1 := h.f1
  have f2 := h.f2
  have a1 : nan x1 = false := by unfold nan; rw [decide_eq_false_iff_not]; omega
  have a2 : nan x2 = false := by unfold nan; rw [decide_eq_false_iff_not]; omega
  have hi' : i = 0 ∨ i = 1 ∨ i = 2 ∨ i = 3 ∨ i = 4 ∨ i = 5 ∨ i = 6 := by omega
  rcases hi' with rfl | rfl | rfl | rfl | rfl | rfl | rfl <;> simp only [seven, a1, a2] <;> decide

theorem best_seven {x2 x1 : Nat} (h : Pair x2 x1) : best (seven x2 x1) 7 = 5 := by
  have hn := seven_nan h
  have hl := seven_key h
  have b1 : best (seven x2 x1) 1 = 0 := by
    have b0 : best (seven x2 x1) 0 = -1 := rfl
    rw [best, hn 0 (by decide), if_neg (by decide), b0, if_pos (by decide)]; rfl
  have step : ∀ k, k + 2 ≤ 6 → best (seven x2 x1) (k + 1) = k → best (seven x2 x1) (k + 2) = (k + 1 : Nat) := by
    intro k hk e
    rw [best, hn (k + 1) (by omega), show decide (k + 1 = 6) = false from by rw [decide_eq_false_iff_not]; omega, if_neg (by decide), e, if_neg (by omega), Int.toNat_natCast, hl k (k + 1) (by omega) (by omega), if_pos (by rw [decide_eq_true_eq]; omega)]
  have b2 := step 0 (by decide) b1
  have b3 := step 1 (by decide) b2
  have b4 := step 2 (by decide) b3
  have b5 := step 3 (by decide) b4
  have b6 := step 4 (by decide) b5
  rw [best, hn 6 (by decide), if_pos (by decide)]
  exact b6

theorem cent_zero : cent 0 = ⟨#[48, 46, 48, 48]⟩ := by
  unfold cent
  rw [show (0 : Int) / 100 = ((0 : Nat) : Int) from rfl, show (0 : Int) % 100 / 10 = ((0 : Nat) : Int) from rfl, show (0 : Int) % 10 = ((0 : Nat) : Int) from rfl, dec_small 0 (by decide)]
  decide
theorem uns_zero : uns 0 = ⟨#[48, 46, 48, 48]⟩ := by
  unfold uns
  rw [if_neg (by decide), if_neg (by decide), show ones (mul100 0) = 0 from by decide +kernel]
  exact cent_zero
theorem text_0 : text 18442240474082181120 = ⟨#[45, 101, 110, 100, 108, 101, 115, 115]⟩ := by
  unfold text uns
  rw [if_neg (by decide), if_pos (by decide), if_pos (by decide)]; decide
theorem text_2 : text 9223372036854775808 = ⟨#[45, 48, 46, 48, 48]⟩ := by
  unfold text
  rw [if_neg (by decide), if_pos (by decide), show rung 9223372036854775808 = 0 from by decide, uns_zero]; decide
theorem text_3 : text 0 = ⟨#[48, 46, 48, 48]⟩ := by
  unfold text
  rw [if_neg (by decide), if_neg (by decide), uns_zero]
theorem text_5 : text 9218868437227405312 = ⟨#[101, 110, 100, 108, 101, 115, 115]⟩ := by
  unfold text uns
  rw [if_neg (by decide), if_neg (by decide), if_pos (by decide)]
theorem text_6 : text 9221120237041090561 = ⟨#[110, 111, 110, 101]⟩ := by
  unfold text
  rw [if_pos (by decide)]
theorem text_big : text 4831355200913801216 = ⟨#[98, 105, 103]⟩ := by
  unfold text uns
  rw [if_neg (by decide), if_neg (by decide), if_neg (by decide), if_pos (by decide)]
theorem text_nbig : text 14054727237768577024 = ⟨#[45, 98, 105, 103]⟩ := by
  unfold text uns
  rw [if_neg (by decide), if_pos (by decide), if_neg (by decide), if_pos (by decide)]; decide
theorem dec_far : dec 1099511627776 = ⟨#[49, 48, 57, 57, 53, 49, 49, 54, 50, 55, 55, 55, 54]⟩ := by
  unfold dec
  rw [show (1099511627776 : Int).toNat = 1099511627776 from rfl]
  simp [Lib.decDigits]
theorem text_far : text (share 1099511627776 1) = ⟨#[49, 48, 57, 57, 53, 49, 49, 54, 50, 55, 55, 55, 54, 46, 48, 48]⟩ := by
  rw [show share 1099511627776 1 = 4787326403894837248 from by decide +kernel]
  unfold text uns
  rw [if_neg (by decide), if_neg (by decide), if_neg (by decide), if_neg (by decide), show ones (mul100 4787326403894837248) = 109951162777600 from by decide +kernel]
  unfold cent
  rw [show ((109951162777600 : Nat) : Int) / 100 = 1099511627776 from rfl, show ((109951162777600 : Nat) : Int) % 100 / 10 = ((0 : Nat) : Int) from rfl, show ((109951162777600 : Nat) : Int) % 10 = ((0 : Nat) : Int) from rfl, dec_small 0 (by decide), dec_far]
  decide

theorem zeros (N : Nat) (h0 : 0 < N) (h : N ≤ 1000) : share 0 N = 0 ∧ share 0 (-(N : Int)) = 9223372036854775808 := by
  have all : ∀ i : Nat, i < 1000 → share 0 ((i + 1 : Nat) : Int) = 0 ∧ share 0 (-((i + 1 : Nat) : Int)) = 9223372036854775808 := by decide +kernel
  obtain ⟨i, rfl⟩ : ∃ i, N = i + 1 := ⟨N - 1, by omega⟩
  exact all i (by omega)
theorem share_up (N : Nat) (h0 : 0 < N) (h : N ≤ 1000) : share N 0 = 9218868437227405312 ∧ share (-(N : Int)) 0 = 18442240474082181120 := by
  have i1 : inB (N : Int) = true := inB_small (by omega)
  have i2 : inB (-(N : Int)) = true := inB_small (by omega)
  unfold share nothing
  rw [i1, i2, show inB 0 = true from by decide]
  simp only [Bool.and_self, if_true]
  rw [if_pos (by omega), if_neg (by omega), if_pos (by omega)]
  exact ⟨rfl, rfl⟩
theorem share_over (N : Nat) (h0 : 0 < N) (h : N ≤ 1000) : share (1099511627776 + (N : Int)) 1 = 9221120237041090561 := by
  have i1 : inB (1099511627776 + (N : Int)) = false := by unfold inB; rw [decide_eq_false_iff_not]; omega
  unfold share
  rw [i1]; rfl
theorem share_00 : share 0 0 = 9221120237041090561 := by decide +kernel
/-- a list by its places -/
def four : Nat → Nat | 0 => 9221120237041090561 | 1 => 9223372036854775808 | 2 => 0 | _ => 9223372036854775808
def two : Nat → Nat | 0 => 18442240474082181120 | _ => 9221120237041090561
theorem best_four : best four 4 = 2 := by decide +kernel
theorem best_two : best two 2 = 0 := by decide +kernel
end Go.Proofs.YtghalbecgiepmaaDoor.wk
