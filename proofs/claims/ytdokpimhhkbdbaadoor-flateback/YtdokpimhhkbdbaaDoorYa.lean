/-
  What Unpack answers to what Fixed writes: digits of pieces, signs that are found or not, all steps of a block; whole, cut, with a byte more.
-/
import Derived.Test.YtdokpimhhkbdbaaDoorXh
set_option linter.unusedSimpArgs false
set_option linter.unusedVariables false
namespace Go.Proofs.YtdokpimhhkbdbaaDoor
open Go.RowKit

/-- The number of some pieces. -/
def num (R : List (Nat × Nat)) : Nat := (R.foldl wadd (0, 0)).1

theorem fold_num (R : List (Nat × Nat)) : ∀ S : Nat × Nat, (R.foldl wadd S).1 = S.1 + num R * 2 ^ S.2 := by
  induction R with
  | nil => intro S; simp [num]
  | cons x R ih =>
    intro S
    have e : num (x :: R) = x.1 + num R * 2 ^ x.2 := by
      show (R.foldl wadd (wadd (0, 0) x)).1 = _
      rw [ih]
      simp [wadd]
    rw [List.foldl_cons, ih, e]
    simp only [wadd]
    rw [Nat.pow_add, Nat.add_mul, Nat.add_assoc, Nat.mul_assoc, Nat.mul_comm (2 ^ x.2)]

theorem num_cons (x : Nat × Nat) (R : List (Nat × Nat)) : num (x :: R) = x.1 + num R * 2 ^ x.2 := by
  show (R.foldl wadd (wadd (0, 0) x)).1 = _
  rw [fold_num]
  simp [wadd]

theorem wid_cons (x : Nat × Nat) (R : List (Nat × Nat)) : wid (x :: R) = x.2 + wid R := by simp [wid]
theorem wid_nil : wid [] = 0 := rfl

/-- At P the digits of y are those of the pieces R, as far as y goes. -/
def Ag (y : List Nat) (P : Nat) (R : List (Nat × Nat)) : Prop := ∀ k, P + k < 8 * y.length → k < wid R → Q.nx y P k = num R / 2 ^ k % 2

theorem head_dig (x : Nat × Nat) (R : List (Nat × Nat)) (k : Nat) (hk : k < x.2) : num (x :: R) / 2 ^ k % 2 = x.1 / 2 ^ k % 2 := by
  rw [num_cons]
  have : 2 ^ x.2 = 2 ^ k * (2 * 2 ^ (x.2 - k - 1)) := by
    rw [← Nat.pow_succ', ← Nat.pow_add]; congr 1; omega
  rw [this, show num R * (2 ^ k * (2 * 2 ^ (x.2 - k - 1))) = 2 ^ k * (2 * (num R * 2 ^ (x.2 - k - 1))) by simp only [Nat.mul_left_comm, Nat.mul_comm, Nat.mul_assoc], Nat.add_mul_div_left _ _ (Nat.two_pow_pos _)]
  omega

theorem tail_dig (x : Nat × Nat) (R : List (Nat × Nat)) (k : Nat) (hx : x.1 < 2 ^ x.2) : num (x :: R) / 2 ^ (x.2 + k) % 2 = num R / 2 ^ k % 2 := by
  rw [num_cons, Nat.pow_add, ← Nat.div_div_eq_div_mul, Nat.add_mul_div_right _ _ (Nat.two_pow_pos _), Nat.div_eq_of_lt hx, Nat.zero_add]

theorem Ag.head {y : List Nat} {P : Nat} {x : Nat × Nat} {R : List (Nat × Nat)} (h : Ag y P (x :: R)) (k : Nat) (hk : k < x.2) (hl : P + k < 8 * y.length) : Q.nx y P k = x.1 / 2 ^ k % 2 := by
  rw [h k hl (by rw [wid_cons]; omega), head_dig x R k hk]

theorem Ag.tail {y : List Nat} {P : Nat} {x : Nat × Nat} {R : List (Nat × Nat)} (h : Ag y P (x :: R)) (hx : x.1 < 2 ^ x.2) : Ag y (P + x.2) R := by
  intro k hl hk
  have := h (x.2 + k) (by omega) (by rw [wid_cons]; omega)
  rw [tail_dig x R k hx] at this
  rw [← this]
  unfold Q.nx
  rw [Nat.add_assoc]

theorem top_congr {f g : Nat → Nat} (n : Nat) (h : ∀ k, k < n → f k = g k) : top f n = top g n := by
  induction n with
  | zero => rfl
  | succ n ih =>
    simp only [top]
    rw [ih (fun k hk => h k (by omega)), h n (by omega)]

theorem sig_bit (l : List Nat) (s k : Nat) (hk : k < nth l s) : (sigP l s).1 / 2 ^ k % 2 = dig (code l s : Nat) (nth l s - 1 - k) := rev_bit (code l s : Nat) (nth l s) (nth l s) k hk

theorem sgn_hit {l y : List Nat} {P s : Nat} {R : List (Nat × Nat)} (hf : Fits l) (h15 : ∀ x ∈ l, x ≤ 15) (hs : s < l.length) (h0 : 0 < nth l s) (h : Ag y P (sigP l s :: R)) (hl : P + nth l s ≤ 8 * y.length) : Q.signAt l y P = some s := by
  refine Q.signAt_hit ⟨hs, h0, by omega, ?_⟩
  have := top_code (f := Q.nx y P) (code l s) (nth l s) (code_lt hf hs h0 (nth_le15 h15 s)) (fun k hk => by
    rw [h.head k hk (by omega), sig_bit l s k hk]) _ (Nat.le_refl _)
  rw [this, Nat.sub_self, Nat.pow_zero, Nat.div_one]

theorem sgn_none {l y : List Nat} {P s : Nat} {R : List (Nat × Nat)} (hf : Fits l) (h15 : ∀ x ∈ l, x ≤ 15) (hs : s < l.length) (h0 : 0 < nth l s) (h : Ag y P (sigP l s :: R)) (hp : P ≤ 8 * y.length) (hl : 8 * y.length < P + nth l s) : Q.signAt l y P = none := by
  cases e : Q.signAt l y P with
  | none => rfl
  | some i =>
    exfalso
    obtain ⟨a1, a2, a3, a4⟩ := Q.signAt_some e
    let g : Nat → Nat := fun k => if k < nth l s then dig (code l s : Nat) (nth l s - 1 - k) else 0
    have hg : ∀ k, g k < 2 := by
      intro k
      show (if k < nth l s then dig (code l s : Nat) (nth l s - 1 - k) else 0) < 2
      split
      · exact dig_lt _ _
      · decide
    have hs' : Hit l g (nth l s) s := by
      refine ⟨hs, h0, Nat.le_refl _, ?_⟩
      have := top_code (f := g) (code l s) (nth l s) (code_lt hf hs h0 (nth_le15 h15 s)) (fun k hk => by
        show (if k < nth l s then dig (code l s : Nat) (nth l s - 1 - k) else 0) = _
        rw [if_pos hk]) _ (Nat.le_refl _)
      rw [this, Nat.sub_self, Nat.pow_zero, Nat.div_one]
    have hi' : Hit l g (nth l s) i := by
      refine ⟨a1, a2, by omega, ?_⟩
      rw [← a4]
      refine top_congr _ fun k hk => ?_
      show (if k < nth l s then dig (code l s : Nat) (nth l s - 1 - k) else 0) = _
      rw [if_pos (by omega), h.head k (by show k < nth l s; omega) (by omega), sig_bit l s k (by omega)]
    have := hit_one hg hi' hs'
    subst this
    omega

theorem mod_digits (a b c : Nat) (h : ∀ k, k < c → a / 2 ^ k % 2 = b / 2 ^ k % 2) : a % 2 ^ c = b % 2 ^ c := by
  induction c with
  | zero => simp [Nat.mod_one]
  | succ c ih =>
    rw [Nat.mod_pow_succ, Nat.mod_pow_succ, ih (fun k hk => h k (by omega)), h c (by omega)]

theorem low_nat (n c : Nat) (h : n < 2 ^ c) : (lowP n c).1 = n := by
  show low (n : Int) c = n
  have : ((low (n : Int) c : Nat) : Int) = (n : Int) := by
    rw [low_cast]
    exact Int.emod_eq_of_lt (by omega) (by exact_mod_cast h)
  omega

theorem low_dig {y : List Nat} {P n c : Nat} {R : List (Nat × Nat)} (h : Ag y P (lowP n c :: R)) (hn : n < 2 ^ c) (hl : P + c ≤ 8 * y.length) : Q.dig y P c = n := by
  have hlow := low_nat n c hn
  have e : val y / 2 ^ P % 2 ^ c = n % 2 ^ c := by
    refine mod_digits _ _ _ fun k hk => ?_
    have := h.head k hk (by omega)
    rw [hlow] at this
    rw [← this]
    unfold Q.nx
    rw [Nat.pow_add, Nat.div_div_eq_div_mul]
  unfold Q.dig
  rw [e]
  exact Nat.mod_eq_of_lt hn

end Go.Proofs.YtdokpimhhkbdbaaDoor
