/-
  Walks of gauge.Text at every float, and of the document's example.
-/
import Derived.Test.YtghalbecgiepmaaDoorFlr
import Derived.Test.YtghalbecgiepmaaDoorWkb
namespace Go.Proofs.YtghalbecgiepmaaDoor.wk
open Go.Proofs.YtghalbecgiepmaaDoor.flo Go.RowKit
set_option linter.unusedSimpArgs false
set_option linter.unusedVariables false

theorem cents_of {x : Nat} (hx : x < 18446744073709551616) (hs : neg x = false) (hb : rung x < 4831355200913801216) : Cents x (mul100 x) := by
  obtain ⟨h1, h2⟩ := mul100_facts hx hs hb
  generalize mul100 x = y at h1 h2
  have hr : rung y = y := by unfold rung; omega
  refine ⟨h1, by omega, ?_, by rw [hr]; omega, ?_, ?_⟩
  · unfold neg; rw [decide_eq_false_iff_not]; omega
  · rw [hr]; unfold ex; omega
  · have := ones_small h2
    unfold flo.ones
    rw [hr]
    omega

theorem neg_flip {x : Nat} (hx : x < 18446744073709551616) (hs : neg x = true) : Op.negFloat .f64 x = rung x := by
  have hge : 9223372036854775808 ≤ x := by simpa [neg] using hs
  have hr : rung x < 2 ^ 63 := rung_lt x
  have hxr : x = 2 ^ 63 + rung x := by unfold rung; omega
  show x ^^^ 2 ^ 63 = rung x
  generalize rung x = r at hr hxr
  subst hxr
  apply Nat.eq_of_testBit_eq
  intro i
  rw [Nat.testBit_xor, Nat.testBit_two_pow]
  rcases Nat.lt_trichotomy i 63 with h | h | h
  · rw [Nat.testBit_two_pow_add_gt h]
    have : decide (63 = i) = false := by rw [decide_eq_false_iff_not]; omega
    simp [this]
  · subst h
    rw [Nat.testBit_two_pow_add_eq]
    simp
  · have h1 : 2 ^ 63 + r < 2 ^ i := by
      have : 2 ^ 64 ≤ 2 ^ i := Nat.pow_le_pow_right (by decide) h
      omega
    have h2 : r < 2 ^ i := by omega
    rw [Nat.testBit_lt_two_pow h1, Nat.testBit_lt_two_pow h2]
    have : decide (63 = i) = false := by rw [decide_eq_false_iff_not]; omega
    simp [this]

def uns (x : Nat) : ByteArray :=
  if rung x = 9218868437227405312 then ⟨#[101, 110, 100, 108, 101, 115, 115]⟩ else if 4831355200913801216 ≤ rung x then ⟨#[98, 105, 103]⟩ else cent (ones (mul100 x))
/-- WHAT gauge.Text TELLS -/
def text (x : Nat) : ByteArray := if nan x then ⟨#[110, 111, 110, 101]⟩ else if neg x then ⟨#[45]⟩ ++ uns (rung x) else uns x

theorem cent_size (c : Nat) (h : c ≤ 9223372036854775807) : (cent c).size ≤ 100 := by
  have s1 := dec_size ((c : Int) / 100) (by omega) (by omega)
  have s2 := dec_size ((c : Int) % 100 / 10) (by omega) (by omega)
  have s3 := dec_size ((c : Int) % 10) (by omega) (by omega)
  unfold cent
  simp only [ByteArray.size_append]
  have : (ByteArray.mk #[46]).size = 1 := rfl
  omega

theorem uns_size {x : Nat} (hx : x < 18446744073709551616) (hs : neg x = false) (hn : nan x = false) : (uns x).size ≤ 100 := by
  unfold uns
  split
  · decide
  · split
    · decide
    · exact cent_size _ (cents_of hx hs (by omega)).ones

set_option maxHeartbeats 800000 in
theorem uns_walk (x : Nat) (w : World) (hx : x < 18446744073709551616) (hn : nan x = false) (hs : neg x = false) (htab : Tab w) :
    Calls Tryd.prog 26 #[.float .f64 x] w fun e w' => e = .returned (.string (uns x)) ∧ Below w.heap.size w w' := by
  unfold uns
  by_cases h1 : rung x = 9218868437227405312
  · rw [if_pos h1]
    have h2 : decide (rung x = 9218868437227405312) = true := by rw [decide_eq_true_eq]; exact h1
    clear h1
    go_enter Tryd.func26, Tryd.ntmps26
    go_wp2_with (go_at_call 33; refine (isInf_walk _ _ hx hn hs).mono ?_; rintro e w' ⟨rfl, rfl⟩)
    go_ret
    exact ⟨rfl, Below.refl _ _⟩
  · rw [if_neg h1]
    by_cases h3 : 4831355200913801216 ≤ rung x
    · rw [if_pos h3]
      have h4 := big_order x hx hn hs
      rw [show decide (4831355200913801216 ≤ rung x) = true from by rw [decide_eq_true_eq]; omega] at h4
      have h2 : decide (rung x = 9218868437227405312) = false := by rw [decide_eq_false_iff_not]; exact h1
      clear h1 h3
      go_enter Tryd.func26, Tryd.ntmps26
      go_wp2_with (go_at_call 33; refine (isInf_walk _ _ hx hn hs).mono ?_; rintro e w' ⟨rfl, rfl⟩)
      go_ret
      exact ⟨rfl, Below.refl _ _⟩
    · rw [if_neg h3]
      exact unsigned_walk x _ w hx hn hs (by omega) (cents_of hx hs (by omega)) htab

theorem rung_rung (x : Nat) : rung (rung x) = rung x ∧ neg (rung x) = false ∧ nan (rung x) = nan x := by
  have := rung_lt x
  have h : rung (rung x) = rung x := by
    generalize rung x = r at this
    unfold rung; omega
  refine ⟨h, ?_, ?_⟩
  · unfold neg; rw [decide_eq_false_iff_not]; omega
  · unfold nan; rw [h]

set_option maxHeartbeats 800000 in
theorem text_walk (x : Nat) (w : World) (hx : x < 18446744073709551616) (htab : Tab w) :
    Calls Tryd.prog 12 #[.float .f64 x] w fun e w' => e = .returned (.string (text x)) ∧ Below w.heap.size w w' := by
  unfold text
  cases hn : nan x
  · cases hs : neg x
    · go_enter Tryd.func12, Tryd.ntmps12
      go_wp2_with (first | (go_at_call 24; refine (isNaN_walk _ _ hx).mono ?_; rintro e w' ⟨rfl, rfl⟩) | (go_at_call 25; refine (signbit_walk _ _ hx).mono ?_; rintro e w' ⟨rfl, rfl⟩) | (go_at_call 26; refine (uns_walk _ _ hx hn hs htab).mono ?_; rintro e w' ⟨rfl, hb⟩))
      go_ret
      exact ⟨rfl, by assumption⟩
    · have hf : ∀ w, (Op.unary .neg (.float .f64 x)).run Tryd.prog w = .ok (.float .f64 (rung x)) w := fun w => by
        rw [show Op.unary .neg (.float .f64 x) = pure (.float .f64 (Op.negFloat .f64 x)) from rfl, neg_flip hx hs]; rfl
      obtain ⟨r1, r2, r3⟩ := rung_rung x
      have hl := rung_lt x
      have hsz := uns_size (x := rung x) (by omega) r2 (by rw [r3]; exact hn)
      have H1 : Hid (nan (rung x) = false) := by rw [r3]; exact hn
      clear r1 r3
      go_enter Tryd.func12, Tryd.ntmps12
      go_wp2_with (first | (go_at_call 24; refine (isNaN_walk _ _ hx).mono ?_; rintro e w' ⟨rfl, rfl⟩) | (go_at_call 25; refine (signbit_walk _ _ hx).mono ?_; rintro e w' ⟨rfl, rfl⟩) | (go_at_call 26; refine (uns_walk _ _ (by omega) H1.out r2 htab).mono ?_; rintro e w' ⟨rfl, hb⟩))
      go_ret
      exact ⟨rfl, by assumption⟩
  · go_enter Tryd.func12, Tryd.ntmps12
    go_wp2_with (go_at_call 24; refine (isNaN_walk _ _ hx).mono ?_; rintro e w' ⟨rfl, rfl⟩)
    go_ret
    exact ⟨rfl, Below.refl _ _⟩

theorem dec_small (n : Nat) (h : n < 10) : dec (n : Int) = ⟨#[UInt8.ofNat (48 + n)]⟩ := by
  unfold dec
  rw [Int.toNat_natCast, Lib.decDigits, dif_pos h]
theorem text_third : text (share 1 3) = ⟨#[48, 46, 51, 51]⟩ := by
  have h1 : share 1 3 = 4599676419421066581 := by decide +kernel
  have h2 : ones (mul100 4599676419421066581) = 33 := by decide +kernel
  rw [h1]
  unfold text uns
  rw [if_neg (by decide), if_neg (by decide), if_neg (by decide), if_neg (by decide), h2]
  unfold cent
  rw [show ((33 : Nat) : Int) / 100 = ((0 : Nat) : Int) from rfl, show ((33 : Nat) : Int) % 100 / 10 = ((3 : Nat) : Int) from rfl, show ((33 : Nat) : Int) % 10 = ((3 : Nat) : Int) from rfl, dec_small 0 (by decide), dec_small 3 (by decide)]
  decide
theorem text_none : text (share 0 0) = ⟨#[110, 111, 110, 101]⟩ := by
  rw [show share 0 0 = 9221120237041090561 from by decide +kernel]
  unfold text
  rw [if_pos (by decide)]

theorem share_lt (p q : Int) : share p q < 18446744073709551616 := by
  unfold share
  split
  · split
    · unfold nothing; split
      · decide
      · split <;> decide
    · unfold quo
      cases h : floatBits .quo .f64 (floatOfInt .f64 p) (floatOfInt .f64 q) with
      | none => decide
      | some r =>
        have := floatBits_wf h
        simpa [Lit.wf] using this
  · decide

theorem inB_abs {p : Int} (h : inB p = true) : p.natAbs < 9007199254740992 := by
  have : -1099511627776 ≤ p ∧ p ≤ 1099511627776 := by simpa [inB] using h
  omega
theorem share_any (p q : Int) (w : World) : Calls Tryd.prog 9 #[.int .i64 p, .int .i64 q] w fun e w' => e = .returned (.float .f64 (share p q)) ∧ w' = w :=
  share_walk p q w fun h0 hp hq => quo_some p q (inB_abs hp) (inB_abs hq) h0

end Go.Proofs.YtghalbecgiepmaaDoor.wk
