/-
  Walks of gauge.Text and what it calls: the text of any float, over strconv.FormatInt's contract.
-/
import Derived.Test.YtghalbecgiepmaaDoorFlq
import Derived.Test.YtghalbecgiepmaaDoorWka
import Derived.Test.YtghalbecgiepmaaDoorShelf
import Derived.Lib.AppendIntMem
import Derived.Lib.ItoaLen
import Derived.Below
namespace Go.Proofs.YtghalbecgiepmaaDoor.wk
open Go.Proofs.YtghalbecgiepmaaDoor.flo Go.RowKit
set_option linter.unusedSimpArgs false
set_option linter.unusedVariables false

structure Tab (w : World) : Prop where
  is : Lib.TabIs Tryd.prog w "internal/strconv.uint64pow10" .u64 Lib.pow10Tab

theorem tab_below {w w' : World} (h : Tab w) (hb : Below w.heap.size w w') : Tab w' := by
  obtain ⟨h⟩ := h
  refine ⟨?_⟩
  unfold Lib.TabIs World.var? at *
  cases hg : Tryd.prog.globalNamed "internal/strconv.uint64pow10" with
  | none => rw [hg] at h; simp at h
  | some g =>
    rw [hg] at h
    simp only [Option.bind_some] at h ⊢
    have hlt : g < w.heap.size := by
      rcases Nat.lt_or_ge g w.heap.size with h1 | h1
      · exact h1
      · rw [Array.getElem?_eq_none h1] at h; simp at h
    rw [hb.block g hlt]
    exact h

def dec (n : Int) : ByteArray := ⟨(Lib.decDigits n.toNat).toArray⟩
theorem dec_size (n : Int) (h0 : 0 ≤ n) (h1 : n ≤ 9223372036854775807) : (dec n).size ≤ 21 := by
  have := Lib.itoa_length_le n (by omega) h1
  rw [Lib.itoa, if_neg (by omega)] at this
  simpa [dec, ByteArray.size] using this

/-- strconv.FormatInt at base 10 of what is not below 0 -/
theorem format_walk (n : Int) (w : World) (h0 : 0 ≤ n) (h1 : n ≤ 9223372036854775807) (htab : Tab w) :
    Calls Tryd.prog 37 #[.int .i64 n, .int .i64 10] w fun e w' => e = .returned (.string (dec n)) ∧ Below w.heap.size w w' := by
  refine (Tryd.strconv_FormatInt_10 n (by omega) h1 w htab.is).mono ?_
  rintro e w' ⟨rfl, k, os, rfl⟩
  refine ⟨?_, Lib.below_grow _ _ (Nat.le_refl _) _ _⟩
  rw [Lib.itoa, if_neg (by omega)]
  rfl

/-- the text of hundredths -/
def cent (c : Int) : ByteArray := ((dec (c / 100) ++ ⟨#[46]⟩) ++ dec (c % 100 / 10)) ++ dec (c % 10)

set_option maxHeartbeats 800000 in
theorem pointed_walk (c : Int) (w : World) (hc0 : 0 ≤ c) (hc : c ≤ 9223372036854775807) (htab : Tab w) :
    Calls Tryd.prog 34 #[.int .i64 c] w fun e w' => e = .returned (.string (cent c)) ∧ Below w.heap.size w w' := by
  have s1 := dec_size (c / 100) (by omega) (by omega)
  have s2 := dec_size (c % 100 / 10) (by omega) (by omega)
  have s3 := dec_size (c % 10) (by omega) (by omega)
  go_enter Tryd.func34, Tryd.ntmps34
  go_wp2_with (go_at_call 37; refine (format_walk _ _ (by omega) (by omega) htab).mono ?_; rintro e w1 ⟨rfl, hb1⟩)
  have htab1 := tab_below htab hb1
  go_wp2_with (go_at_call 37; refine (format_walk _ _ (by omega) (by omega) htab1).mono ?_; rintro e w2 ⟨rfl, hb2⟩)
  have htab2 := tab_below htab1 hb2
  go_wp2_with (go_at_call 37; refine (format_walk _ _ (by omega) (by omega) htab2).mono ?_; rintro e w3 ⟨rfl, hb3⟩)
  go_ret
  exact ⟨rfl, hb1.trans ((hb2.mono hb1.size).trans (hb3.mono (Nat.le_trans hb1.size hb2.size)))⟩

theorem sv_pos {x : Nat} (hn : neg x = false) : sv x = rung x := by simp [sv, sg, hn]

/-- math.IsInf(x, 1) of what is a number, or endless, and has no minus -/
theorem isInf_walk (x : Nat) (w : World) (hx : x < 18446744073709551616) (hn : nan x = false) (hs : neg x = false) :
    Calls Tryd.prog 33 #[.float .f64 x, .int .i64 1] w fun e w' => e = .returned (.bool (decide (rung x = 9218868437227405312))) ∧ w' = w := by
  have hb : (FloatKind.f64.format.order x 9218868437227405311 == some .gt) = decide (rung x = 9218868437227405312) := by
    have ho : FloatKind.f64.format.order x 9218868437227405311 = some (compare (sv x) (sv 9218868437227405311)) := order_sv hx (by decide) hn (by decide)
    rw [ho, sv_pos hs, show sv 9218868437227405311 = 9218868437227405311 from by decide]
    rcases not_nan hn with h | h
    · rw [show decide (rung x = 9218868437227405312) = false from by rw [decide_eq_false_iff_not]; omega]
      by_cases h1 : (rung x : Int) < 9218868437227405311
      · rw [compare_lt h1]; rfl
      · rw [compare_eq (by omega)]; rfl
    · rw [compare_gt (by omega), h]; rfl
  go_enter Tryd.func33, Tryd.ntmps33
  go_wp2
  all_goals (go_ret; exact ⟨ret_bool rfl, rfl⟩)

/-- 10^15 or more? -/
theorem big_order (x : Nat) (hx : x < 18446744073709551616) (hn : nan x = false) (hs : neg x = false) :
    (FloatKind.f64.format.order x 4831355200913801216 == some .gt || FloatKind.f64.format.order x 4831355200913801216 == some .eq) = decide (4831355200913801216 ≤ rung x) := by
  have ho : FloatKind.f64.format.order x 4831355200913801216 = some (compare (sv x) (sv 4831355200913801216)) := order_sv hx (by decide) hn (by decide)
  rw [sv_pos hs, show sv 4831355200913801216 = 4831355200913801216 from by decide, compare_int] at ho
  rw [ho]
  by_cases h1 : (rung x : Int) < 4831355200913801216
  · rw [if_pos h1, show decide (4831355200913801216 ≤ rung x) = false from by rw [decide_eq_false_iff_not]; omega]; rfl
  · rw [if_neg h1, show decide (4831355200913801216 ≤ rung x) = true from by rw [decide_eq_true_eq]; omega]
    by_cases h2 : (rung x : Int) = 4831355200913801216
    · rw [if_pos h2]; rfl
    · rw [if_neg h2]; rfl

theorem run_archFloor (y z : Nat) (w : World) (s : Bool) (m : Nat) (i : Int) (hd : FloatKind.f64.decode y = .number s m i) (hz : FloatKind.f64.encode ((FloatKind.f64.decode y).integral .down) = z) :
    (callFunc 38 #[.float .f64 y]).run Tryd.prog w = .ok (.value (.float .f64 z)) w := by
  rw [run_callFunc_extern (e := Extern.MathFloor.toIntegral "math.archFloor" .down) Tryd.func38 (by kernel_rfl) (by kernel_rfl) (by kernel_rfl) (by kernel_rfl)]
  have : Extern.MathFloor.toIntegral "math.archFloor" .down #[.float .f64 y] = pure (.float .f64 z) := by
    conv => lhs; whnf
    rw [hd, ← hz, hd]
  rw [this]; rfl

theorem floor_walk (y z : Nat) (w : World) (s : Bool) (m : Nat) (i : Int) (hd : FloatKind.f64.decode y = .number s m i) (hz : FloatKind.f64.encode ((FloatKind.f64.decode y).integral .down) = z) :
    Calls Tryd.prog 35 #[.float .f64 y] w fun e w' => e = .returned (.float .f64 z) ∧ w' = w := by
  have hb := fun w => run_archFloor y z w s m i hd hz
  clear hd hz
  go_enter Tryd.func35, Tryd.ntmps35
  go_wp2
  all_goals (go_ret; exact ⟨rfl, rfl⟩)

/-- what x times 100 is -/
structure Cents (x y : Nat) : Prop where
  mul : floatBits .mul .f64 x 4636737291354636288 = some y
  lt : y < 18446744073709551616
  neg : neg y = false
  fin : rung y < 9218868437227405312
  small : ex (rung y) ≤ 2044
  ones : ones y ≤ 9223372036854775807

set_option maxHeartbeats 800000 in
theorem unsigned_walk (x y : Nat) (w : World) (hx : x < 18446744073709551616) (hn : nan x = false) (hs : neg x = false) (hb : rung x < 4831355200913801216) (hy : Cents x y) (htab : Tab w) :
    Calls Tryd.prog 26 #[.float .f64 x] w fun e w' => e = .returned (.string (cent (ones y))) ∧ Below w.heap.size w w' := by
  obtain ⟨z, hz, ⟨s, m, i, hd⟩, ht⟩ := floor_int hy.lt hy.neg hy.fin hy.small
  have h1 := big_order x hx hn hs
  rw [show decide (4831355200913801216 ≤ rung x) = false from by rw [decide_eq_false_iff_not]; omega] at h1
  have h2 : decide (rung x = 9218868437227405312) = false := by rw [decide_eq_false_iff_not]; omega
  have hop : ∀ t w, (binOp .mul t (.float .f64 x) (.float .f64 4636737291354636288)).run Tryd.prog w = .ok (.float .f64 y) w := fun t w => run_float_arith w .mul t .f64 _ _ y hy.mul
  have hf := hy.ones
  have hv : floatToIntVal .f64 z .i64 = some ((ones y : Nat) : Int) := by
    unfold floatToIntVal
    rw [ht]
    simp only
    rw [if_pos]
    exact ⟨by show (-9223372036854775808 : Int) ≤ _; omega, by show _ ≤ (9223372036854775807 : Int); omega⟩
  have hc : ∀ w, (convert 23 2 (.float .f64 z)).run Tryd.prog w = .ok (.int .i64 (ones y : Nat)) w := fun w => run_convert_float_int w 23 2 .f64 .i64 z _ (by rw [Tryd.underlying23]; rfl) Tryd.underlying2 hv
  have hw := isInf_walk x
  have HD : Hid (FloatKind.f64.decode y = .number s m i) := hd
  have HZ : Hid (FloatKind.f64.encode ((FloatKind.f64.decode y).integral .down) = z) := hz
  clear hd hz ht hv hw
  have hcent : (cent (ones y)).size ≤ 100 := by
    have s1 := dec_size ((ones y : Int) / 100) (by omega) (by omega)
    have s2 := dec_size ((ones y : Int) % 100 / 10) (by omega) (by omega)
    have s3 := dec_size ((ones y : Int) % 10) (by omega) (by omega)
    unfold cent
    simp only [ByteArray.size_append]
    have : (ByteArray.mk #[46]).size = 1 := rfl
    omega
  go_enter Tryd.func26, Tryd.ntmps26
  go_wp2_with (first | (go_at_call 33; refine (isInf_walk _ _ hx hn hs).mono ?_; rintro e w' ⟨rfl, rfl⟩) | (go_at_call 35; refine (floor_walk _ z _ s m i HD.out HZ.out).mono ?_; rintro e w' ⟨rfl, rfl⟩) | (go_at_call 34; refine (pointed_walk _ _ (by omega) (by omega) htab).mono ?_; rintro e w' ⟨rfl, hb'⟩))
  go_ret
  exact ⟨rfl, by assumption⟩
end Go.Proofs.YtghalbecgiepmaaDoor.wk
