/-
  Walks of gauge's small functions (Less, Same, Share and what they call), each with the world as it was.
-/
import Derived.Test.YtghalbecgiepmaaDoorFlo
import Derived.Test.YtghalbecgiepmaaDoorChecked
import Derived.Tactics
import Derived.Tactics2
import Derived.StillTactics
import Derived.WalkKit
import Derived.Laws.Pointers
import Derived.Laws.Small
import Derived.Laws.FloatArith
import Derived.Laws.Externs
import Derived.KernelRfl
namespace Go.Proofs.YtghalbecgiepmaaDoor.wk
open Go.Proofs.YtghalbecgiepmaaDoor.flo
set_option linter.unusedSimpArgs false
set_option linter.unusedVariables false

theorem ret_bool {a b : Bool} (h : a = b) : Ending.returned (.bool a) = .returned (.bool b) := by rw [h]

theorem run_bits (b : Nat) (w : World) : (callFunc 32 #[.float .f64 b]).run Tryd.prog w = .ok (.value (.int .u64 b)) w := by
  rw [run_callFunc_extern (e := Extern.MathFloatBits.float64bits) Tryd.func32 (by kernel_rfl) (by kernel_rfl) (by kernel_rfl) (by kernel_rfl)]; rfl
theorem run_frombits (b : Int) (w : World) : (callFunc 30 #[.int .u64 b]).run Tryd.prog w = .ok (.value (.float .f64 b.toNat)) w := by
  rw [run_callFunc_extern (e := Extern.MathFloatBits.float64frombits) Tryd.func30 (by kernel_rfl) (by kernel_rfl) (by kernel_rfl) (by kernel_rfl)]; rfl

theorem isNaN_walk (x : Nat) (w : World) (hx : x < 18446744073709551616) :
    Calls Tryd.prog 24 #[.float .f64 x] w fun e w' => e = .returned (.bool (nan x)) ∧ w' = w := by
  have h : (FloatKind.f64.format.order x x == some .eq) = !nan x := order_self hx
  go_enter Tryd.func24, Tryd.ntmps24
  go_wp2
  all_goals (go_ret; refine ⟨ret_bool ?_, rfl⟩)
  rw [bne, h, Bool.not_not]

theorem signbit_walk (x : Nat) (w : World) (hx : x < 18446744073709551616) :
    Calls Tryd.prog 25 #[.float .f64 x] w fun e w' => e = .returned (.bool (neg x)) ∧ w' = w := by
  have hb := run_bits x
  go_enter Tryd.func25, Tryd.ntmps25
  go_wp2
  go_ret
  refine ⟨ret_bool ?_, rfl⟩
  unfold RowKit.wrap64 neg
  rw [Bool.eq_iff_iff]
  simp only [decide_eq_true_eq]
  omega

theorem naN_walk (w : World) :
    Calls Tryd.prog 22 #[] w fun e w' => e = .returned (.float .f64 9221120237041090561) ∧ w' = w := by
  have hb := run_frombits 9221120237041090561
  go_enter Tryd.func22, Tryd.ntmps22
  go_wp2
  all_goals (go_ret; exact ⟨rfl, rfl⟩)

theorem infUp_walk (w : World) :
    Calls Tryd.prog 31 #[.int .i64 1] w fun e w' => e = .returned (.float .f64 9218868437227405312) ∧ w' = w := by
  have hb := run_frombits 9218868437227405312
  go_enter Tryd.func31, Tryd.ntmps31
  go_wp2
  all_goals (go_ret; exact ⟨rfl, rfl⟩)
theorem infDown_walk (w : World) :
    Calls Tryd.prog 31 #[.int .i64 (-1)] w fun e w' => e = .returned (.float .f64 18442240474082181120) ∧ w' = w := by
  have hb := run_frombits 18442240474082181120
  go_enter Tryd.func31, Tryd.ntmps31
  go_wp2
  all_goals (go_ret; exact ⟨rfl, rfl⟩)

def inB (n : Int) : Bool := decide (-1099511627776 ≤ n ∧ n ≤ 1099511627776)
theorem within_walk (n : Int) (w : World) :
    Calls Tryd.prog 21 #[.int .i64 n] w fun e w' => e = .returned (.bool (inB n)) ∧ w' = w := by
  unfold inB
  by_cases h1 : -1099511627776 ≤ n <;> by_cases h2 : n ≤ 1099511627776
  all_goals
    go_enter Tryd.func21, Tryd.ntmps21
    go_wp2
    all_goals (go_ret; refine ⟨ret_bool ?_, rfl⟩; simp [h1, h2])

/-- florilegiumkeep.Within -/
theorem keep_walk (v n : Int) (w : World) (hn : 1 ≤ n) (hn2 : n ≤ 1000000) :
    Calls Tryd.prog 8 #[.int .i64 v, .int .i64 n] w fun e w' => e = .returned (.int .i64 (v % n)) ∧ w' = w := by
  have h1 : ¬ n < 1 := by omega
  have h0 : ¬ n = 0 := by omega
  have h00 : n ≠ 0 := by omega
  have hm := Int.emod_nonneg v h00
  have hl := Int.emod_lt_of_pos v (show 0 < n by omega)
  by_cases h : v.tmod n < 0
  · have e : v.tmod n + n = v % n := by
      rw [Int.tmod_eq_emod] at h ⊢
      split at h
      · omega
      · rw [if_neg (by assumption)]; omega
    go_enter Tryd.func8, Tryd.ntmps8
    go_wp2
    all_goals (go_ret; exact ⟨rfl, rfl⟩)
  · have e : v.tmod n = v % n := by
      rw [Int.tmod_eq_emod] at h ⊢
      split at h
      · rw [if_pos (by assumption)]; omega
      · omega
    go_enter Tryd.func8, Tryd.ntmps8
    go_wp2
    all_goals (go_ret; exact ⟨rfl, rfl⟩)

set_option maxHeartbeats 400000 in
theorem less_walk (a b : Nat) (w : World) (ha : a < 18446744073709551616) (hb : b < 18446744073709551616) :
    Calls Tryd.prog 10 #[.float .f64 a, .float .f64 b] w fun e w' => e = .returned (.bool (less a b)) ∧ w' = w := by
  unfold less
  cases na : nan a <;> cases nb : nan b <;> cases ho : (FloatKind.f64.format.order a b == some .eq) <;> cases sa : neg a <;> cases sb : neg b
  all_goals
    go_enter Tryd.func10, Tryd.ntmps10
    go_wp2_with (first | (go_at_call 24; refine (isNaN_walk _ _ (by assumption)).mono ?_; rintro e w' ⟨rfl, rfl⟩) | (go_at_call 25; refine (signbit_walk _ _ (by assumption)).mono ?_; rintro e w' ⟨rfl, rfl⟩))
    all_goals (go_ret; refine ⟨ret_bool ?_, rfl⟩; simp_all [FloatKind.format])

theorem same_walk (a b : Nat) (w : World) (ha : a < 18446744073709551616) (hb : b < 18446744073709551616) :
    Calls Tryd.prog 11 #[.float .f64 a, .float .f64 b] w fun e w' => e = .returned (.bool (!less a b && !less b a)) ∧ w' = w := by
  cases h1 : less a b <;> cases h2 : less b a
  all_goals
    go_enter Tryd.func11, Tryd.ntmps11
    go_wp2_with (go_at_call 10; refine (less_walk _ _ _ (by assumption) (by assumption)).mono ?_; rintro e w' ⟨rfl, rfl⟩)
    all_goals (go_ret; refine ⟨ret_bool ?_, rfl⟩; simp [h1, h2])

/-- gauge.ofNothing -/
def nothing (p : Int) : Nat := if 0 < p then 9218868437227405312 else if p < 0 then 18442240474082181120 else 9221120237041090561
theorem ofNothing_walk (p : Int) (w : World) :
    Calls Tryd.prog 23 #[.int .i64 p] w fun e w' => e = .returned (.float .f64 (nothing p)) ∧ w' = w := by
  unfold nothing
  by_cases h1 : 0 < p
  · have h2 : ¬ p < 0 := by omega
    go_enter Tryd.func23, Tryd.ntmps23
    go_wp2_with (first | (go_at_call 31; refine (infUp_walk _).mono ?_; rintro e w' ⟨rfl, rfl⟩) | (go_at_call 31; refine (infDown_walk _).mono ?_; rintro e w' ⟨rfl, rfl⟩) | (go_at_call 22; refine (naN_walk _).mono ?_; rintro e w' ⟨rfl, rfl⟩))
    all_goals (go_ret; exact ⟨by simp [h1], rfl⟩)
  · by_cases h2 : p < 0
    · go_enter Tryd.func23, Tryd.ntmps23
      go_wp2_with (first | (go_at_call 31; refine (infDown_walk _).mono ?_; rintro e w' ⟨rfl, rfl⟩) | (go_at_call 31; refine (infUp_walk _).mono ?_; rintro e w' ⟨rfl, rfl⟩) | (go_at_call 22; refine (naN_walk _).mono ?_; rintro e w' ⟨rfl, rfl⟩))
      all_goals (go_ret; exact ⟨by simp [h1, h2], rfl⟩)
    · go_enter Tryd.func23, Tryd.ntmps23
      go_wp2_with (first | (go_at_call 31; refine (infDown_walk _).mono ?_; rintro e w' ⟨rfl, rfl⟩) | (go_at_call 31; refine (infUp_walk _).mono ?_; rintro e w' ⟨rfl, rfl⟩) | (go_at_call 22; refine (naN_walk _).mono ?_; rintro e w' ⟨rfl, rfl⟩))
      all_goals (go_ret; exact ⟨by simp [h1, h2], rfl⟩)

/-- the quotient of two whole numbers as floats -/
def quo (p q : Int) : Nat := (floatBits .quo .f64 (floatOfInt .f64 p) (floatOfInt .f64 q)).getD 0
/-- gauge.Share -/
def share (p q : Int) : Nat := if inB p && inB q then (if q = 0 then nothing p else quo p q) else 9221120237041090561
theorem share_walk (p q : Int) (w : World) (hq : q ≠ 0 → inB p = true → inB q = true → (floatBits .quo .f64 (floatOfInt .f64 p) (floatOfInt .f64 q)).isSome = true) :
    Calls Tryd.prog 9 #[.int .i64 p, .int .i64 q] w fun e w' => e = .returned (.float .f64 (share p q)) ∧ w' = w := by
  unfold share
  cases hp : inB p <;> cases hq' : inB q
  · go_enter Tryd.func9, Tryd.ntmps9
    go_wp2_with (first | (go_at_call 21; refine (within_walk _ _).mono ?_; rintro e w' ⟨rfl, rfl⟩) | (go_at_call 22; refine (naN_walk _).mono ?_; rintro e w' ⟨rfl, rfl⟩))
    all_goals (go_ret; exact ⟨by simp, rfl⟩)
  · go_enter Tryd.func9, Tryd.ntmps9
    go_wp2_with (first | (go_at_call 21; refine (within_walk _ _).mono ?_; rintro e w' ⟨rfl, rfl⟩) | (go_at_call 22; refine (naN_walk _).mono ?_; rintro e w' ⟨rfl, rfl⟩))
    all_goals (go_ret; exact ⟨by simp, rfl⟩)
  · go_enter Tryd.func9, Tryd.ntmps9
    go_wp2_with (first | (go_at_call 21; refine (within_walk _ _).mono ?_; rintro e w' ⟨rfl, rfl⟩) | (go_at_call 22; refine (naN_walk _).mono ?_; rintro e w' ⟨rfl, rfl⟩))
    all_goals (go_ret; exact ⟨by simp, rfl⟩)
  · by_cases h0 : q = 0
    · go_enter Tryd.func9, Tryd.ntmps9
      go_wp2_with (first | (go_at_call 21; refine (within_walk _ _).mono ?_; rintro e w' ⟨rfl, rfl⟩) | (go_at_call 23; refine (ofNothing_walk _ _).mono ?_; rintro e w' ⟨rfl, rfl⟩))
      all_goals (go_ret; exact ⟨by simp [h0], rfl⟩)
    · obtain ⟨r, hr⟩ := Option.isSome_iff_exists.1 (hq h0 hp hq')
      have hop : ∀ t w, (binOp .quo t (.float .f64 (floatOfInt .f64 p)) (.float .f64 (floatOfInt .f64 q))).run Tryd.prog w = .ok (.float .f64 r) w := fun t w => run_float_arith w .quo t .f64 _ _ r hr
      go_enter Tryd.func9, Tryd.ntmps9
      go_wp2_with (first | (go_at_call 21; refine (within_walk _ _).mono ?_; rintro e w' ⟨rfl, rfl⟩) | (simp only [hop]))
      all_goals (go_ret; exact ⟨by simp [h0, quo, hr], rfl⟩)
end Go.Proofs.YtghalbecgiepmaaDoor.wk
