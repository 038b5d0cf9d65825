/-
  Walks of the document's own Share and of the statements' alike.
-/
import Derived.Test.YtghalbecgiepmaaDoorWkg
namespace Go.Proofs.YtghalbecgiepmaaDoor.wk
open Go.Proofs.YtghalbecgiepmaaDoor.flo Go.RowKit
set_option linter.unusedSimpArgs false
set_option linter.unusedVariables false

theorem zero_quo_none : floatBits .quo .f64 0 0 = none := by decide +kernel
theorem fi_zero : floatOfInt .f64 0 = 0 := by decide +kernel
theorem fr_none {op : BinOp} {x y : Nat} (w : World) (h : floatBits op .f64 x y = none) : nan (fr op x y w) = true := by
  unfold fr; rw [h]; exact (cut_nan x y _).2
theorem fr_some {op : BinOp} {x y r : Nat} (w : World) (h : floatBits op .f64 x y = some r) : fr op x y w = r := by
  unfold fr; rw [h]

/-- a whole number that is not nought, divided by nought -/
theorem quo_zero (p : Int) (hp : p.natAbs < 9007199254740992) (h0 : p ≠ 0) : floatBits .quo .f64 (floatOfInt .f64 p) 0 = some (nothing p) := by
  show Ieee.double.div _ 0 = _
  unfold Ieee.Format.div
  rw [read_ofInt p hp, show Ieee.double.read 0 = .number false 0 (-1074) from by decide +kernel]
  unfold Ieee.Datum.quotient
  simp only [Bool.xor_false]
  rw [if_pos trivial, if_neg (mg_ofInt p hp h0), Option.map_some]
  unfold nothing
  by_cases h : 0 < p
  · rw [if_pos h, show decide (p < 0) = false from by rw [decide_eq_false_iff_not]; omega]; rfl
  · rw [if_neg h, if_pos (by omega), show decide (p < 0) = true from by rw [decide_eq_true_eq]; omega]; rfl

theorem ref_in (p q : Int) (w : World) (hp : inB p = true) (hq : inB q = true) :
    fr .quo (floatOfInt .f64 p) (floatOfInt .f64 q) w = share p q ∨ (nan (fr .quo (floatOfInt .f64 p) (floatOfInt .f64 q) w) = true ∧ nan (share p q) = true) := by
  by_cases h0 : q = 0
  · subst h0
    rw [fi_zero]
    by_cases h1 : p = 0
    · subst h1
      right
      rw [fi_zero]
      exact ⟨fr_none w zero_quo_none, by decide +kernel⟩
    · left
      rw [fr_some w (quo_zero p (inB_abs hp) h1)]
      unfold share
      rw [hp, hq]
      simp
  · left
    obtain ⟨r, hr⟩ := Option.isSome_iff_exists.1 (quo_some p q (inB_abs hp) (inB_abs hq) h0)
    rw [fr_some w hr]
    unfold share quo
    rw [hp, hq, hr]
    simp [h0]
theorem ref_out (p q : Int) (w : World) (h : inB p = false ∨ inB q = false) : nan (fr .quo 0 0 w) = true ∧ nan (share p q) = true := by
  refine ⟨fr_none w zero_quo_none, ?_⟩
  unfold share
  rw [if_neg (by rcases h with h | h <;> simp [h])]
  decide

set_option maxHeartbeats 800000 in
theorem refShare_walk (p q : Int) (w : World) :
    Calls Tryd.prog 17 #[.int .i64 p, .int .i64 q] w fun e w' => ∃ y, e = .returned (.float .f64 y) ∧ y < 18446744073709551616 ∧ (y = share p q ∨ (nan y = true ∧ nan (share p q) = true)) ∧ Below w.heap.size w w' := by
  have hq := run_quo
  have out : inB p = false ∨ inB q = false → ∀ w, (nan (fr .quo 0 0 w) = true ∧ nan (share p q) = true) := fun h w => ref_out p q w h
  have inn : inB p = true → inB q = true → ∀ w, _ := fun h1 h2 w => ref_in p q w h1 h2
  unfold inB at out inn
  simp only [decide_eq_true_eq, decide_eq_false_iff_not] at out inn
  have HO : Hid (¬ (-1099511627776 ≤ p ∧ p ≤ 1099511627776) ∨ ¬ (-1099511627776 ≤ q ∧ q ≤ 1099511627776) → ∀ w, (nan (fr .quo 0 0 w) = true ∧ nan (share p q) = true)) := out
  have HI : Hid (-1099511627776 ≤ p ∧ p ≤ 1099511627776 → -1099511627776 ≤ q ∧ q ≤ 1099511627776 → ∀ w, (fr .quo (floatOfInt .f64 p) (floatOfInt .f64 q) w = share p q ∨ (nan (fr .quo (floatOfInt .f64 p) (floatOfInt .f64 q) w) = true ∧ nan (share p q) = true))) := inn
  clear out inn
  by_cases h1 : p < -1099511627776
  · go_enter Tryd.func17, Tryd.ntmps17
    go_wp2
    go_ret
    exact ⟨_, rfl, fr_lt _ _ _ _, Or.inr (HO.out (by omega) _), fw_below _ _ _ _⟩
  · by_cases h2 : 1099511627776 < p
    · go_enter Tryd.func17, Tryd.ntmps17
      go_wp2
      go_ret
      exact ⟨_, rfl, fr_lt _ _ _ _, Or.inr (HO.out (by omega) _), fw_below _ _ _ _⟩
    · by_cases h3 : q < -1099511627776
      · go_enter Tryd.func17, Tryd.ntmps17
        go_wp2
        go_ret
        exact ⟨_, rfl, fr_lt _ _ _ _, Or.inr (HO.out (by omega) _), fw_below _ _ _ _⟩
      · by_cases h4 : 1099511627776 < q
        · go_enter Tryd.func17, Tryd.ntmps17
          go_wp2
          go_ret
          exact ⟨_, rfl, fr_lt _ _ _ _, Or.inr (HO.out (by omega) _), fw_below _ _ _ _⟩
        · go_enter Tryd.func17, Tryd.ntmps17
          go_wp2
          go_ret
          exact ⟨_, rfl, fr_lt _ _ _ _, HI.out (by omega) (by omega) _, fw_below _ _ _ _⟩

set_option maxHeartbeats 400000 in
theorem alike_walk (a b : Nat) (w : World) (ha : a < 18446744073709551616) (hb : b < 18446744073709551616) (h : b = a ∨ (nan b = true ∧ nan a = true)) :
    Calls Tryd.prog 16 #[.float .f64 a, .float .f64 b] w fun e w' => e = .returned (.bool true) ∧ w' = w := by
  have hsa : (FloatKind.f64.format.order a a == some .eq) = !nan a := order_self ha
  have hsb : (FloatKind.f64.format.order b b == some .eq) = !nan b := order_self hb
  cases hn : nan a
  · have hba : b = a := by
      rcases h with h | ⟨_, h⟩
      · exact h
      · rw [hn] at h; cases h
    subst hba
    rw [hn] at hsa
    have hso : FloatKind.f64.format.order b b = some .eq := by simpa using hsa
    clear h hsa hsb
    go_enter Tryd.func16, Tryd.ntmps16
    go_wp2_with (go_at_call 27; refine (minus_walk _ _ hb).mono ?_; rintro e w' ⟨rfl, rfl⟩)
    all_goals (go_ret; exact ⟨ret_bool (by simp), rfl⟩)
  · have hnb : nan b = true := by
      rcases h with h | ⟨h, _⟩
      · rw [h]; exact hn
      · exact h
    have hoa : FloatKind.f64.format.order a a = none := order_nan_l ha hn
    have hob : FloatKind.f64.format.order b b = none := order_nan_l hb hnb
    clear h hsa hsb
    go_enter Tryd.func16, Tryd.ntmps16
    go_wp2
    all_goals (go_ret; exact ⟨ret_bool (by simp), rfl⟩)
end Go.Proofs.YtghalbecgiepmaaDoor.wk
