/-
  The walk of the statements' X: it hands back some float, whatever is drawn.
-/
import Derived.Test.YtghalbecgiepmaaDoorWkf
namespace Go.Proofs.YtghalbecgiepmaaDoor.wk
open Go.Proofs.YtghalbecgiepmaaDoor.flo Go.RowKit
set_option linter.unusedSimpArgs false
set_option linter.unusedVariables false

/-- what an operation on floats gives, in a world: where it has no answer, the NaN that is drawn -/
def fr (op : BinOp) (x y : Nat) (w : World) : Nat :=
  match floatBits op .f64 x y with
  | some r => r
  | none => (Question.nanBits .f64 x y).cut (w.tape w.drawn (.nanBits .f64 x y))
def fw (op : BinOp) (x y : Nat) (w : World) : World :=
  match floatBits op .f64 x y with
  | some _ => w
  | none => w.drew

theorem run_mul (t : TypeId) (x y : Nat) (w : World) : (binOp .mul t (.float .f64 x) (.float .f64 y)).run Tryd.prog w = .ok (.float .f64 (fr .mul x y w)) (fw .mul x y w) := by
  unfold fr fw
  cases h : floatBits .mul .f64 x y with
  | some r => exact run_float_arith w .mul t .f64 x y r h
  | none =>
    have h' : FloatKind.f64.format.mul x y = none := h
    simp [binOp, Op.floatArith, h', Question.forced]
theorem run_quo (t : TypeId) (x y : Nat) (w : World) : (binOp .quo t (.float .f64 x) (.float .f64 y)).run Tryd.prog w = .ok (.float .f64 (fr .quo x y w)) (fw .quo x y w) := by
  unfold fr fw
  cases h : floatBits .quo .f64 x y with
  | some r => exact run_float_arith w .quo t .f64 x y r h
  | none =>
    have h' : FloatKind.f64.format.div x y = none := h
    simp [binOp, Op.floatArith, h', Question.forced]

theorem cut_nan (x y t : Nat) : (Question.nanBits .f64 x y).cut t < 18446744073709551616 ∧ nan ((Question.nanBits .f64 x y).cut t) = true := by
  have e : (Question.nanBits .f64 x y).cut t = (t % 2) * 9223372036854775808 + 9218868437227405312 + 1 + (t / 2) % 4503599627370495 := rfl
  rw [e]
  have h1 := Nat.mod_lt (t / 2) (show 0 < 4503599627370495 by decide)
  generalize t / 2 % 4503599627370495 = u at h1
  have h2 : t % 2 = 0 ∨ t % 2 = 1 := by omega
  unfold nan rung
  rw [decide_eq_true_eq]
  rcases h2 with h2 | h2 <;> rw [h2] <;> omega

theorem fr_lt (op : BinOp) (x y : Nat) (w : World) : fr op x y w < 18446744073709551616 := by
  unfold fr
  cases h : floatBits op .f64 x y with
  | some r =>
    have := floatBits_wf h
    simpa [Lit.wf] using this
  | none => exact (cut_nan x y _).1
theorem fw_below (op : BinOp) (x y : Nat) (w : World) : Below w.heap.size w (fw op x y w) := by
  unfold fw
  split
  · exact Below.refl _ _
  · exact (Below.refl _ _).drew
theorem fw_size (op : BinOp) (x y : Nat) (w : World) : (fw op x y w).heap.size = w.heap.size := by
  unfold fw
  split <;> rfl

theorem below3 (o1 o2 o3 : BinOp) (a1 b1 a2 b2 a3 b3 : Nat) (w : World) : Below w.heap.size w (fw o3 a3 b3 (fw o2 a2 b2 (fw o1 a1 b1 w))) := by
  have h1 := fw_below o1 a1 b1 w
  have h2 := fw_below o2 a2 b2 (fw o1 a1 b1 w)
  have h3 := fw_below o3 a3 b3 (fw o2 a2 b2 (fw o1 a1 b1 w))
  rw [fw_size] at h2
  rw [fw_size, fw_size] at h3
  exact h1.trans (h2.trans h3)
theorem run_neg (x : Nat) (w : World) : (Op.unary .neg (.float .f64 x)).run Tryd.prog w = .ok (.float .f64 (Op.negFloat .f64 x)) w := rfl

set_option maxHeartbeats 800000 in
theorem x_walk (a b how : Int) (x : Nat) (w : World) (hx : x < 18446744073709551616) :
    Calls Tryd.prog 15 #[.int .i64 a, .int .i64 b, .int .i64 how, .float .f64 x] w fun e w' => ∃ y, e = .returned (.float .f64 y) ∧ y < 18446744073709551616 ∧ Below w.heap.size w w' := by
  have hk0 : 0 ≤ how % 12 := by omega
  have hk1 : how % 12 < 12 := by omega
  have CK : Hid (∀ w, Calls Tryd.prog 8 #[.int .i64 how, .int .i64 12] w fun e w' => e = .returned (.int .i64 (how % 12)) ∧ w' = w) := fun w => keep_walk _ _ _ (by omega) (by omega)
  generalize how % 12 = k at CK hk0 hk1
  have hm := run_mul
  have hq := run_quo
  have hng := run_neg
  by_cases h0 : k = 0
  · subst h0
    go_enter Tryd.func15, Tryd.ntmps15
    go_wp2_with (first | (go_at_call 8; with_reducible refine (CK.out _).mono ?_; rintro e w' ⟨rfl, rfl⟩) | (go_at_call 8; refine (keep_walk _ _ _ (by omega) (by omega)).mono ?_; rintro e w' ⟨rfl, rfl⟩))
    go_ret
    exact ⟨_, rfl, hx, Below.refl _ _⟩
  by_cases h1 : k = 1
  · subst h1
    go_enter Tryd.func15, Tryd.ntmps15
    go_wp2_with (first | (go_at_call 8; with_reducible refine (CK.out _).mono ?_; rintro e w' ⟨rfl, rfl⟩) | (go_at_call 8; refine (keep_walk _ _ _ (by omega) (by omega)).mono ?_; rintro e w' ⟨rfl, rfl⟩))
    go_ret
    exact ⟨_, rfl, fr_lt _ _ _ _, fw_below _ _ _ _⟩
  by_cases h2 : k = 2
  · subst h2
    go_enter Tryd.func15, Tryd.ntmps15
    go_wp2_with (first | (go_at_call 8; with_reducible refine (CK.out _).mono ?_; rintro e w' ⟨rfl, rfl⟩) | (go_at_call 8; refine (keep_walk _ _ _ (by omega) (by omega)).mono ?_; rintro e w' ⟨rfl, rfl⟩))
    go_ret
    exact ⟨_, rfl, fr_lt _ _ _ _, fw_below _ _ _ _⟩
  by_cases h3 : k = 3
  · subst h3
    go_enter Tryd.func15, Tryd.ntmps15
    go_wp2_with (first | (go_at_call 8; with_reducible refine (CK.out _).mono ?_; rintro e w' ⟨rfl, rfl⟩) | (go_at_call 8; refine (keep_walk _ _ _ (by omega) (by omega)).mono ?_; rintro e w' ⟨rfl, rfl⟩))
    go_ret
    exact ⟨_, rfl, fr_lt _ _ _ _, fw_below _ _ _ _⟩
  by_cases h4 : k = 4
  · subst h4
    go_enter Tryd.func15, Tryd.ntmps15
    go_wp2_with (first | (go_at_call 8; with_reducible refine (CK.out _).mono ?_; rintro e w' ⟨rfl, rfl⟩) | (go_at_call 8; refine (keep_walk _ _ _ (by omega) (by omega)).mono ?_; rintro e w' ⟨rfl, rfl⟩))
    go_ret
    exact ⟨_, rfl, fr_lt _ _ _ _, below3 _ _ _ _ _ _ _ _ _ _⟩
  by_cases h5 : k = 5
  · subst h5
    go_enter Tryd.func15, Tryd.ntmps15
    go_wp2_with (first | (go_at_call 8; with_reducible refine (CK.out _).mono ?_; rintro e w' ⟨rfl, rfl⟩) | (go_at_call 8; refine (keep_walk _ _ _ (by omega) (by omega)).mono ?_; rintro e w' ⟨rfl, rfl⟩))
    go_ret
    exact ⟨_, rfl, fr_lt _ _ _ _, fw_below _ _ _ _⟩
  by_cases h6 : k = 6
  · subst h6
    go_enter Tryd.func15, Tryd.ntmps15
    go_wp2_with (first | (go_at_call 8; with_reducible refine (CK.out _).mono ?_; rintro e w' ⟨rfl, rfl⟩) | (go_at_call 8; refine (keep_walk _ _ _ (by omega) (by omega)).mono ?_; rintro e w' ⟨rfl, rfl⟩))
    go_ret
    exact ⟨_, rfl, fr_lt _ _ _ _, fw_below _ _ _ _⟩
  have e0 : (k == 0) = false := by rw [beq_eq_false_iff_ne]; exact h0
  have e1 : (k == 1) = false := by rw [beq_eq_false_iff_ne]; exact h1
  have e2 : (k == 2) = false := by rw [beq_eq_false_iff_ne]; exact h2
  have e3 : (k == 3) = false := by rw [beq_eq_false_iff_ne]; exact h3
  have e4 : (k == 4) = false := by rw [beq_eq_false_iff_ne]; exact h4
  have e5 : (k == 5) = false := by rw [beq_eq_false_iff_ne]; exact h5
  have e6 : (k == 6) = false := by rw [beq_eq_false_iff_ne]; exact h6
  clear h0 h1 h2 h3 h4 h5 h6
  go_enter Tryd.func15, Tryd.ntmps15
  go_wp2_with (first | (go_at_call 8; with_reducible refine (CK.out _).mono ?_; rintro e w' ⟨rfl, rfl⟩) | (go_at_call 8; refine (keep_walk _ _ _ (by omega) (by omega)).mono ?_; rintro e w' ⟨rfl, rfl⟩))
  go_ret
  exact ⟨_, rfl, fr_lt _ _ _ _, fw_below _ _ _ _⟩
end Go.Proofs.YtghalbecgiepmaaDoor.wk
