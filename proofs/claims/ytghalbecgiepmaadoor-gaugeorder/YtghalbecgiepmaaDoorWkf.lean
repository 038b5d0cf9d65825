/-
  Walks of the document's own Minus, rank and Less: that Less is gauge's.
-/
import Derived.Test.YtghalbecgiepmaaDoorFlt
import Derived.Test.YtghalbecgiepmaaDoorWkd
namespace Go.Proofs.YtghalbecgiepmaaDoor.wk
open Go.Proofs.YtghalbecgiepmaaDoor.flo Go.RowKit
set_option linter.unusedSimpArgs false
set_option linter.unusedVariables false

theorem sv_zero : sv 0 = 0 := by decide
/-- x < 0, x > 0, x == 0 -/
theorem zero_order (x : Nat) (hx : x < 18446744073709551616) (hn : nan x = false) :
    (FloatKind.f64.format.order x 0 == some .lt) = decide (0 < rung x ∧ neg x = true) ∧ (FloatKind.f64.format.order x 0 == some .gt) = decide (0 < rung x ∧ neg x = false) ∧ (FloatKind.f64.format.order x 0 == some .eq) = decide (rung x = 0) := by
  have ho : FloatKind.f64.format.order x 0 = some (compare (sv x) (sv 0)) := order_sv hx (by decide) hn (by decide)
  rw [ho, sv_zero]
  unfold sv
  rcases Nat.eq_zero_or_pos (rung x) with h | h
  · rw [h]
    cases neg x <;> decide
  · have e0 : decide (rung x = 0) = false := by rw [decide_eq_false_iff_not]; omega
    cases hs : neg x
    · rw [compare_gt (by simp only [sg, Bool.false_eq_true, if_false]; omega), e0]
      simp [h]
    · rw [compare_lt (by simp only [sg, if_true]; omega), e0]
      simp [h]

/-- florilegiumref01.Minus -/
theorem minus_walk (x : Nat) (w : World) (hx : x < 18446744073709551616) :
    Calls Tryd.prog 27 #[.float .f64 x] w fun e w' => e = .returned (.bool (!nan x && neg x)) ∧ w' = w := by
  cases hn : nan x
  · obtain ⟨h1, h2, h3⟩ := zero_order x hx hn
    rcases Nat.eq_zero_or_pos (rung x) with h | h
    · rw [show decide (0 < rung x ∧ neg x = true) = false from by rw [decide_eq_false_iff_not]; omega] at h1
      rw [show decide (rung x = 0) = true from by rw [decide_eq_true_eq]; exact h] at h3
      have hw := word_self hx
      rw [h] at hw
      cases hs : neg x
      · rw [hs] at hw
        obtain rfl : x = 0 := by rw [← hw]; rfl
        have hop : ∀ t w, (binOp .quo t (.float .f64 4607182418800017408) (.float .f64 0)).run Tryd.prog w = .ok (.float .f64 9218868437227405312) w := fun t w => run_float_arith w .quo t .f64 _ _ _ (by decide +kernel)
        have hlt : (FloatKind.f64.format.order 9218868437227405312 0 == some .lt) = false := by decide +kernel
        go_enter Tryd.func27, Tryd.ntmps27
        go_wp2
        all_goals (go_ret; exact ⟨ret_bool (by decide), rfl⟩)
      · rw [hs] at hw
        obtain rfl : x = 9223372036854775808 := by rw [← hw]; rfl
        have hop : ∀ t w, (binOp .quo t (.float .f64 4607182418800017408) (.float .f64 9223372036854775808)).run Tryd.prog w = .ok (.float .f64 18442240474082181120) w := fun t w => run_float_arith w .quo t .f64 _ _ _ (by decide +kernel)
        have hlt : (FloatKind.f64.format.order 18442240474082181120 0 == some .lt) = true := by decide +kernel
        go_enter Tryd.func27, Tryd.ntmps27
        go_wp2
        all_goals (go_ret; exact ⟨ret_bool (by decide), rfl⟩)
    · rw [show decide (rung x = 0) = false from by rw [decide_eq_false_iff_not]; omega] at h3
      cases hs : neg x
      · rw [show decide (0 < rung x ∧ neg x = true) = false from by rw [decide_eq_false_iff_not, hs]; simp] at h1
        clear h2
        go_enter Tryd.func27, Tryd.ntmps27
        go_wp2
        all_goals (go_ret; exact ⟨ret_bool (by decide), rfl⟩)
      · rw [show decide (0 < rung x ∧ neg x = true) = true from by rw [decide_eq_true_eq, hs]; exact ⟨h, rfl⟩] at h1
        clear h2
        go_enter Tryd.func27, Tryd.ntmps27
        go_wp2
        all_goals (go_ret; exact ⟨ret_bool (by decide), rfl⟩)
  · have ho : FloatKind.f64.format.order x 0 = none := order_nan_l hx hn
    go_enter Tryd.func27, Tryd.ntmps27
    go_wp2
    all_goals (go_ret; exact ⟨ret_bool (by simp), rfl⟩)

/-- florilegiumref01.rank -/
def rank (x : Nat) : Int := if nan x then 3 else if rung x = 9218868437227405312 then (if neg x then 0 else 2) else 1
set_option maxHeartbeats 400000 in
theorem rank_walk (x : Nat) (w : World) (hx : x < 18446744073709551616) :
    Calls Tryd.prog 28 #[.float .f64 x] w fun e w' => e = .returned (.int .i64 (rank x)) ∧ w' = w := by
  unfold rank
  have hself : (FloatKind.f64.format.order x x != some .eq) = nan x := by rw [bne, show (FloatKind.f64.format.order x x == some .eq) = !nan x from order_self hx, Bool.not_not]
  cases hn : nan x
  · rw [hn] at hself
    obtain ⟨h1, h2, h3⟩ := zero_order x hx hn
    obtain ⟨y, hy, _, he⟩ := same_twice hx hn
    have he : (FloatKind.f64.format.order x y == some .eq) = decide (rung x = 0 ∨ rung x = 9218868437227405312) := he
    have hop : ∀ t w, (binOp .mul t (.float .f64 4611686018427387904) (.float .f64 x)).run Tryd.prog w = .ok (.float .f64 y) w := fun t w => run_float_arith w .mul t .f64 _ _ _ hy
    clear h3 hy
    by_cases hi : rung x = 9218868437227405312
    · rw [show decide (rung x = 0 ∨ rung x = 9218868437227405312) = true from by rw [decide_eq_true_eq]; exact Or.inr hi] at he
      cases hs : neg x
      · rw [show decide (0 < rung x ∧ neg x = true) = false from by rw [decide_eq_false_iff_not, hs]; simp] at h1
        rw [show decide (0 < rung x ∧ neg x = false) = true from by rw [decide_eq_true_eq, hs]; exact ⟨by omega, rfl⟩] at h2
        rw [if_neg (by decide), if_pos hi, if_neg (by decide)]
        clear hi
        go_enter Tryd.func28, Tryd.ntmps28
        go_wp2
        all_goals (go_ret; exact ⟨rfl, rfl⟩)
      · rw [show decide (0 < rung x ∧ neg x = true) = true from by rw [decide_eq_true_eq, hs]; exact ⟨by omega, rfl⟩] at h1
        rw [show decide (0 < rung x ∧ neg x = false) = false from by rw [decide_eq_false_iff_not, hs]; simp] at h2
        rw [if_neg (by decide), if_pos hi, if_pos rfl]
        clear hi
        go_enter Tryd.func28, Tryd.ntmps28
        go_wp2
        all_goals (go_ret; exact ⟨rfl, rfl⟩)
    · rw [if_neg (by decide), if_neg hi]
      by_cases hz : rung x = 0
      · rw [show decide (0 < rung x ∧ neg x = true) = false from by rw [decide_eq_false_iff_not]; omega] at h1
        rw [show decide (0 < rung x ∧ neg x = false) = false from by rw [decide_eq_false_iff_not]; omega] at h2
        clear hi hz he
        go_enter Tryd.func28, Tryd.ntmps28
        go_wp2
        all_goals (go_ret; exact ⟨rfl, rfl⟩)
      · rw [show decide (rung x = 0 ∨ rung x = 9218868437227405312) = false from by rw [decide_eq_false_iff_not]; omega] at he
        cases hs : neg x
        · rw [show decide (0 < rung x ∧ neg x = true) = false from by rw [decide_eq_false_iff_not, hs]; simp] at h1
          rw [show decide (0 < rung x ∧ neg x = false) = true from by rw [decide_eq_true_eq, hs]; exact ⟨by omega, rfl⟩] at h2
          clear hi hz
          go_enter Tryd.func28, Tryd.ntmps28
          go_wp2
          all_goals (go_ret; exact ⟨rfl, rfl⟩)
        · rw [show decide (0 < rung x ∧ neg x = true) = true from by rw [decide_eq_true_eq, hs]; exact ⟨by omega, rfl⟩] at h1
          rw [show decide (0 < rung x ∧ neg x = false) = false from by rw [decide_eq_false_iff_not, hs]; simp] at h2
          clear hi hz
          go_enter Tryd.func28, Tryd.ntmps28
          go_wp2
          all_goals (go_ret; exact ⟨rfl, rfl⟩)
  · rw [hn] at hself
    go_enter Tryd.func28, Tryd.ntmps28
    go_wp2
    all_goals (go_ret; exact ⟨rfl, rfl⟩)

def lt (a b : Nat) : Bool := FloatKind.f64.format.order a b == some .lt
def zr (a : Nat) : Bool := FloatKind.f64.format.order a 0 == some .eq
def mn (a : Nat) : Bool := !nan a && neg a

theorem lt_sv {a b : Nat} (ha : a < 18446744073709551616) (hb : b < 18446744073709551616) (na : nan a = false) (nb : nan b = false) : lt a b = decide (sv a < sv b) := by
  unfold lt
  rw [show FloatKind.f64.format.order a b = some (compare (sv a) (sv b)) from order_sv ha hb na nb]
  rcases Int.lt_trichotomy (sv a) (sv b) with h | h | h
  · rw [compare_lt h]; simp [h]
  · rw [compare_eq h]; simp [h]
  · rw [compare_gt h, show decide (sv a < sv b) = false from by rw [decide_eq_false_iff_not]; omega]; rfl
theorem zr_rung {a : Nat} (ha : a < 18446744073709551616) (na : nan a = false) : zr a = decide (rung a = 0) := (zero_order a ha na).2.2

/-- THE DOCUMENT's Less IS gauge.Less -/
theorem less_ref {a b : Nat} (ha : a < 18446744073709551616) (hb : b < 18446744073709551616) :
    (rank a ≠ rank b → less a b = decide (rank a < rank b)) ∧ (rank a = rank b → rank a ≠ 1 → less a b = false) ∧
    (rank a = rank b → rank a = 1 → nan a = false ∧ nan b = false ∧ less a b = (lt a b || (zr a && (zr b && (mn a && !mn b))))) := by
  rw [less_key ha hb]
  have fa := rung_lt a
  have fb := rung_lt b
  unfold rank key
  cases na : nan a <;> cases nb : nan b
  · have ra := not_nan na
    have rb := not_nan nb
    rw [lt_sv ha hb na nb, zr_rung ha na, zr_rung hb nb]
    unfold sv mn
    rw [na, nb]
    generalize rung a = p at fa ra
    generalize rung b = q at fb rb
    by_cases ea : p = 9218868437227405312 <;> by_cases eb : q = 9218868437227405312 <;> cases neg a <;> cases neg b <;> simp only [ea, eb, sg, if_true, if_false, Bool.false_eq_true, Bool.not_true, Bool.not_false, Bool.and_true, Bool.and_false, Bool.or_false, Bool.true_and, Bool.false_and] <;> refine ⟨fun _ => ?_, fun _ _ => ?_, fun _ _ => ⟨by trivial, by trivial, ?_⟩⟩ <;> first | omega | (rw [decide_eq_decide]; omega) | (rw [decide_eq_false_iff_not]; omega) | (rw [Bool.eq_iff_iff]; simp only [Bool.or_eq_true, Bool.and_eq_true, decide_eq_true_eq]; omega)
  · have ra := not_nan na
    simp only [if_true, if_false, Bool.false_eq_true]
    generalize rung a = p at fa ra
    by_cases ea : p = 9218868437227405312 <;> cases neg a <;> simp only [ea, if_true, if_false, Bool.false_eq_true] <;> refine ⟨fun _ => ?_, fun h _ => ?_, fun h _ => ?_⟩ <;> first | omega | (rw [decide_eq_decide]; omega) | (exfalso; omega)
  · have rb := not_nan nb
    simp only [if_true, if_false, Bool.false_eq_true]
    generalize rung b = q at fb rb
    by_cases eb : q = 9218868437227405312 <;> cases neg b <;> simp only [eb, if_true, if_false, Bool.false_eq_true] <;> refine ⟨fun _ => ?_, fun h _ => ?_, fun h _ => ?_⟩ <;> first | omega | (rw [decide_eq_decide]; omega) | (exfalso; omega)
  · simp only [if_true]
    exact ⟨fun h => absurd rfl h, fun _ _ => by decide, fun _ h => absurd h (by decide)⟩

set_option maxHeartbeats 800000 in
theorem refLess_walk (a b : Nat) (w : World) (ha : a < 18446744073709551616) (hb : b < 18446744073709551616) :
    Calls Tryd.prog 18 #[.float .f64 a, .float .f64 b] w fun e w' => e = .returned (.bool (less a b)) ∧ w' = w := by
  obtain ⟨h1, h2, h3⟩ := less_ref ha hb
  have ca := fun w => rank_walk a w ha
  have cb := fun w => rank_walk b w hb
  have ma := fun w => minus_walk a w ha
  have mb := fun w => minus_walk b w hb
  by_cases hr : rank a = rank b
  · by_cases h : rank a = 1
    · obtain ⟨na, nb, h4⟩ := h3 hr h
      have hrb : rank b = 1 := by omega
      rw [h] at ca
      rw [hrb] at cb
      rw [h4]
      have CA : Hid (∀ w, Calls Tryd.prog 28 #[.float .f64 a] w fun e w' => e = .returned (.int .i64 1) ∧ w' = w) := ca
      have CB : Hid (∀ w, Calls Tryd.prog 28 #[.float .f64 b] w fun e w' => e = .returned (.int .i64 1) ∧ w' = w) := cb
      have MA : Hid (∀ w, Calls Tryd.prog 27 #[.float .f64 a] w fun e w' => e = .returned (.bool (!nan a && neg a)) ∧ w' = w) := ma
      have MB : Hid (∀ w, Calls Tryd.prog 27 #[.float .f64 b] w fun e w' => e = .returned (.bool (!nan b && neg b)) ∧ w' = w) := mb
      clear ca cb ma mb h1 h2 h3 h4 hr h hrb
      unfold lt zr mn
      cases e1 : (FloatKind.f64.format.order a b == some .lt) <;> cases e2 : (FloatKind.f64.format.order a 0 == some .eq) <;> cases e3 : (FloatKind.f64.format.order b 0 == some .eq) <;> cases e4 : neg a <;> cases e5 : neg b
      all_goals
        go_enter Tryd.func18, Tryd.ntmps18
        go_wp2_with (first
          | (go_at_call 28; with_reducible refine (CA.out _).mono ?_; rintro e w' ⟨rfl, rfl⟩)
          | (go_at_call 28; with_reducible refine (CB.out _).mono ?_; rintro e w' ⟨rfl, rfl⟩)
          | (go_at_call 27; with_reducible refine (MA.out _).mono ?_; rintro e w' ⟨rfl, rfl⟩)
          | (go_at_call 27; with_reducible refine (MB.out _).mono ?_; rintro e w' ⟨rfl, rfl⟩))
        all_goals (go_ret; exact ⟨ret_bool (by simp [na, nb]), rfl⟩)
    · rw [h2 hr h]
      rw [← hr] at cb
      generalize rank a = r at ca cb h
      have CA : Hid (∀ w, Calls Tryd.prog 28 #[.float .f64 a] w fun e w' => e = .returned (.int .i64 r) ∧ w' = w) := ca
      have CB : Hid (∀ w, Calls Tryd.prog 28 #[.float .f64 b] w fun e w' => e = .returned (.int .i64 r) ∧ w' = w) := cb
      have hne : (r == 1) = false := by rw [beq_eq_false_iff_ne]; exact h
      clear ca cb ma mb h1 h2 h3 hr h
      go_enter Tryd.func18, Tryd.ntmps18
      go_wp2_with (first
        | (go_at_call 28; with_reducible refine (CA.out _).mono ?_; rintro e w' ⟨rfl, rfl⟩)
        | (go_at_call 28; with_reducible refine (CB.out _).mono ?_; rintro e w' ⟨rfl, rfl⟩))
      all_goals (go_ret; exact ⟨rfl, rfl⟩)
  · rw [h1 hr]
    clear h1 h2 h3
    generalize rank a = r at ca hr
    generalize rank b = q at cb hr
    have CA : Hid (∀ w, Calls Tryd.prog 28 #[.float .f64 a] w fun e w' => e = .returned (.int .i64 r) ∧ w' = w) := ca
    have CB : Hid (∀ w, Calls Tryd.prog 28 #[.float .f64 b] w fun e w' => e = .returned (.int .i64 q) ∧ w' = w) := cb
    have hne : (r != q) = true := by rw [bne_iff_ne]; exact hr
    clear ca cb ma mb
    go_enter Tryd.func18, Tryd.ntmps18
    go_wp2_with (first
      | (go_at_call 28; with_reducible refine (CA.out _).mono ?_; rintro e w' ⟨rfl, rfl⟩)
      | (go_at_call 28; with_reducible refine (CB.out _).mono ?_; rintro e w' ⟨rfl, rfl⟩))
    all_goals (go_ret; exact ⟨rfl, rfl⟩)
end Go.Proofs.YtghalbecgiepmaaDoor.wk
