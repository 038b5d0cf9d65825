/-
  The walk of the document's own text of a share: it is gauge's.
-/
import Derived.Test.YtghalbecgiepmaaDoorWki
namespace Go.Proofs.YtghalbecgiepmaaDoor.wk
open Go.Proofs.YtghalbecgiepmaaDoor.flo Go.RowKit
set_option linter.unusedSimpArgs false
set_option linter.unusedVariables false

theorem digits_any (z : Int) (w : World) (h0 : 0 ≤ z) (h1 : z ≤ 9223372036854775807) :
    Calls Tryd.prog 29 #[.int .i64 z] w fun e w' => e = .returned (.string (dec z)) ∧ Below w.heap.size w w' :=
  (digits_walk z.toNat z w h0 (by omega) h1).mono fun e w' ⟨he, m, hm⟩ => ⟨he, by subst hm; exact ⟨rfl, rfl, rfl, Nat.le_refl _, fun _ _ => rfl⟩⟩

/-- int(x * 100), where x is below 10^15 -/
theorem int_cents {x y : Nat} (hy : Cents x y) (w : World) : (convert 23 3 (.float .f64 y)).run Tryd.prog w = .ok (.int .i64 (ones y : Nat)) w := by
  refine run_convert_float_int w 23 3 .f64 .i64 y _ (by rw [Tryd.underlying23]; rfl) Tryd.underlying3 ?_
  have hr : FloatKind.f64.decode y = .number false (mg (rung y)) (-1074 + (ex (rung y) : Int)) := by
    rw [← hy.neg]; exact read_fin hy.lt hy.fin
  have ho := hy.ones
  unfold floatToIntVal
  rw [hr, toInt_eq]
  simp only
  unfold flo.ones at ho ⊢
  generalize vl (rung y) / U = o at ho ⊢
  rw [if_pos]
  exact ⟨by show (-9223372036854775808 : Int) ≤ _; omega, by show _ ≤ (9223372036854775807 : Int); omega⟩

/-- the document's text of a number without its sign, behind what it begins with -/
theorem tail_form (s : ByteArray) (c : Int) : ((s ++ dec (c / 100)) ++ ⟨#[46]⟩) ++ dec (c / 10 % 10) ++ dec (c % 10) = s ++ cent c := by
  unfold cent
  rw [show c % 100 / 10 = c / 10 % 10 by omega]
  simp only [ByteArray.append_assoc]

theorem empty_cent (c : Int) : (⟨#[]⟩ : ByteArray) ++ cent c = cent c := by apply ByteArray.ext; simp

set_option maxHeartbeats 1000000 in
theorem refGauge_walk (x : Nat) (w : World) (hx : x < 18446744073709551616) :
    Calls Tryd.prog 19 #[.float .f64 x] w fun e w' => e = .returned (.string (text x)) ∧ Below w.heap.size w w' := by
  have CR := fun w => rank_walk x w hx
  have CM := fun w => minus_walk x w hx
  unfold rank at CR
  unfold text
  cases hn : nan x
  · by_cases hi : rung x = 9218868437227405312
    · cases hs : neg x
      · rw [hn, hs] at CR
        rw [if_neg (by decide), if_pos hi, if_neg (by decide)] at CR
        have C : Hid (∀ w, Calls Tryd.prog 28 #[.float .f64 x] w fun e w' => e = .returned (.int .i64 2) ∧ w' = w) := CR
        rw [if_neg (by decide), if_neg (by decide)]
        unfold uns
        rw [if_pos hi]
        clear CR CM hi
        go_enter Tryd.func19, Tryd.ntmps19
        go_wp2_with (go_at_call 28; with_reducible refine (C.out _).mono ?_; rintro e w' ⟨rfl, rfl⟩)
        go_ret
        exact ⟨rfl, Below.refl _ _⟩
      · rw [hn, hs] at CR
        rw [if_neg (by decide), if_pos hi, if_pos rfl] at CR
        have C : Hid (∀ w, Calls Tryd.prog 28 #[.float .f64 x] w fun e w' => e = .returned (.int .i64 0) ∧ w' = w) := CR
        rw [if_neg (by decide), if_pos rfl]
        unfold uns
        rw [(rung_rung x).1, if_pos hi]
        clear CR CM hi
        go_enter Tryd.func19, Tryd.ntmps19
        go_wp2_with (go_at_call 28; with_reducible refine (C.out _).mono ?_; rintro e w' ⟨rfl, rfl⟩)
        go_ret
        exact ⟨ret_string (by decide), Below.refl _ _⟩
    · rw [hn] at CR CM
      rw [if_neg (by decide), if_neg hi] at CR
      have C : Hid (∀ w, Calls Tryd.prog 28 #[.float .f64 x] w fun e w' => e = .returned (.int .i64 1) ∧ w' = w) := CR
      clear CR
      cases hs : neg x
      · rw [hs] at CM
        have M : Hid (∀ w, Calls Tryd.prog 27 #[.float .f64 x] w fun e w' => e = .returned (.bool false) ∧ w' = w) := CM
        rw [if_neg (by decide), if_neg (by decide)]
        unfold uns
        rw [if_neg hi]
        have hbo := big_order x hx hn hs
        by_cases hb : 4831355200913801216 ≤ rung x
        · rw [if_pos hb]
          rw [show decide (4831355200913801216 ≤ rung x) = true from by rw [decide_eq_true_eq]; exact hb] at hbo
          clear CM hi hb
          go_enter Tryd.func19, Tryd.ntmps19
          go_wp2_with (first | (go_at_call 28; with_reducible refine (C.out _).mono ?_; rintro e w' ⟨rfl, rfl⟩) | (go_at_call 27; with_reducible refine (M.out _).mono ?_; rintro e w' ⟨rfl, rfl⟩))
          go_ret
          exact ⟨ret_string (by decide), Below.refl _ _⟩
        · rw [if_neg hb]
          rw [show decide (4831355200913801216 ≤ rung x) = false from by rw [decide_eq_false_iff_not]; exact hb] at hbo
          have hy := cents_of hx hs (by omega)
          have hop : ∀ t w, (binOp .mul t (.float .f64 x) (.float .f64 4636737291354636288)).run Tryd.prog w = .ok (.float .f64 (mul100 x)) w := fun t w => run_float_arith w .mul t .f64 _ _ _ hy.mul
          have hcv := int_cents hy
          have ho := hy.ones
          generalize mul100 x = y at hy hop hcv ho
          generalize ones y = c at hcv ho
          clear CM hi hb hy
          have z1 := dec_size ((c : Int) / 100) (by omega) (by omega)
          have z2 := dec_size ((c : Int) / 10 % 10) (by omega) (by omega)
          have z3 := dec_size ((c : Int) % 10) (by omega) (by omega)
          go_enter Tryd.func19, Tryd.ntmps19
          go_wp2_with (first | (go_at_call 28; with_reducible refine (C.out _).mono ?_; rintro e w' ⟨rfl, rfl⟩) | (go_at_call 27; with_reducible refine (M.out _).mono ?_; rintro e w' ⟨rfl, rfl⟩) | (go_at_call 29; refine (digits_any _ _ (by omega) (by omega)).mono ?_; rintro e w' ⟨rfl, hb'⟩))
          rename_i u1 u2 c1 u3 c2
          go_ret
          exact ⟨ret_string ((tail_form _ _).trans (empty_cent _)), c1.trans ((c2.mono c1.size).trans (hb'.mono (Nat.le_trans c1.size c2.size)))⟩
      · rw [hs] at CM
        have M : Hid (∀ w, Calls Tryd.prog 27 #[.float .f64 x] w fun e w' => e = .returned (.bool true) ∧ w' = w) := CM
        have hng : ∀ w, (Op.unary .neg (.float .f64 x)).run Tryd.prog w = .ok (.float .f64 (rung x)) w := fun w => by
          rw [show Op.unary .neg (.float .f64 x) = pure (.float .f64 (Op.negFloat .f64 x)) from rfl, neg_flip hx hs]; rfl
        rw [if_neg (by decide), if_pos rfl]
        obtain ⟨r1, r2, r3⟩ := rung_rung x
        have hl := rung_lt x
        unfold uns
        rw [r1, if_neg hi]
        have hbo := big_order (rung x) (by omega) (by rw [r3]; exact hn) r2
        rw [r1] at hbo
        by_cases hb : 4831355200913801216 ≤ rung x
        · rw [if_pos hb]
          rw [show decide (4831355200913801216 ≤ rung x) = true from by rw [decide_eq_true_eq]; exact hb] at hbo
          clear CM hi hb r1 r2 r3 hl
          generalize rung x = z at hng hbo
          go_enter Tryd.func19, Tryd.ntmps19
          go_wp2_with (first | (go_at_call 28; with_reducible refine (C.out _).mono ?_; rintro e w' ⟨rfl, rfl⟩) | (go_at_call 27; with_reducible refine (M.out _).mono ?_; rintro e w' ⟨rfl, rfl⟩))
          go_ret
          exact ⟨ret_string (by decide), Below.refl _ _⟩
        · rw [if_neg hb]
          rw [show decide (4831355200913801216 ≤ rung x) = false from by rw [decide_eq_false_iff_not]; exact hb] at hbo
          have hy := cents_of (x := rung x) (by omega) r2 (by rw [r1]; omega)
          have hop : ∀ t w, (binOp .mul t (.float .f64 (rung x)) (.float .f64 4636737291354636288)).run Tryd.prog w = .ok (.float .f64 (mul100 (rung x))) w := fun t w => run_float_arith w .mul t .f64 _ _ _ hy.mul
          have hcv := int_cents hy
          have ho := hy.ones
          generalize mul100 (rung x) = y at hy hop hcv ho
          generalize ones y = c at hcv ho
          clear CM hi hb hy r1 r2 r3 hl
          generalize rung x = z at hng hbo hop
          have z1 := dec_size ((c : Int) / 100) (by omega) (by omega)
          have z2 := dec_size ((c : Int) / 10 % 10) (by omega) (by omega)
          have z3 := dec_size ((c : Int) % 10) (by omega) (by omega)
          go_enter Tryd.func19, Tryd.ntmps19
          go_wp2_with (first | (go_at_call 28; with_reducible refine (C.out _).mono ?_; rintro e w' ⟨rfl, rfl⟩) | (go_at_call 27; with_reducible refine (M.out _).mono ?_; rintro e w' ⟨rfl, rfl⟩) | (go_at_call 29; refine (digits_any _ _ (by omega) (by omega)).mono ?_; rintro e w' ⟨rfl, hb'⟩))
          rename_i u1 u2 c1 u3 c2
          go_ret
          exact ⟨ret_string (tail_form _ _), c1.trans ((c2.mono c1.size).trans (hb'.mono (Nat.le_trans c1.size c2.size)))⟩
  · rw [hn] at CR
    rw [if_pos rfl] at CR
    have C : Hid (∀ w, Calls Tryd.prog 28 #[.float .f64 x] w fun e w' => e = .returned (.int .i64 3) ∧ w' = w) := CR
    rw [if_pos rfl]
    clear CR CM
    go_enter Tryd.func19, Tryd.ntmps19
    go_wp2_with (go_at_call 28; with_reducible refine (C.out _).mono ?_; rintro e w' ⟨rfl, rfl⟩)
    go_ret
    exact ⟨rfl, Below.refl _ _⟩
end Go.Proofs.YtghalbecgiepmaaDoor.wk
