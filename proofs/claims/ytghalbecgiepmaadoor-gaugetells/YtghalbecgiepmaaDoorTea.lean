/-
  The walk of the statement that holds gauge against the document's own answers.
-/
import Derived.Test.YtghalbecgiepmaaDoorWkj
namespace Go.Proofs.YtghalbecgiepmaaDoor.wk
open Go.Proofs.YtghalbecgiepmaaDoor.flo Go.RowKit
set_option linter.unusedSimpArgs false
set_option linter.unusedVariables false

theorem text_hide (x : Nat) (w : World) (hx : x < 18446744073709551616) (htab : Tab w) : Calls Tryd.prog 12 #[.float .f64 x] w fun e w' => ∃ s, e = .returned (.string s) ∧ Hid (s = text x) ∧ Below w.heap.size w w' :=
  (text_walk x w hx htab).mono fun e w' ⟨he, hw⟩ => ⟨_, he, rfl, hw⟩
theorem share_hide (p q : Int) (w : World) : Calls Tryd.prog 9 #[.int .i64 p, .int .i64 q] w fun e w' => ∃ x, e = .returned (.float .f64 x) ∧ Hid (x = share p q) ∧ w' = w :=
  (share_any p q w).mono fun e w' ⟨he, hw⟩ => ⟨_, he, rfl, hw⟩

set_option maxHeartbeats 1000000 in
/-- the last statement's walk, whatever was drawn for p and q -/
theorem tells_third (a b how c d other : Int) (x y : Nat) (w : World) (hx : x < 18446744073709551616) (hy : y < 18446744073709551616) (hh : how.tmod 3 = 0) (htab : Tab w) :
    Calls Tryd.prog 5 #[.int .i64 a, .int .i64 b, .int .i64 how, .int .i64 c, .int .i64 d, .int .i64 other, .float .f64 x, .float .f64 y] w fun e w' => e = .returned (.bool true) ∧ Below w.heap.size w w' := by
  have X1 : Hid (∀ w, Calls Tryd.prog 15 #[.int .i64 a, .int .i64 b, .int .i64 how, .float .f64 x] w fun e w' => ∃ y, e = .returned (.float .f64 y) ∧ y < 18446744073709551616 ∧ Below w.heap.size w w') := fun w => x_walk a b how x w hx
  have X2 : Hid (∀ w, Calls Tryd.prog 15 #[.int .i64 c, .int .i64 d, .int .i64 other, .float .f64 y] w fun e w' => ∃ z, e = .returned (.float .f64 z) ∧ z < 18446744073709551616 ∧ Below w.heap.size w w') := fun w => x_walk c d other y w hy
  go_enter Tryd.func5, Tryd.ntmps5
  go_wp2_with (go_at_call 15; with_reducible refine (X1.out _).mono ?_; rintro e w1 ⟨p, rfl, hp, b1⟩)
  have htab1 := tab_below htab b1
  go_wp2_with (first | (go_at_call 15; with_reducible refine (X2.out _).mono ?_; rintro e w2 ⟨q, rfl, hq, b2⟩) | (go_at_call 8; refine (keep_walk _ _ _ (by omega) (by omega)).mono ?_; rintro e w' ⟨rfl, rfl⟩) | (go_at_call 9; refine (share_hide _ _ _).mono ?_; rintro e w' ⟨u, rfl, hu, rfl⟩))
  have hul : u < 18446744073709551616 := by rw [hu.out]; exact share_lt _ _
  have htab2 := tab_below htab1 b2
  go_wp2_with (go_at_call 17; refine (refShare_walk _ _ _).mono ?_; rintro e w3 ⟨v, rfl, hv, hrel, b3⟩)
  rw [← hu.out] at hrel
  have htab3 := tab_below htab2 b3
  have HA : Hid (∀ w, Calls Tryd.prog 16 #[.float .f64 u, .float .f64 v] w fun e w' => e = .returned (.bool true) ∧ w' = w) := fun w => alike_walk u v w hul hv hrel
  clear hrel
  cases e1 : less p q <;> cases e2 : less q p
  all_goals
    go_wp2_with (first
      | (go_at_call 16; with_reducible refine (HA.out _).mono ?_; rintro e w' ⟨rfl, rfl⟩)
      | (go_at_call 10; refine (less_walk _ _ _ hp hq).mono ?_; rintro e w' ⟨rfl, rfl⟩)
      | (go_at_call 18; with_reducible refine (refLess_walk p q _ hp hq).mono ?_; rintro e w' ⟨rfl, rfl⟩)
      | (go_at_call 18; with_reducible refine (refLess_walk q p _ hq hp).mono ?_; rintro e w' ⟨rfl, rfl⟩)
      | (go_at_call 11; refine (same_walk _ _ _ hp hq).mono ?_; rintro e w' ⟨rfl, rfl⟩)
      | (go_at_call 12; refine (text_walk _ _ hp htab3).mono ?_; rintro e w4 ⟨rfl, b4⟩)
      | (go_at_call 19; refine (refGauge_walk _ _ hp).mono ?_; rintro e w5 ⟨rfl, b5⟩))
    have htab4 := tab_below (tab_below htab3 b4) b5
    go_wp2_with (go_at_call 14; refine (wakes_walk _ htab4).mono ?_; rintro e w6 ⟨rfl, b6⟩)
    go_ret
    have s1 := b1.size
    have s2 := b2.size
    have s3 := b3.size
    have s4 := b4.size
    have s5 := b5.size
    exact ⟨rfl, b1.trans ((b2.mono (by omega)).trans ((b3.mono (by omega)).trans ((b4.mono (by omega)).trans ((b5.mono (by omega)).trans (b6.mono (by omega))))))⟩

set_option maxHeartbeats 1000000 in
/-- the last statement's walk, whatever was drawn for p and q -/
theorem tells_other (a b how c d other : Int) (x y : Nat) (w : World) (hx : x < 18446744073709551616) (hy : y < 18446744073709551616) (hh : (how.tmod 3 == 0) = false) (htab : Tab w) :
    Calls Tryd.prog 5 #[.int .i64 a, .int .i64 b, .int .i64 how, .int .i64 c, .int .i64 d, .int .i64 other, .float .f64 x, .float .f64 y] w fun e w' => e = .returned (.bool true) ∧ Below w.heap.size w w' := by
  have X1 : Hid (∀ w, Calls Tryd.prog 15 #[.int .i64 a, .int .i64 b, .int .i64 how, .float .f64 x] w fun e w' => ∃ y, e = .returned (.float .f64 y) ∧ y < 18446744073709551616 ∧ Below w.heap.size w w') := fun w => x_walk a b how x w hx
  have X2 : Hid (∀ w, Calls Tryd.prog 15 #[.int .i64 c, .int .i64 d, .int .i64 other, .float .f64 y] w fun e w' => ∃ z, e = .returned (.float .f64 z) ∧ z < 18446744073709551616 ∧ Below w.heap.size w w') := fun w => x_walk c d other y w hy
  go_enter Tryd.func5, Tryd.ntmps5
  go_wp2_with (go_at_call 15; with_reducible refine (X1.out _).mono ?_; rintro e w1 ⟨p, rfl, hp, b1⟩)
  have htab1 := tab_below htab b1
  go_wp2_with (first | (go_at_call 15; with_reducible refine (X2.out _).mono ?_; rintro e w2 ⟨q, rfl, hq, b2⟩) | (go_at_call 8; refine (keep_walk _ _ _ (by omega) (by omega)).mono ?_; rintro e w' ⟨rfl, rfl⟩) | (go_at_call 9; refine (share_hide _ _ _).mono ?_; rintro e w' ⟨u, rfl, hu, rfl⟩))
  have hul : u < 18446744073709551616 := by rw [hu.out]; exact share_lt _ _
  have htab2 := tab_below htab1 b2
  go_wp2_with (go_at_call 17; refine (refShare_walk _ _ _).mono ?_; rintro e w3 ⟨v, rfl, hv, hrel, b3⟩)
  rw [← hu.out] at hrel
  have htab3 := tab_below htab2 b3
  have HA : Hid (∀ w, Calls Tryd.prog 16 #[.float .f64 u, .float .f64 v] w fun e w' => e = .returned (.bool true) ∧ w' = w) := fun w => alike_walk u v w hul hv hrel
  clear hrel
  cases e1 : less p q <;> cases e2 : less q p
  all_goals
    go_wp2_with (first
      | (go_at_call 16; with_reducible refine (HA.out _).mono ?_; rintro e w' ⟨rfl, rfl⟩)
      | (go_at_call 10; refine (less_walk _ _ _ hp hq).mono ?_; rintro e w' ⟨rfl, rfl⟩)
      | (go_at_call 18; with_reducible refine (refLess_walk p q _ hp hq).mono ?_; rintro e w' ⟨rfl, rfl⟩)
      | (go_at_call 18; with_reducible refine (refLess_walk q p _ hq hp).mono ?_; rintro e w' ⟨rfl, rfl⟩)
      | (go_at_call 11; refine (same_walk _ _ _ hp hq).mono ?_; rintro e w' ⟨rfl, rfl⟩)
      | (go_at_call 12; refine (text_walk _ _ hp htab3).mono ?_; rintro e w4 ⟨rfl, b4⟩)
      | (go_at_call 19; refine (refGauge_walk _ _ hp).mono ?_; rintro e w5 ⟨rfl, b5⟩))
    have htab4 := tab_below (tab_below htab3 b4) b5
    go_wp2_with (go_at_call 14; refine (wakes_walk _ htab4).mono ?_; rintro e w6 ⟨rfl, b6⟩)
    go_ret
    have s1 := b1.size
    have s2 := b2.size
    have s3 := b3.size
    have s4 := b4.size
    have s5 := b5.size
    exact ⟨rfl, b1.trans ((b2.mono (by omega)).trans ((b3.mono (by omega)).trans ((b4.mono (by omega)).trans ((b5.mono (by omega)).trans (b6.mono (by omega))))))⟩

theorem tells_walk (a b how c d other : Int) (x y : Nat) (w : World) (hx : x < 18446744073709551616) (hy : y < 18446744073709551616) (htab : Tab w) :
    Calls Tryd.prog 5 #[.int .i64 a, .int .i64 b, .int .i64 how, .int .i64 c, .int .i64 d, .int .i64 other, .float .f64 x, .float .f64 y] w fun e w' => e = .returned (.bool true) ∧ Below w.heap.size w w' := by
  by_cases h : how.tmod 3 = 0
  · exact tells_third a b how c d other x y w hx hy h htab
  · exact tells_other a b how c d other x y w hx hy (by rw [beq_eq_false_iff_ne]; exact h) htab
end Go.Proofs.YtghalbecgiepmaaDoor.wk
