/-
  The walk of the document's example.
-/
import Derived.Test.YtghalbecgiepmaaDoorWkc
namespace Go.Proofs.YtghalbecgiepmaaDoor.wk
open Go.Proofs.YtghalbecgiepmaaDoor.flo Go.RowKit
set_option linter.unusedSimpArgs false
set_option linter.unusedVariables false

set_option maxHeartbeats 400000 in
theorem wakes_of (a b : Nat) (w : World) (ha : a < 18446744073709551616) (hb : b < 18446744073709551616)
    (c1 : ∀ w, Calls Tryd.prog 9 #[.int .i64 1, .int .i64 3] w fun e w' => e = .returned (.float .f64 a) ∧ w' = w)
    (c2 : ∀ w, Calls Tryd.prog 9 #[.int .i64 0, .int .i64 0] w fun e w' => e = .returned (.float .f64 b) ∧ w' = w)
    (T1 : ∀ w, Tab w → Calls Tryd.prog 12 #[.float .f64 a] w fun e w' => e = .returned (.string ⟨#[48, 46, 51, 51]⟩) ∧ Below w.heap.size w w')
    (T2 : ∀ w, Tab w → Calls Tryd.prog 12 #[.float .f64 b] w fun e w' => e = .returned (.string ⟨#[110, 111, 110, 101]⟩) ∧ Below w.heap.size w w') (htab : Tab w) :
    Calls Tryd.prog 14 #[] w fun e w' => e = .returned (.bool true) ∧ Below w.heap.size w w' := by
  have C1 : Hid (∀ w, Calls Tryd.prog 9 #[.int .i64 1, .int .i64 3] w fun e w' => e = .returned (.float .f64 a) ∧ w' = w) := c1
  have C2 : Hid (∀ w, Calls Tryd.prog 9 #[.int .i64 0, .int .i64 0] w fun e w' => e = .returned (.float .f64 b) ∧ w' = w) := c2
  have D1 : Hid (∀ w, Tab w → Calls Tryd.prog 12 #[.float .f64 a] w fun e w' => e = .returned (.string ⟨#[48, 46, 51, 51]⟩) ∧ Below w.heap.size w w') := T1
  have D2 : Hid (∀ w, Tab w → Calls Tryd.prog 12 #[.float .f64 b] w fun e w' => e = .returned (.string ⟨#[110, 111, 110, 101]⟩) ∧ Below w.heap.size w w') := T2
  clear c1 c2 T1 T2
  go_enter Tryd.func14, Tryd.ntmps14
  go_wp2_with (go_at_call 9; refine (C1.out _).mono ?_; rintro e w' ⟨rfl, rfl⟩)
  go_wp2_with (go_at_call 12; refine (D1.out _ htab).mono ?_; rintro e w1 ⟨rfl, hb1⟩)
  have htab1 := tab_below htab hb1
  go_wp2_with (go_at_call 9; refine (C2.out _).mono ?_; rintro e w' ⟨rfl, rfl⟩)
  go_wp2_with (go_at_call 12; refine (D2.out _ htab1).mono ?_; rintro e w2 ⟨rfl, hb2⟩)
  go_ret
  exact ⟨rfl, hb1.trans (hb2.mono hb1.size)⟩

theorem wakes_walk (w : World) (htab : Tab w) :
    Calls Tryd.prog 14 #[] w fun e w' => e = .returned (.bool true) ∧ Below w.heap.size w w' := by
  refine wakes_of (share 1 3) (share 0 0) w (share_lt 1 3) (share_lt 0 0) (share_any 1 3) (share_any 0 0) ?_ ?_ htab
  · intro w h
    have := text_walk (share 1 3) w (share_lt 1 3) h
    rw [text_third] at this
    exact this
  · intro w h
    have := text_walk (share 0 0) w (share_lt 0 0) h
    rw [text_none] at this
    exact this
end Go.Proofs.YtghalbecgiepmaaDoor.wk
