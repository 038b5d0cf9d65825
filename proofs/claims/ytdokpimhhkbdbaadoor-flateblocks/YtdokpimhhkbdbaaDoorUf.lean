/-
  A block, all blocks, what stands behind them.
-/
import Derived.Test.YtdokpimhhkbdbaaDoorUc
import Derived.Test.YtdokpimhhkbdbaaDoorUe
import Derived.Test.YtdokpimhhkbdbaaDoorUd
set_option linter.unusedSimpArgs false
set_option linter.unusedVariables false
namespace Go.Proofs.YtdokpimhhkbdbaaDoor.Q
open Go.RowKit

theorem left_cases {c : Cx} {r : Res} {e : Ending} {w : World} (h : Left c r e w) : (∃ p o, Hid (r = .ok (p, o)) ∧ e = .returned (.tuple #[]) ∧ Hid (Up c w p false o ∧ o.length ≤ 65536)) ∨ (∃ n : Nat, Hid (r = .error n) ∧ e = Pn n ∧ Hid (Fz c w)) := by
  unfold Left at h
  cases hr : r with
  | ok r' => obtain ⟨q, o⟩ := r'; rw [hr] at h; exact .inl ⟨q, o, rfl, h.1, h.2⟩
  | error n => rw [hr] at h; exact .inr ⟨n, rfl, h.1, h.2⟩

set_option maxRecDepth 100000 in
set_option maxHeartbeats 4000000 in
/-- One block (but one that tells its own codes). -/
theorem block_any (c : Cx) (w : World) (kind p : Nat) (out : List Nat) (h : Up c w p false out) (ho : out.length ≤ 65536) (hk : kind < 4) (hk2 : kind ≠ 2) :
    Calls Tryd.prog 50 #[.pointer (some ⟨c.ub, 0, none⟩), .int .i64 (kind : Int)] w fun e w' => Left c (blkAt c.bs kind p out) e w' := by
  rcases (show kind = 0 ∨ kind = 1 ∨ kind = 3 by omega) with rfl | rfl | rfl
  · have hs := mkHid (stored_any c w p out h ho)
    have e : blkAt c.bs 0 p out = stoAt c.bs p out := rfl
    rw [e]
    clear h
    go_enter Tryd.func50, Tryd.ntmps50
    go_wp2_with (first
      | (go_at_call 65; (with_reducible refine hs.out.mono ?_); rintro e w1 hl
         have HL := mkHid hl
         rcases left_cases hl with ⟨q, o, H1, rfl, H2⟩ | ⟨n, H1, rfl, H2⟩
         all_goals clear hl))
    · go_end0
      exact HL.out
    · exact ⟨rfl, HL.out⟩
  · obtain ⟨v, h1, h2⟩ := h.u
    have c2 := cells4_2 c h1
    have c3 := cells4_3 c h1
    have hs := mkHid (coded_any c w p out h ho)
    have e : blkAt c.bs 1 p out = codAt c.bs (8 * c.bs.length + 1 - p) p out := rfl
    rw [e]
    clear h h1 h2
    go_enter Tryd.func50, Tryd.ntmps50
    go_wp2_with (first
      | (go_at_call 66; (with_reducible refine hs.out.mono ?_); rintro e w1 hl
         have HL := mkHid hl
         rcases left_cases hl with ⟨q, o, H1, rfl, H2⟩ | ⟨n, H1, rfl, H2⟩
         all_goals clear hl))
    · go_end0
      exact HL.out
    · exact ⟨rfl, HL.out⟩
  · have HU := mkHid h
    clear h
    go_enter Tryd.func50, Tryd.ntmps50
    go_wp2
    exact ⟨rfl, rfl, HU.out.fz⟩

set_option maxRecDepth 100000 in
set_option maxHeartbeats 4000000 in
/-- Behind the last block: noughts to the end of its byte. -/
theorem behind_any (c : Cx) (w : World) (p : Nat) (out : List Nat) (h : Up c w p false out) :
    Calls Tryd.prog 51 #[.pointer (some ⟨c.ub, 0, none⟩)] w fun e w' => (8 * c.bs.length - p < 8 ∧ dig c.bs p (8 * c.bs.length - p) = 0 ∧ e = .returned (.tuple #[]) ∧ (∃ p', Up c w' p' false out)) ∨ (¬ (8 * c.bs.length - p < 8 ∧ dig c.bs p (8 * c.bs.length - p) = 0) ∧ e = Pn 2 ∧ Fz c w') := by
  have c0 := h.c0
  have HU := mkHid h
  have hlf := mkHid (left_c c w p out h)
  obtain ⟨r, hr⟩ : ∃ r, r = 8 * c.bs.length - p := ⟨_, rfl⟩
  rw [← hr] at hlf ⊢
  have HR := mkHid hr
  have hnt := mkHid need_true
  have hnf := mkHid need_false
  by_cases h8 : r < 8
  · have hdg := mkHid (fun w h => digits_ok c w p r out h (by omega) (by have := HU.out.le; omega))
    obtain ⟨x, hx⟩ : ∃ x, x = dig c.bs p r := ⟨_, rfl⟩
    rw [← hx] at hdg ⊢
    have h8i : (r : Int) < 8 := by omega
    have H8 := mkHid h8
    clear h hr hx h8
    by_cases hx0 : x = 0
    · subst hx0
      go_enter Tryd.func51, Tryd.ntmps51
      go_wp2_with (first
        | (go_at_call 68; (with_reducible refine hlf.out.mono ?_); rintro e w1 ⟨rfl, HV⟩)
        | (go_at_call 49; (with_reducible refine (hdg.out _ HV.out).mono ?_); rintro e w2 ⟨rfl, HW⟩)
        | (go_at_call 63; (with_reducible refine (hnt.out _).mono ?_); rintro e w3 ⟨rfl, hy⟩; subst hy))
      go_end0
      exact .inl ⟨H8.out, by trivial, rfl, _, HW⟩
    · have hne : ((x : Int) == 0) = false := by simp; omega
      have HX := mkHid hx0
      clear hx0
      go_enter Tryd.func51, Tryd.ntmps51
      go_wp2_with (first
        | (go_at_call 68; (with_reducible refine hlf.out.mono ?_); rintro e w1 ⟨rfl, HV⟩)
        | (go_at_call 49; (with_reducible refine (hdg.out _ HV.out).mono ?_); rintro e w2 ⟨rfl, hW⟩
           have HW := mkHid hW
           clear hW)
        | (go_at_call 63; (with_reducible refine (hnf.out _).mono ?_); rintro e w3 ⟨rfl, hy⟩; subst hy))
      exact ⟨rfl, .inr ⟨fun hh => HX.out hh.2, rfl, HW.out.fz⟩⟩
  · have h8i : ¬ (r : Int) < 8 := by omega
    have H8 := mkHid h8
    clear h hr h8
    go_enter Tryd.func51, Tryd.ntmps51
    go_wp2_with (first
      | (go_at_call 68; (with_reducible refine hlf.out.mono ?_); rintro e w1 ⟨rfl, HV⟩)
      | (go_at_call 63; (with_reducible refine (hnf.out _).mono ?_); rintro e w3 ⟨rfl, hy⟩; subst hy))
    exact ⟨rfl, .inr ⟨fun hh => H8.out hh.1, rfl, HV.out.fz⟩⟩

end Go.Proofs.YtdokpimhhkbdbaaDoor.Q
