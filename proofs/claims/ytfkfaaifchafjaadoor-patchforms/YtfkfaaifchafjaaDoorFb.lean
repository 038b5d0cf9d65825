/-
  next walked.
-/
import Derived.Test.YtfkfaaifchafjaaDoorFa
set_option linter.unusedSimpArgs false
set_option linter.unusedVariables false
namespace Go.Proofs.YtfkfaaifchafjaaDoor
open Go.RowKit

theorem Rd.cells {B : Nat} {w : World} {R : Nat} {rest : Txt} {n : Nat} {p : Pat} (h : Rd B w R rest n p) : w.cell? ⟨R, 0, none⟩ = some (.string (str rest)) ∧ w.cell? ⟨R, 1, none⟩ = some (.int .i64 (n : Int)) ∧ w.cell? ⟨R, 2, none⟩ = some (.string (str p.1)) ∧ w.cell? ⟨R, 3, none⟩ = some (.bool p.2.1) ∧ (∀ o, w.frozen? ⟨R, o, none⟩ = false) := by
  obtain ⟨nv, cv, h1, _⟩ := h.m
  have := cell6 h1
  exact ⟨this.1, this.2.1, this.2.2.1, this.2.2.2.1, fun o => free_at h1 o⟩

theorem below_drewB {B : Nat} {a w : World} (h : Below B a w) (n : Nat) : Below B a (w.drewN n) := ⟨h.os, h.tape, h.output, h.size, h.block⟩

set_option maxHeartbeats 1000000 in
theorem next_yes (B : Nat) (w : World) (R : Nat) (rest : Txt) (n : Nat) (p : Pat) (h : Rd B w R rest n p) (hl : rest.length ≤ 1000000) (hn : n ≤ 1000000) (t r : ByteArray) (ht : t = str (cutB 10 rest).1) (hr : r = str (cutB 10 rest).2.1) (hc : (cutB 10 rest).2.2 = true) :
    Calls Tryd.prog 42 #[.pointer (some ⟨R, 0, none⟩)] w fun e w' => e = .returned (.string t) ∧ Rd B w' R (cutB 10 rest).2.1 (n + 1) p ∧ Kp B w w' := by
  have kc := cut_full (str rest) 10 (by rw [str_size]; exact hl) t r true ht hr hc.symm
  have hwn : wrap64 ((n : Int) + 1) = (n : Int) + 1 := by unfold wrap64; omega
  obtain ⟨c0, c1, c2, c3, zz⟩ := h.cells
  obtain ⟨h1, b1⟩ := h.cell 1 (.int .i64 ((n : Int) + 1)) rest (n + 1) p rfl (fun c d => rfl)
  have z0 := zz 0
  have z1 := zz 1
  have H1 := mkHid h1
  have HB1 := mkHid b1
  have HR := mkHid hr
  clear h h1 b1 hl hn ht hr hc zz
  go_enter Tryd.func42, Tryd.ntmps42
  go_wp2_with (first
    | (go_at_call 58; (with_reducible refine (kc.out _ H1.out.e.e).mono ?_); rintro e w2 ⟨rfl, m, rfl⟩
       have H2 := mkHid (H1.out.drew m H1.out.size)
       obtain ⟨d0, d1, d2, d3, dz⟩ := H2.out.cells
       have dz0 := dz 0
       clear dz)
    | (go_at_call 44; (with_reducible refine (need_true _ _).mono ?_); rintro e w3 ⟨rfl, rfl⟩))
  go_ret
  obtain ⟨h3, b3⟩ := H2.out.cell 0 (.string r) (cutB 10 rest).2.1 (n + 1) p rfl (fun c d => by rw [HR.out]; rfl)
  exact ⟨rfl, h3, (kp_drewN HB1.out m).trans b3⟩

set_option maxHeartbeats 1000000 in
theorem next_no (B : Nat) (w : World) (R : Nat) (rest : Txt) (n : Nat) (p : Pat) (h : Rd B w R rest n p) (hl : rest.length ≤ 1000000) (hn : n ≤ 1000000) (hc : (cutB 10 rest).2.2 = false) :
    Calls Tryd.prog 42 #[.pointer (some ⟨R, 0, none⟩)] w fun e w' => e = Pn ((n : Int) + 1) ∧ Kp B w w' := by
  have kc := cut_full (str rest) 10 (by rw [str_size]; exact hl) _ _ false rfl rfl hc.symm
  have hwn : wrap64 ((n : Int) + 1) = (n : Int) + 1 := by unfold wrap64; omega
  obtain ⟨c0, c1, c2, c3, zz⟩ := h.cells
  obtain ⟨h1, b1⟩ := h.cell 1 (.int .i64 ((n : Int) + 1)) rest (n + 1) p rfl (fun c d => rfl)
  have z1 := zz 1
  have H1 := mkHid h1
  have HB1 := mkHid b1
  clear h h1 b1 hl hn hc zz
  go_enter Tryd.func42, Tryd.ntmps42
  go_wp2_with (first
    | (go_at_call 58; (with_reducible refine (kc.out _ H1.out.e.e).mono ?_); rintro e w2 ⟨rfl, m, rfl⟩
       have H2 := mkHid (H1.out.drew m H1.out.size))
    | (go_at_call 44; (with_reducible refine (need_false R ((n : Int) + 1) _ H2.out.cells.2.1).mono ?_); rintro e w3 ⟨rfl, rfl⟩))
  exact ⟨rfl, rfl, kp_drewN HB1.out m⟩

def isPT (w : Txt) : Bool := decide (w = wPatch) || decide (w = wTag)

set_option maxHeartbeats 1000000 in
theorem first_yes (B : Nat) (w : World) (R : Nat) (rest : Txt) (n : Nat) (p : Pat) (h : Rd B w R rest n p) (s : ByteArray) (hl : s.size ≤ 1000000) (h1 : isPT (cutB 32 s.data.toList).1 = true) (h2 : rightL (cutB 32 s.data.toList).2.1 = true) :
    Calls Tryd.prog 41 #[.pointer (some ⟨R, 0, none⟩), .string s] w fun e w' => e = .returned (.tuple #[]) ∧ Rd B w' R rest n ((cutB 32 s.data.toList).2.1, decide ((cutB 32 s.data.toList).1 = wTag), p.2.2) ∧ Kp B w w' := by
  obtain ⟨t, ht⟩ : ∃ t, t = str (cutB 32 s.data.toList).1 := ⟨_, rfl⟩
  obtain ⟨r, hr⟩ : ∃ r, r = str (cutB 32 s.data.toList).2.1 := ⟨_, rfl⟩
  obtain ⟨f, hf⟩ : ∃ f, f = (cutB 32 s.data.toList).2.2 := ⟨_, rfl⟩
  have kc := cut_full s 32 hl t r f ht hr hf
  obtain ⟨b1, hb1⟩ : ∃ b, b = decide ((cutB 32 s.data.toList).1 = wPatch) := ⟨_, rfl⟩
  obtain ⟨b2, hb2⟩ : ∃ b, b = decide ((cutB 32 s.data.toList).1 = wTag) := ⟨_, rfl⟩
  have e1 : (t.toList == [112, 97, 116, 99, 104]) = b1 := by rw [ht, hb1, ByteArray.toList_eq, str_list]; exact txt_beq _ _
  have e2 : (t.toList == [116, 97, 103]) = b2 := by rw [ht, hb2, ByteArray.toList_eq, str_list]; exact txt_beq _ _
  have kr : Hid (∀ w, Calls Tryd.prog 31 #[.string r] w fun e w' => e = .returned (.bool true) ∧ w' = w) := right_w r (by
    rw [hr, str_size]
    have := (cutB_len 32 s.data.toList).2.1
    rw [size_list] at hl
    omega) true (by rw [hr, str_list, h2])
  have hor : (b1 || b2) = true := by rw [hb1, hb2]; exact h1
  rw [← hb2]
  have HH := mkHid h
  have HR := mkHid hr
  clear hl h1 h2 ht hr hf hb1 hb2 h
  go_enter Tryd.func41, Tryd.ntmps41
  cases b1
  · obtain rfl : b2 = true := by simpa using hor
    clear hor
    go_wp2_with (first
      | (go_at_call 58; (with_reducible refine (kc.out _ HH.out.e.e).mono ?_); rintro e w2 ⟨rfl, m, rfl⟩
         have H2 := mkHid (HH.out.drew m HH.out.size)
         obtain ⟨d0, d1, d2, d3, dz⟩ := H2.out.cells
         have z2 := dz 2
         have z3 := dz 3
         clear dz)
      | (go_at_call 44; (with_reducible refine (need_true _ _).mono ?_); rintro e w3 ⟨rfl, rfl⟩)
      | (go_at_call 31; (with_reducible refine (kr.out _).mono ?_); rintro e w3 ⟨rfl, rfl⟩))
    go_end0
    obtain ⟨h3, b3⟩ := H2.out.cell 2 (.string r) rest n ((cutB 32 s.data.toList).2.1, p.2.1, p.2.2) rfl (fun c d => by rw [HR.out]; rfl)
    obtain ⟨h4, b4⟩ := h3.cell 3 (.bool true) rest n ((cutB 32 s.data.toList).2.1, true, p.2.2) rfl (fun c d => rfl)
    exact ⟨rfl, h4, ((kp_drewN (Kp.refl _ _) m).trans b3).trans b4⟩
  · clear hor
    go_wp2_with (first
      | (go_at_call 58; (with_reducible refine (kc.out _ HH.out.e.e).mono ?_); rintro e w2 ⟨rfl, m, rfl⟩
         have H2 := mkHid (HH.out.drew m HH.out.size)
         obtain ⟨d0, d1, d2, d3, dz⟩ := H2.out.cells
         have z2 := dz 2
         have z3 := dz 3
         clear dz)
      | (go_at_call 44; (with_reducible refine (need_true _ _).mono ?_); rintro e w3 ⟨rfl, rfl⟩)
      | (go_at_call 31; (with_reducible refine (kr.out _).mono ?_); rintro e w3 ⟨rfl, rfl⟩))
    go_end0
    obtain ⟨h3, b3⟩ := H2.out.cell 2 (.string r) rest n ((cutB 32 s.data.toList).2.1, p.2.1, p.2.2) rfl (fun c d => by rw [HR.out]; rfl)
    obtain ⟨h4, b4⟩ := h3.cell 3 (.bool b2) rest n ((cutB 32 s.data.toList).2.1, b2, p.2.2) rfl (fun c d => rfl)
    exact ⟨rfl, h4, ((kp_drewN (Kp.refl _ _) m).trans b3).trans b4⟩
end Go.Proofs.YtfkfaaifchafjaaDoor
