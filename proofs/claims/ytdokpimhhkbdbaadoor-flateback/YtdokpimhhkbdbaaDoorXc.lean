/-
  codes.put.
-/
import Derived.Test.YtdokpimhhkbdbaaDoorXb
set_option linter.unusedSimpArgs false
set_option linter.unusedVariables false
namespace Go.Proofs.YtdokpimhhkbdbaaDoor
open Go.RowKit

abbrev cAgg (tl td : Nat) : Value := .agg #[.pointer (some ⟨tl, 0, none⟩), .pointer (some ⟨td, 0, none⟩)]

set_option maxRecDepth 100000 in
set_option maxHeartbeats 4000000 in
theorem cput_lit (p tl td : Nat) (w3 w : World) (S : Nat × Nat) (ws : List (Nat × Array Value × TypeId)) (h : Fx p w3 w S ws) (hp : p = w3.heap.size) (hl : Tab w3 tl litsL) (b : Nat) (hb : b < 256) (hT : S.2 < 800000) :
    Calls Tryd.prog 41 #[cAgg tl td, .pointer (some ⟨p, 0, none⟩), .agg #[.int .u8 (b : Int), .int .i64 0, .int .i64 0]] w fun e w' => e = .returned (.tuple #[]) ∧ Fx p w3 w' (putL S b) ws := by
  have hF := h.two #[.pointer (some ⟨tl, 0, none⟩), .pointer (some ⟨td, 0, none⟩)] #[.int .u8 (b : Int), .int .i64 0, .int .i64 0]
  have hs : Hid (Calls Tryd.prog 42 #[.pointer (some ⟨tl, 0, none⟩), .pointer (some ⟨p, 0, none⟩), .int .i64 (b : Int)] ((w.alloc (.cells #[.pointer (some ⟨tl, 0, none⟩), .pointer (some ⟨td, 0, none⟩)] 56)).alloc (.cells #[.int .u8 (b : Int), .int .i64 0, .int .i64 0] 71)) fun e w' => e = .returned (.bool true) ∧ Fx p w3 w' (putL S b) ws) :=
    (hF.sig hp hl b (by rw [lits_len]; omega) (lits_pos b (by omega)).1 (by omega)).mono fun e w' ⟨e1, e2⟩ => ⟨e1, e2.drop.drop⟩
  clear hF h hp hl hT
  go_enter Tryd.func41, Tryd.ntmps41
  go_wp2_with (go_at_call 42; (with_reducible refine hs.out.mono ?_); rintro e w5 ⟨rfl, h5⟩)
  refine bodyPost_ret (results_none rfl _ _ _) rfl ?_
  exact ⟨rfl, h5⟩

set_option maxRecDepth 100000 in
set_option maxHeartbeats 4000000 in
theorem cput_row (p tl td : Nat) (w3 w : World) (S : Nat × Nat) (ws : List (Nat × Array Value × TypeId)) (h : Fx p w3 w S ws) (hp : p = w3.heap.size) (hl : Tab w3 tl litsL) (hd : Tab w3 td distsL) (n d : Nat) (hn3 : 3 ≤ n) (hn : n ≤ 258) (hd1 : 1 ≤ d) (hd2 : d ≤ 32768) (hT : S.2 < 800000) :
    Calls Tryd.prog 41 #[cAgg tl td, .pointer (some ⟨p, 0, none⟩), .agg #[.int .u8 0, .int .i64 (n : Int), .int .i64 (d : Int)]] w fun e w' => e = .returned (.tuple #[]) ∧ Fx p w3 w' (putR S n d) ws := by
  have hF := h.two #[.pointer (some ⟨tl, 0, none⟩), .pointer (some ⟨td, 0, none⟩)] #[.int .u8 0, .int .i64 (n : Int), .int .i64 (d : Int)]
  have k1 := Lz.topOf_le Lz.lenB n 28
  have k2 := Lz.topOf_le Lz.disB d 29
  have k3 := lits_pos (257 + lenC n) (by unfold lenC; omega)
  have k4 := dists_pos (disC d) (by unfold disC; omega)
  have k5 := lenN_le (lenC n) k1
  have k6 := disN_le (disC d) k2
  have k7 : 257 + lenC n < litsL.length := by rw [lits_len]; unfold lenC; omega
  have k8 : disC d < distsL.length := by rw [dists_len]; unfold disC; omega
  have hlc : Hid (∀ wx, Calls Tryd.prog 56 #[.int .i64 n] wx fun e w' => e = .returned (.tuple #[.int .i64 (257 + lenC n : Nat), .int .i64 (n - Lz.lenB (lenC n) : Nat), .int .i64 (Lz.lenN (lenC n) : Nat)]) ∧ w' = wx) := fun wx => Lz.lenCode_walk n hn3 hn wx
  have hdc : Hid (∀ wx, Calls Tryd.prog 57 #[.int .i64 d] wx fun e w' => e = .returned (.tuple #[.int .i64 (disC d : Nat), .int .i64 (d - Lz.disB (disC d) : Nat), .int .i64 (Lz.disN (disC d) : Nat)]) ∧ w' = wx) := fun wx => Lz.disCode_walk d hd1 hd2 wx
  have hR : Hid (putR S n d = wadd (wadd (wadd (wadd S (sigP litsL (257 + lenC n))) (lowP (n - Lz.lenB (lenC n)) (Lz.lenN (lenC n)))) (sigP distsL (disC d))) (lowP (d - Lz.disB (disC d)) (Lz.disN (disC d)))) := rfl
  generalize putR S n d = R at hR ⊢
  generalize 257 + lenC n = s1 at hlc hR k3 k7
  generalize n - Lz.lenB (lenC n) = x1 at hlc hR
  generalize Lz.lenN (lenC n) = c1 at hlc hR k5
  generalize d - Lz.disB (disC d) = x2 at hdc hR
  generalize Lz.disN (disC d) = c2 at hdc hR k6
  generalize disC d = s2 at hdc hR k4 k8
  clear k1 k2
  obtain ⟨W, hW⟩ : ∃ W, W = (w.heap.size, #[Value.pointer (some ⟨tl, 0, none⟩), .pointer (some ⟨td, 0, none⟩)], (56 : TypeId)) :: (w.heap.size + 1, #[Value.int .u8 0, .int .i64 (n : Int), .int .i64 (d : Int)], (71 : TypeId)) :: ws := ⟨_, rfl⟩
  have hat : Hid (∀ w' S', Fx p w3 w' S' W → w'.cell? ⟨w.heap.size, 0, none⟩ = some (.pointer (some ⟨tl, 0, none⟩)) ∧ w'.cell? ⟨w.heap.size, 1, none⟩ = some (.pointer (some ⟨td, 0, none⟩)) ∧ w'.cell? ⟨w.heap.size + 1, 1, none⟩ = some (.int .i64 (n : Int)) ∧ w'.cell? ⟨w.heap.size + 1, 2, none⟩ = some (.int .i64 (d : Int))) := by
    intro w' S' hh
    rw [hW] at hh
    have g0 := hh.at0
    have g1 := hh.drop.at0
    exact ⟨cell2_0 g0, cell2_1 g0, cell3_1 g1, cell3_2 g1⟩
  have hend : Hid (∀ w' S', Fx p w3 w' S' W → Fx p w3 w' S' ws) := fun w' S' hh => by rw [hW] at hh; exact hh.drop.drop
  have hF' := hF
  rw [← hW] at hF'
  obtain ⟨S1, e1⟩ : ∃ S1, S1 = wadd S (sigP litsL s1) := ⟨_, rfl⟩
  obtain ⟨S2, e2⟩ : ∃ S2, S2 = wadd S1 (lowP x1 c1) := ⟨_, rfl⟩
  obtain ⟨S3, e3⟩ : ∃ S3, S3 = wadd S2 (sigP distsL s2) := ⟨_, rfl⟩
  obtain ⟨S4, e4⟩ : ∃ S4, S4 = wadd S3 (lowP x2 c2) := ⟨_, rfl⟩
  have l1 : S1.2 ≤ S.2 + 9 := by rw [e1]; simp [wadd, sigP]; omega
  have l2 : S2.2 ≤ S1.2 + 5 := by rw [e2]; simp [wadd, lowP]; omega
  have l3 : S3.2 ≤ S2.2 + 5 := by rw [e3]; simp [wadd, sigP]; omega
  have p1 : Hid (Calls Tryd.prog 42 #[.pointer (some ⟨tl, 0, none⟩), .pointer (some ⟨p, 0, none⟩), .int .i64 (s1 : Int)] ((w.alloc (.cells #[.pointer (some ⟨tl, 0, none⟩), .pointer (some ⟨td, 0, none⟩)] 56)).alloc (.cells #[.int .u8 0, .int .i64 (n : Int), .int .i64 (d : Int)] 71)) fun e w' => e = .returned (.bool true) ∧ Fx p w3 w' S1 W) := by
    rw [e1]; exact hF'.sig hp hl s1 k7 k3.1 (by omega)
  have p2 : Hid (∀ wx, Fx p w3 wx S1 W → Calls Tryd.prog 39 #[.pointer (some ⟨p, 0, none⟩), .int .i64 (x1 : Int), .int .i64 (c1 : Int)] wx fun e w' => e = .returned (.tuple #[]) ∧ Fx p w3 w' S2 W) := by
    intro wx hx; rw [e2]; exact hx.low x1 c1 (by omega) (by omega)
  have p3 : Hid (∀ wx, Fx p w3 wx S2 W → Calls Tryd.prog 42 #[.pointer (some ⟨td, 0, none⟩), .pointer (some ⟨p, 0, none⟩), .int .i64 (s2 : Int)] wx fun e w' => e = .returned (.bool true) ∧ Fx p w3 w' S3 W) := by
    intro wx hx; rw [e3]; exact hx.sig hp hd s2 k8 (by omega) (by omega)
  have p4 : Hid (∀ wx, Fx p w3 wx S3 W → Calls Tryd.prog 39 #[.pointer (some ⟨p, 0, none⟩), .int .i64 (x2 : Int), .int .i64 (c2 : Int)] wx fun e w' => e = .returned (.tuple #[]) ∧ Fx p w3 w' S4 W) := by
    intro wx hx; rw [e4]; exact hx.low x2 c2 (by omega) (by omega)
  have HE : Hid (S4 = R) := by show S4 = R; rw [hR.out, e4, e3, e2, e1]
  have hnz : ¬ (n : Int) = 0 := by omega
  clear hF hF' hW e1 e2 e3 e4 l1 l2 l3 k3 k4 k5 k6 k7 k8 hR h hn3 hn hd1 hd2 hT hp hl hd
  go_enter Tryd.func41, Tryd.ntmps41
  go_wp2_with (first
    | (go_at_call 56; (with_reducible refine (hlc.out _).mono ?_); rintro e w' ⟨rfl, hx⟩; have hx := hx.symm; subst hx)
    | (go_at_call 57; (with_reducible refine (hdc.out _).mono ?_); rintro e w' ⟨rfl, hx⟩; have hx := hx.symm; subst hx)
    | (go_at_call 42; (with_reducible refine p1.out.mono ?_); rintro e w5 ⟨rfl, h5⟩; obtain ⟨q0, q1, q2, q3⟩ := hat.out _ _ h5)
    | (go_at_call 39; (with_reducible refine (p2.out _ (by assumption)).mono ?_); rintro e w6 ⟨rfl, h6⟩; obtain ⟨r0, r1, r2, r3⟩ := hat.out _ _ h6)
    | (go_at_call 42; (with_reducible refine (p3.out _ (by assumption)).mono ?_); rintro e w7 ⟨rfl, h7⟩)
    | (go_at_call 39; (with_reducible refine (p4.out _ (by assumption)).mono ?_); rintro e w8 ⟨rfl, h8⟩))
  all_goals go_end0
  exact ⟨rfl, HE.out ▸ hend.out _ _ h8⟩

end Go.Proofs.YtdokpimhhkbdbaaDoor
