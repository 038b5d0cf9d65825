/-
  words, needs of the reader.
-/
import Derived.Test.YtfkfaaifchafjaaDoorFd
import Derived.Test.YtfkfaaifchafjaaDoorCf
import Derived.Deep.RegionHeld3
set_option linter.unusedSimpArgs false
set_option linter.unusedVariables false
namespace Go.Proofs.YtfkfaaifchafjaaDoor
open Go.RowKit

set_option maxHeartbeats 1000000 in
theorem wordsR_yes (B : Nat) (w : World) (R : Nat) (rest : Txt) (n : Nat) (p : Pat) (h : Rd B w R rest n p) (s : ByteArray) (c : Nat) (hs : s.size ≤ 1000000) (hc : 1 ≤ c) (hc2 : c ≤ 100) (ps : List Txt) (hps : ps = splN 32 (min c (s.size + 1) - 1) s.data.toList) (hk : c = ps.length) :
    Calls Tryd.prog 60 #[.pointer (some ⟨R, 0, none⟩), .string s, .int .i64 (c : Int)] w fun e w' => ∃ N, e = .returned (.slice (some ⟨w.heap.size, 0, none⟩) c N) ∧ RowS w' (.slice (some ⟨w.heap.size, 0, none⟩) c N) ps ∧ Old w w' := by
  have kp := splitN_full s c hs hc hc2 ps hps c hk
  have HH := mkHid h
  clear hs hps hk h
  have hcc : ((c : Int) == (c : Int)) = true := by simp
  go_enter Tryd.func60, Tryd.ntmps60
  go_wp2_with (first
    | (go_at_call 83; (with_reducible refine (kp.out _ HH.out.e.e).mono ?_); rintro e w2 ⟨N, rfl, hr, b2⟩
       have HR2 := mkHid hr
       have HB2 := mkHid b2
       clear hr b2)
    | (go_at_call 44; (with_reducible refine (need_true _ _).mono ?_); rintro e w3 ⟨rfl, rfl⟩))
  go_ret
  exact ⟨N, rfl, HR2.out, HB2.out⟩

set_option maxHeartbeats 1000000 in
theorem wordsR_no (B : Nat) (w : World) (R : Nat) (rest : Txt) (n : Nat) (p : Pat) (h : Rd B w R rest n p) (s : ByteArray) (c : Nat) (hs : s.size ≤ 1000000) (hc : 1 ≤ c) (hc2 : c ≤ 100) (hk : (splN 32 (min c (s.size + 1) - 1) s.data.toList).length ≠ c) :
    Calls Tryd.prog 60 #[.pointer (some ⟨R, 0, none⟩), .string s, .int .i64 (c : Int)] w fun e w' => e = Pn (n : Int) ∧ Old w w' := by
  obtain ⟨k, hkk⟩ : ∃ k, k = (splN 32 (min c (s.size + 1) - 1) s.data.toList).length := ⟨_, rfl⟩
  have kp := splitN_full s c hs hc hc2 _ rfl k hkk
  have hcc : ((k : Int) == (c : Int)) = false := beq_eq_false_iff_ne.2 (fun e => hk (by rw [← hkk]; exact Int.ofNat_inj.1 e))
  have HH := mkHid h
  clear hs hkk hk h
  go_enter Tryd.func60, Tryd.ntmps60
  go_wp2_with (first
    | (go_at_call 83; (with_reducible refine (kp.out _ HH.out.e.e).mono ?_); rintro e w2 ⟨N, rfl, hr, b2⟩
       have HB2 := mkHid b2
       have HH2 := mkHid (HH.out.old b2 HH.out.size)
       clear hr b2)
    | (go_at_call 44; (with_reducible refine (need_false R (n : Int) _ HH2.out.one).mono ?_); rintro e w3 ⟨rfl, rfl⟩))
  exact ⟨rfl, rfl, HB2.out⟩

theorem split_full (s : ByteArray) (hs : s.size ≤ 1000000) (ps : List Txt) (hps : ps = splB 32 s.data.toList) (k : Nat) (hk : k = ps.length) :
    Hid (∀ w, Env w → Calls Tryd.prog 59 #[.string s, .string ⟨#[32]⟩] w fun e w' => e = .returned (.slice (some ⟨w.heap.size, 0, none⟩) k k) ∧ w' = w.alloc (.cells (ps.map encStr).toArray 9)) := by
  intro w ⟨⟨m, hm⟩, _, _⟩
  have hd : (Lib.splitB ⟨#[32]⟩ 0 (Lib.countB s ⟨#[32]⟩) s).map (·.data.toList) = ps := by
    rw [Lib.splitB_data, hps]
    exact split_splB 32 _
  have hl : Lib.countB s ⟨#[32]⟩ + 1 = k := by rw [hk, ← hd, List.length_map, Lib.splitB_all _ (by decide) 0 _ s rfl]
  refine (Tryd.strings_Split s ⟨#[32]⟩ m w (by omega) hm (by decide)).mono ?_
  rintro e w' ⟨rfl, rfl⟩
  refine ⟨by rw [hl], ?_⟩
  congr 3
  rw [← hd, List.map_map]
  apply List.map_congr_left
  intro b _
  simp [encStr]

/-- the needs' cell of the reader set -/
theorem Rd.needs {B : Nat} {w : World} {R : Nat} {rest : Txt} {n : Nat} {p : Pat} (h : Rd B w R rest n p) (v : Value) (ss : List Txt) (hv : RowS w v ss) :
    Rd B (w.setCell ⟨R, 4, none⟩ v) R rest n (p.1, p.2.1, ss, p.2.2.2) ∧ Kp B w (w.setCell ⟨R, 4, none⟩ v) := by
  obtain ⟨nv, cv, h1, h2, h3⟩ := h.m
  have hb : Below B w (w.setCell ⟨R, 4, none⟩ v) := (Below.refl B w).setCell (p := ⟨R, 4, none⟩) h.b v
  refine ⟨⟨⟨v, cv, row_setCell h1 4 v, ?_, ?_⟩, h.b, h.e.old hb⟩, hb, fun k cs hg => heap_set_ne _ _ _ _ (blocks_ne hg h1 (by decide)) hg⟩
  · exact hv.keep (fun g cs hg => heap_set_ne _ _ _ _ (blocks_ne hg h1 (by decide)) hg)
  · exact ownC_keep h3 (fun g cs hg => heap_set_ne _ _ _ _ (blocks_ne hg h1 (by decide)) hg)

theorem Rd.four {B : Nat} {w : World} {R : Nat} {rest : Txt} {n : Nat} {p : Pat} (h : Rd B w R rest n p) : ∃ nv, w.cell? ⟨R, 4, none⟩ = some nv := by
  obtain ⟨nv, cv, h1, _⟩ := h.m
  exact ⟨nv, (cell6 h1).2.2.2.2.1⟩

theorem row_tail {w : World} {ps : List Txt} {g k : Nat} (hg : w.heap[g]? = some (.cells (ps.map encStr).toArray 9 (0, 0))) (a : Txt) (tl : List Txt) (hp : ps = a :: tl) (hk : k = tl.length) : RowS w (.slice (some ⟨g, 1, none⟩) k k) tl := by
  subst hp
  subst hk
  refine .inr ⟨g, 1, _, _, rfl, Nat.le_refl _, hg, fun j u hu => ?_⟩
  rw [← hu]
  simp [Nat.add_comm 1 j]

set_option maxHeartbeats 2000000 in
theorem needs_yes1 (B : Nat) (w : World) (R : Nat) (rest : Txt) (n : Nat) (p : Pat) (h : Rd B w R rest n p) (s : ByteArray) (hs : s.size ≤ 1000000) (tl : List Txt) (h1 : splB 32 s.data.toList = wNeeds :: tl) (h2 : needsOk p.1 tl = true) (h3 : tl ≠ []) :
    Calls Tryd.prog 43 #[.pointer (some ⟨R, 0, none⟩), .string s] w fun e w' => e = .returned (.tuple #[]) ∧ Rd B w' R rest n (p.1, p.2.1, tl, p.2.2.2) ∧ Kp B w w' := by
  obtain ⟨ps, hps⟩ : ∃ ps, ps = splB 32 s.data.toList := ⟨_, rfl⟩
  obtain ⟨k, hk⟩ : ∃ k, k = tl.length := ⟨_, rfl⟩
  have hk0 : ¬ k = 0 := fun e => h3 (List.length_eq_zero_iff.1 (hk.symm.trans e))
  have hpt : ps = wNeeds :: tl := hps.trans h1
  have kp : Hid (∀ w, Env w → Calls Tryd.prog 59 #[.string s, .string ⟨#[32]⟩] w fun e w' => e = .returned (.slice (some ⟨w.heap.size, 0, none⟩) (k + 1) (k + 1)) ∧ w' = w.alloc (.cells (ps.map encStr).toArray 9)) := split_full s hs ps hps (k + 1) (by rw [hpt, hk]; rfl)
  have hlen := splB_len 32 s.data.toList
  rw [h1, List.length_cons, ← size_list] at hlen
  have hkl : k ≤ 1000000 := by omega
  obtain ⟨W, hW⟩ : ∃ W, W = w.alloc (.cells (ps.map encStr).toArray 9) := ⟨_, rfl⟩
  have bW : Old w W := by rw [hW]; exact old1 _ _
  have hg : W.heap[w.heap.size]? = some (.cells (ps.map encStr).toArray 9 (0, 0)) := by rw [hW]; exact h10 _ _
  have hRW := h.old bW h.size
  have hrow := row_tail hg wNeeds tl hpt hk
  have kr : Hid (∀ w', Old W w' → Calls Tryd.prog 32 #[.string (str p.1), .slice (some ⟨w.heap.size, 1, none⟩) k k] w' fun e w'' => e = .returned (.bool true) ∧ w'' = w') := fun w' ho => by
    have := rightNeeds_walk w' (str p.1) _ tl (hrow.lies.old ho) (by omega) (fun x hx => by
      have := (right_len (needs_right h2 hx).1).2
      omega)
    rw [str_list, h2] at this
    exact this
  have c0 : W.cell? ⟨w.heap.size, 0, none⟩ = some (.string ⟨#[110, 101, 101, 100, 115]⟩) := by
    simp only [World.cell?, hg, hpt]
    rfl
  obtain ⟨nv, c4⟩ := hRW.four
  obtain ⟨d0, d1, d2, d3, dz⟩ := hRW.cells
  have z4 := dz 4
  have HH := mkHid h
  have HRW := mkHid hRW
  have HROW := mkHid hrow
  have HW := mkHid hW
  have HBW := mkHid bW
  clear hs h1 h2 h3 hps hk hpt hlen hg hrow hRW dz bW h
  have hk1 : (0 : Int) < (k : Int) + 1 := by omega
  have hk2 : (1 : Int) ≤ (k : Int) + 1 := by omega
  have hk3 : 1 ≤ k + 1 := by omega
  go_enter Tryd.func43, Tryd.ntmps43
  go_upto_region 1 with (first
    | (go_at_call 59; (with_reducible refine (kp.out _ HH.out.e.e).mono ?_); rintro e w2 ⟨rfl, rfl⟩))
  rw [← HW.out]
  clear hW
  have HK := mkHid hkl
  clear hkl
  go_quiet (first
    | ((go_at_call 32; exact Calls.quiet_of_same (kr.out _ (below_drewN _ _))))
    | ((go_at_call 44; with_reducible exact Calls.quiet_of_same (need_true _ _))))
  go_wp2
  go_end0
  obtain ⟨h3, b3⟩ := (HRW.out.drew nq HRW.out.size).needs _ tl (HROW.out.keep (fun g cs hg => hg))
  exact ⟨rfl, h3, ((Kp.of HBW.out HH.out.size).trans (kp_drewN (Kp.refl _ _) nq)).trans b3⟩

set_option maxHeartbeats 2000000 in
theorem needs_yes0 (B : Nat) (w : World) (R : Nat) (rest : Txt) (n : Nat) (p : Pat) (h : Rd B w R rest n p) (s : ByteArray) (hs : s.size ≤ 1000000) (h1 : splB 32 s.data.toList = [wNeeds]) :
    Calls Tryd.prog 43 #[.pointer (some ⟨R, 0, none⟩), .string s] w fun e w' => e = .returned (.tuple #[]) ∧ Rd B w' R rest n (p.1, p.2.1, [], p.2.2.2) ∧ Kp B w w' := by
  obtain ⟨ps, hps⟩ : ∃ ps, ps = splB 32 s.data.toList := ⟨_, rfl⟩
  have h2 : needsOk p.1 [] = true := rfl
  have hpt : ps = [wNeeds] := hps.trans h1
  have kp : Hid (∀ w, Env w → Calls Tryd.prog 59 #[.string s, .string ⟨#[32]⟩] w fun e w' => e = .returned (.slice (some ⟨w.heap.size, 0, none⟩) 1 1) ∧ w' = w.alloc (.cells (ps.map encStr).toArray 9)) := split_full s hs ps hps 1 (by rw [hpt]; rfl)
  obtain ⟨W, hW⟩ : ∃ W, W = w.alloc (.cells (ps.map encStr).toArray 9) := ⟨_, rfl⟩
  have bW : Old w W := by rw [hW]; exact old1 _ _
  have hg : W.heap[w.heap.size]? = some (.cells (ps.map encStr).toArray 9 (0, 0)) := by rw [hW]; exact h10 _ _
  have hRW := h.old bW h.size
  have hrow : RowS W (.slice (some ⟨w.heap.size, 0, none⟩) 0 0) [] := .inr ⟨w.heap.size, 0, _, 0, rfl, Nat.le_refl _, hg, fun j u hu => by simp at hu⟩
  have kr : Hid (∀ w', Old W w' → Calls Tryd.prog 32 #[.string (str p.1), .slice (some ⟨w.heap.size, 0, none⟩) 0 0] w' fun e w'' => e = .returned (.bool true) ∧ w'' = w') := fun w' ho => by
    have := rightNeeds_walk w' (str p.1) _ [] (hrow.lies.old ho) (by decide) (fun x hx => by cases hx)
    rw [str_list, h2] at this
    exact this
  have c0 : W.cell? ⟨w.heap.size, 0, none⟩ = some (.string ⟨#[110, 101, 101, 100, 115]⟩) := by
    simp only [World.cell?, hg, hpt]
    rfl
  obtain ⟨nv, c4⟩ := hRW.four
  obtain ⟨d0, d1, d2, d3, dz⟩ := hRW.cells
  have z4 := dz 4
  have HH := mkHid h
  have HRW := mkHid hRW
  have HROW := mkHid hrow
  have HW := mkHid hW
  have HBW := mkHid bW
  clear hs h1 h2 hps hpt hg hrow hRW dz bW h
  go_enter Tryd.func43, Tryd.ntmps43
  go_upto_region 1 with (first
    | (go_at_call 59; (with_reducible refine (kp.out _ HH.out.e.e).mono ?_); rintro e w2 ⟨rfl, rfl⟩))
  rw [← HW.out]
  clear hW
  go_quiet (first
    | ((go_at_call 32; exact Calls.quiet_of_same (kr.out _ (below_drewN _ _))))
    | ((go_at_call 44; with_reducible exact Calls.quiet_of_same (need_true _ _))))
  go_wp2
  go_end0
  obtain ⟨h3, b3⟩ := (HRW.out.drew nq HRW.out.size).needs _ [] (HROW.out.keep (fun g cs hg => hg))
  exact ⟨rfl, h3, ((Kp.of HBW.out HH.out.size).trans (kp_drewN (Kp.refl _ _) nq)).trans b3⟩
end Go.Proofs.YtfkfaaifchafjaaDoor
