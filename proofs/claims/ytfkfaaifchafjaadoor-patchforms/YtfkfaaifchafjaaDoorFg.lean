/-
  needs: the first word is right, the rest is not; all ways together.
-/
import Derived.Test.YtfkfaaifchafjaaDoorFf
import Derived.Test.YtfkfaaifchafjaaDoorRq
set_option linter.unusedSimpArgs false
set_option linter.unusedVariables false
namespace Go.Proofs.YtfkfaaifchafjaaDoor
open Go.RowKit

theorem splB_mem_len (d : UInt8) : ∀ (s : Txt), ∀ x ∈ splB d s, x.length ≤ s.length
  | [], x, h => by
    have : x = [] := by simpa [splB] using h
    rw [this]; simp
  | c :: s, x, h => by
    have ih := splB_mem_len d s
    unfold splB at h
    split at h
    · rcases List.mem_cons.1 h with rfl | h
      · simp
      · have := ih x h; simp; omega
    · split at h
      · have : x = [c] := by simpa using h
        rw [this]; simp
      · rename_i l r e
        rw [e] at ih
        rcases List.mem_cons.1 h with rfl | h
        · have := ih l (by simp); simp; omega
        · have := ih x (by simp [h]); simp; omega

set_option maxRecDepth 20000 in
set_option maxHeartbeats 2000000 in
theorem needs_f (B : Nat) (w : World) (R : Nat) (rest : Txt) (n : Nat) (p : Pat) (h : Rd B w R rest n p) (s : ByteArray) (hs : s.size ≤ 1000000) (tl : List Txt) (h1 : splB 32 s.data.toList = wNeeds :: tl) (h2 : needsOk p.1 tl = false) :
    Calls Tryd.prog 43 #[.pointer (some ⟨R, 0, none⟩), .string s] w fun e w' => e = Pn (n : Int) ∧ Kp B w w' := by
  have h3 : tl ≠ [] := by rintro rfl; cases h2
  obtain ⟨ps, hps⟩ : ∃ ps, ps = splB 32 s.data.toList := ⟨_, rfl⟩
  obtain ⟨k, hk⟩ : ∃ k, k = tl.length := ⟨_, rfl⟩
  have hk0 : ¬ k = 0 := fun e => h3 (List.length_eq_zero_iff.1 (hk.symm.trans e))
  have hpt : ps = wNeeds :: tl := hps.trans h1
  have kp : Hid (∀ w, Env w → Calls Tryd.prog 59 #[.string s, .string ⟨#[32]⟩] w fun e w' => e = .returned (.slice (some ⟨w.heap.size, 0, none⟩) (k + 1) (k + 1)) ∧ w' = w.alloc (.cells (ps.map encStr).toArray 9)) := split_full s hs ps hps (k + 1) (by rw [hpt, hk]; rfl)
  have hlen := splB_len 32 s.data.toList
  have hmem := splB_mem_len 32 s.data.toList
  rw [h1] at hmem
  rw [h1, List.length_cons, ← size_list] at hlen
  rw [← size_list] at hmem
  have hkl : k ≤ 1000000 := by omega
  obtain ⟨W, hW⟩ : ∃ W, W = w.alloc (.cells (ps.map encStr).toArray 9) := ⟨_, rfl⟩
  have bW : Old w W := by rw [hW]; exact old1 _ _
  have hg : W.heap[w.heap.size]? = some (.cells (ps.map encStr).toArray 9 (0, 0)) := by rw [hW]; exact h10 _ _
  have hRW := h.old bW h.size
  have hrow := row_tail hg wNeeds tl hpt hk
  have kr : Hid (∀ w', Old W w' → Calls Tryd.prog 32 #[.string (str p.1), .slice (some ⟨w.heap.size, 1, none⟩) k k] w' fun e w'' => e = .returned (.bool false) ∧ w'' = w') := fun w' ho => by
    have := rightNeeds_walk w' (str p.1) _ tl (hrow.lies.old ho) (by omega) (fun x hx => by
      have := hmem x (List.mem_cons_of_mem _ hx)
      omega)
    rw [str_list, h2] at this
    exact this
  have c0 : W.cell? ⟨w.heap.size, 0, none⟩ = some (.string ⟨#[110, 101, 101, 100, 115]⟩) := by
    simp only [World.cell?, hg, hpt]
    rfl
  obtain ⟨d0, d1, d2, d3, dz⟩ := hRW.cells
  have HH := mkHid h
  have HRW := mkHid hRW
  have HW := mkHid hW
  have HBW := mkHid bW
  have hk1 : (0 : Int) < (k : Int) + 1 := by omega
  have hk2 : (1 : Int) ≤ (k : Int) + 1 := by omega
  have hk3 : 1 ≤ k + 1 := by omega
  have facts : Hid (∀ w1, Old W w1 → w1.cell? ⟨w.heap.size, 0, none⟩ = some (.string ⟨#[110, 101, 101, 100, 115]⟩) ∧ w1.cell? ⟨R, 2, none⟩ = some (.string (str p.1)) ∧ w1.cell? ⟨R, 1, none⟩ = some (.int .i64 (n : Int))) := fun w1 h1 => ⟨cell_old h1 c0, cell_old h1 d2, cell_old h1 d1⟩
  clear hs h1 h2 h3 hps hk hpt hlen hmem hg hrow hRW dz bW h d0 d1 d2 d3 c0
  go_enter Tryd.func43, Tryd.ntmps43
  go_upto_region 1 with (first
    | (go_at_call 59; (with_reducible refine (kp.out _ HH.out.e.e).mono ?_); rintro e w2 ⟨rfl, rfl⟩))
  rw [← HW.out]
  clear hW
  refine Rq.wp_region_try_lit (by kernel_rfl) (by kernel_rfl) (fun w1 => Old W w1) (fun w1 => Old W w1) (.inr rfl) (by decide) (fun ch w1 => Ending.panicked ch = Pn (n : Int) ∧ Old W w1) ?_ ?_ ?_
  · exact (Below.refl _ W).drew
  · rintro ch a w1 hd ⟨h1, h2⟩
    exact ⟨hd, h1, (Kp.of HBW.out HH.out.size).trans (Kp.of h2 HRW.out.size)⟩
  · repeat (
      refine Rq.wpT_yes (by rfl) ?_ ?_ (fun w1 h1 => ?_) (fun K hK => ?_)
      rotate_left 2
      · obtain ⟨f0, f1, f2⟩ := facts.out w1 h1
        go_simp
        first
          | exact Rq.upT_value h1
          | exact Rq.upT_skip h1
          | (refine Rq.upT_call (v := .bool false) ?_; go_at_call 32; (with_reducible refine (kr.out _ h1).mono ?_); rintro e w3 ⟨rfl, rfl⟩; exact ⟨rfl, h1⟩)
      go_simp
      refine hK _ _ ?_
      clear hK K)
    refine Rq.wpT_last (by rfl) (.tuple #[]) true (fun w1 h1 => ?_) (fun K hK => hK _ _ (fun h => by cases h))
    obtain ⟨f0, f1, f2⟩ := facts.out w1 h1
    go_simp
    refine Rq.upT_dies (.tuple #[]) ?_
    go_at_call 44
    (with_reducible refine (need_false R (n : Int) _ f2).mono ?_)
    rintro e w3 ⟨rfl, rfl⟩
    exact ⟨_, rfl, rfl, h1⟩

theorem needs_any (B : Nat) (w : World) (R : Nat) (rest : Txt) (n : Nat) (p : Pat) (hp : p.2.2.2 = []) (h : Rd B w R rest n p) (s : ByteArray) (hs : s.size ≤ 1000000) :
    Calls Tryd.prog 43 #[.pointer (some ⟨R, 0, none⟩), .string s] w fun e w' =>
      (∃ q, readM p 2 s.data.toList = some q ∧ q.2.2.2 = [] ∧ e = .returned (.tuple #[]) ∧ Rd B w' R rest n q ∧ Kp B w w') ∨ (readM p 2 s.data.toList = none ∧ e = Pn (n : Int) ∧ Kp B w w') := by
  obtain ⟨a, tl, h1⟩ : ∃ a tl, splB 32 s.data.toList = a :: tl := by
    cases hx : splB 32 s.data.toList with
    | nil => exact absurd hx (splB_ne 32 _)
    | cons a tl => exact ⟨a, tl, rfl⟩
  have hr : readM p 2 s.data.toList = if a = wNeeds ∧ needsOk p.1 tl = true then some (p.1, p.2.1, tl, []) else none := by
    unfold readM
    rw [if_neg (by decide), if_pos rfl, h1]
    simp only [List.head?_cons, List.tail_cons, Option.some.injEq]
  rw [hr]
  by_cases h2 : a = wNeeds
  · subst h2
    by_cases h3 : needsOk p.1 tl = true
    · rw [if_pos ⟨rfl, h3⟩]
      have hy : Calls Tryd.prog 43 #[.pointer (some ⟨R, 0, none⟩), .string s] w fun e w' => e = .returned (.tuple #[]) ∧ Rd B w' R rest n (p.1, p.2.1, tl, p.2.2.2) ∧ Kp B w w' := by
        by_cases h4 : tl = []
        · subst h4
          exact needs_yes0 B w R rest n p h s hs h1
        · exact needs_yes1 B w R rest n p h s hs tl h1 h3 h4
      refine hy.mono ?_
      rintro e w' ⟨rfl, h5, h6⟩
      rw [hp] at h5
      exact .inl ⟨_, rfl, rfl, rfl, h5, h6⟩
    · rw [if_neg (fun e => h3 e.2)]
      exact (needs_f B w R rest n p h s hs tl h1 (by simpa using h3)).mono (fun e w' h => .inr ⟨rfl, h⟩)
  · rw [if_neg (fun e => h2 e.1)]
    exact (needs_noW B w R rest n p h s hs a tl h1 h2).mono (fun e w' h => .inr ⟨rfl, h⟩)

theorem first_any (B : Nat) (w : World) (R : Nat) (rest : Txt) (n : Nat) (p : Pat) (hp : p.2.2 = ([], [])) (h : Rd B w R rest n p) (s : ByteArray) (hs : s.size ≤ 1000000) :
    Calls Tryd.prog 41 #[.pointer (some ⟨R, 0, none⟩), .string s] w fun e w' =>
      (∃ q, readM p 1 s.data.toList = some q ∧ q.2.2.2 = [] ∧ e = .returned (.tuple #[]) ∧ Rd B w' R rest n q ∧ Kp B w w') ∨ (readM p 1 s.data.toList = none ∧ e = Pn (n : Int) ∧ Kp B w w') := by
  have hi : isPT (cutB 32 s.data.toList).1 = true ↔ ((cutB 32 s.data.toList).1 = wPatch ∨ (cutB 32 s.data.toList).1 = wTag) := by simp [isPT]
  unfold readM
  rw [if_pos rfl]
  by_cases h1 : isPT (cutB 32 s.data.toList).1 = true
  · by_cases h2 : rightL (cutB 32 s.data.toList).2.1 = true
    · rw [if_pos ⟨hi.1 h1, h2⟩]
      refine (first_yes B w R rest n p h s hs h1 h2).mono ?_
      rintro e w' ⟨rfl, h5, h6⟩
      rw [hp] at h5
      exact .inl ⟨_, rfl, rfl, rfl, h5, h6⟩
    · rw [if_neg (fun e => h2 e.2)]
      exact (first_no B w R rest n p h s hs (.inr (by simpa using h2))).mono (fun e w' h => .inr ⟨rfl, h⟩)
  · rw [if_neg (fun e => h1 (hi.2 e.1))]
    exact (first_no B w R rest n p h s hs (.inl (by simpa using h1))).mono (fun e w' h => .inr ⟨rfl, h⟩)

theorem next_any (B : Nat) (w : World) (R : Nat) (rest : Txt) (n : Nat) (p : Pat) (h : Rd B w R rest n p) (hl : rest.length ≤ 1000000) (hn : n ≤ 1000000) :
    Calls Tryd.prog 42 #[.pointer (some ⟨R, 0, none⟩)] w fun e w' =>
      ((cutB 10 rest).2.2 = true ∧ e = .returned (.string (str (cutB 10 rest).1)) ∧ Rd B w' R (cutB 10 rest).2.1 (n + 1) p ∧ Kp B w w') ∨ ((cutB 10 rest).2.2 = false ∧ e = Pn ((n : Int) + 1) ∧ Kp B w w') := by
  cases hc : (cutB 10 rest).2.2
  · exact (next_no B w R rest n p h hl hn hc).mono (fun e w' h => .inr ⟨rfl, h⟩)
  · exact (next_yes B w R rest n p h hl hn _ _ rfl rfl hc).mono (fun e w' h => .inl ⟨rfl, h⟩)
end Go.Proofs.YtfkfaaifchafjaaDoor
