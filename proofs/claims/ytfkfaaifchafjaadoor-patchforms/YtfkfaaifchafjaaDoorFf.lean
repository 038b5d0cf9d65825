/-
  needs, the ways out.
-/
import Derived.Test.YtfkfaaifchafjaaDoorFe
import Derived.RegionDies
set_option linter.unusedSimpArgs false
set_option linter.unusedVariables false
namespace Go.Proofs.YtfkfaaifchafjaaDoor
open Go.RowKit

set_option maxHeartbeats 2000000 in
theorem needs_noW (B : Nat) (w : World) (R : Nat) (rest : Txt) (n : Nat) (p : Pat) (h : Rd B w R rest n p) (s : ByteArray) (hs : s.size ≤ 1000000) (a : Txt) (tl : List Txt) (h1 : splB 32 s.data.toList = a :: tl) (h2 : a ≠ wNeeds) :
    Calls Tryd.prog 43 #[.pointer (some ⟨R, 0, none⟩), .string s] w fun e w' => e = Pn (n : Int) ∧ Kp B w w' := by
  obtain ⟨ps, hps⟩ : ∃ ps, ps = splB 32 s.data.toList := ⟨_, rfl⟩
  obtain ⟨k, hk⟩ : ∃ k, k = tl.length := ⟨_, rfl⟩
  have hpt : ps = a :: tl := hps.trans h1
  have kp : Hid (∀ w, Env w → Calls Tryd.prog 59 #[.string s, .string ⟨#[32]⟩] w fun e w' => e = .returned (.slice (some ⟨w.heap.size, 0, none⟩) (k + 1) (k + 1)) ∧ w' = w.alloc (.cells (ps.map encStr).toArray 9)) := split_full s hs ps hps (k + 1) (by rw [hpt, hk]; rfl)
  have hlen := splB_len 32 s.data.toList
  rw [h1, List.length_cons, ← size_list] at hlen
  have hkl : k ≤ 1000000 := by omega
  obtain ⟨W, hW⟩ : ∃ W, W = w.alloc (.cells (ps.map encStr).toArray 9) := ⟨_, rfl⟩
  have bW : Old w W := by rw [hW]; exact old1 _ _
  have hg : W.heap[w.heap.size]? = some (.cells (ps.map encStr).toArray 9 (0, 0)) := by rw [hW]; exact h10 _ _
  have hRW := h.old bW h.size
  obtain ⟨t, ht⟩ : ∃ t, t = str a := ⟨_, rfl⟩
  have c0 : W.cell? ⟨w.heap.size, 0, none⟩ = some (.string t) := by
    simp only [World.cell?, hg, hpt, ht]
    rfl
  have e1 : (t.toList == [110, 101, 101, 100, 115]) = false := by
    rw [ht, ByteArray.toList_eq, str_list]
    exact (txt_beq _ _).trans (decide_eq_false h2)
  have d1 := hRW.one
  have HH := mkHid h
  have HRW := mkHid hRW
  have HW := mkHid hW
  have HBW := mkHid bW
  clear hs h1 h2 hps hk hpt hlen hg hRW bW h ht
  have hk1 : (0 : Int) < (k : Int) + 1 := by omega
  go_enter Tryd.func43, Tryd.ntmps43
  go_upto_region 1 with (first
    | (go_at_call 59; (with_reducible refine (kp.out _ HH.out.e.e).mono ?_); rintro e w2 ⟨rfl, rfl⟩))
  rw [← HW.out]
  clear hW
  have HK := mkHid hkl
  clear hkl
  have hb : Kp B w W.drew := (Kp.of HBW.out HH.out.size).drew
  clear HK kp
  have c0d : W.drew.cell? ⟨w.heap.size, 0, none⟩ = some (.string t) := c0
  (first | go_region_dies | fail)
  all_goals
    refine (need_false R (n : Int) W.drew d1).mono ?_
    rintro e w3 ⟨rfl, rfl⟩
    first
      | exact ⟨rfl, rfl, hb⟩
      | exact And.intro rfl (And.intro rfl hb)
      | exact ⟨rfl, hb⟩
      | exact And.intro rfl hb
end Go.Proofs.YtfkfaaifchafjaaDoor
