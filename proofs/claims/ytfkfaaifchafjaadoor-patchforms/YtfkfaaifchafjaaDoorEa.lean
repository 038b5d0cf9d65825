/-
  wakes; plain: its patch in memory.
-/
import Derived.Test.YtfkfaaifchafjaaDoorDc
set_option linter.unusedSimpArgs false
set_option linter.unusedVariables false
namespace Go.Proofs.YtfkfaaifchafjaaDoor
open Go.RowKit

def smallB (p : Pat) : Bool := decide (p.1.length ≤ 1000) && decide (p.2.2.1.length ≤ 1000) && p.2.2.1.all (fun x => decide (x.length ≤ 1000)) && decide (p.2.2.2.length ≤ 1000) && p.2.2.2.all (fun c => decide (c.2.2.2.length ≤ 1000) && decide (c.2.1.1.length ≤ 1000) && decide (c.2.2.1.1.length ≤ 1000))
theorem small_of {p : Pat} (h : smallB p = true) : Small p := by
  unfold smallB at h
  simp only [Bool.and_eq_true, decide_eq_true_eq, List.all_eq_true] at h
  obtain ⟨⟨⟨⟨a, b⟩, c⟩, d⟩, e⟩ := h
  exact ⟨by omega, by omega, fun x hx => by have := c x hx; omega, by omega, fun x hx => by have := e x hx; omega⟩

theorem liesS_nil (w : World) : LiesS w (.slice none 0 0) [] := ⟨none, 0, rfl, Nat.le_refl _, fun _ => rfl, fun a ha => by cases ha⟩
theorem liesC_nil (w : World) : LiesC w (.slice none 0 0) [] := ⟨rfl, none, 0, rfl, Nat.le_refl _, fun _ => rfl, fun a ha => by cases ha⟩

theorem liesC_block {w : World} {g : Nat} {chs : List Chg} {cs : Array Value} (h : w.heap[g]? = some (.cells cs 44 (0, 0))) (he : cs = (cellsC chs).toArray) (n cap : Nat) (hn : n = chs.length) (hc : n ≤ cap) : LiesC w (.slice (some ⟨g, 0, none⟩) n cap) chs := by
  subst hn
  subst he
  refine ⟨cellsC_len chs, _, cap, rfl, hc, fun h => (by cases h), fun a ha j u hu => ?_⟩
  cases ha
  rw [add_none, Nat.zero_add]
  simp only [World.cell?, h]
  simpa using hu

theorem liesS_block {w : World} {g : Nat} {ss : List Txt} {cs : Array Value} (h : w.heap[g]? = some (.cells cs 9 (0, 0))) (he : cs = (ss.map encStr).toArray) (n cap : Nat) (hn : n = ss.length) (hc : n ≤ cap) : LiesS w (.slice (some ⟨g, 0, none⟩) n cap) ss := by
  subst hn
  subst he
  refine ⟨_, cap, rfl, hc, fun h => (by cases h), fun a ha j u hu => ?_⟩
  cases ha
  rw [add_none, Nat.zero_add]
  simp only [World.cell?, h]
  simpa using hu

theorem wakes_hid : Hid (∀ w, Calls Tryd.prog 14 #[] w fun e w' => e = .returned (.bool true) ∧ Old w w') := by
  intro w
  have k : Hid (∀ w, Calls Tryd.prog 9 #[.agg #[.string ⟨#[116]⟩, .bool true, .slice none 0 0, .slice none 0 0]] w fun e w' => e = .returned (.tuple #[.string ⟨#[116, 97, 103, 32, 116, 10, 110, 101, 101, 100, 115, 10]⟩, .int .i64 0]) ∧ Old w w') := fun w =>
    print_any w ⟨#[116]⟩ true _ _ [] [] ⟨liesS_nil w, liesC_nil w, by decide, by decide⟩ (small_of (by decide +kernel)) _ _ (by
      rw [if_pos (by decide +kernel)]
      congr 1) (by rw [if_pos (by decide +kernel)])
  go_enter Tryd.func14, Tryd.ntmps14
  go_wp2_with (go_at_call 9; (with_reducible refine (k.out _).mono ?_); rintro e w1 ⟨rfl, b1⟩)
  go_ret
  exact ⟨rfl, b1⟩

def xA : Txt := [97]
def xB : Txt := [98]
def xC : Txt := [99]
/-- plain's changes -/
def plC (t : Txt) : List Chg := [(1, zid, zid, [120]), (4, (xB, 1), zid, t), (4, (xB, 1), (xB, 2), [116, 119, 111]), (5, (xB, 1), (xB, 3), []), (2, (xA, 4), zid, [121]), (4, (xA, 4), (xC, 7), []), (3, (xC, 1), zid, [])]
def plN : List Txt := [xA, xC]

theorem under26 : ∃ fs, Tryd.prog.underlying 26 = some (.struct fs) := ⟨_, Tryd.underlying26⟩
theorem size26 : (Tryd.prog.info? 26).map (·.size) = some 4 := by kernel_rfl
theorem h40 (w : World) (a b c d : Obj) : ((((w.alloc a).alloc b).alloc c).alloc d).heap[w.heap.size]? = some a := block_old (old1 _ _) (h30 w a b c)
theorem h42 (w : World) (a b c d : Obj) : ((((w.alloc a).alloc b).alloc c).alloc d).heap[w.heap.size + 1 + 1]? = some c := block_old (old1 _ _) (h32 w a b c)
theorem h43 (w : World) (a b c d : Obj) : ((((w.alloc a).alloc b).alloc c).alloc d).heap[w.heap.size + 1 + 1 + 1]? = some d := by
  have := heap_alloc_new (((w.alloc a).alloc b).alloc c) d
  simpa using this

set_option maxHeartbeats 2000000 in
theorem plain_walk (t : ByteArray) (w : World) :
    Calls Tryd.prog 8 #[.string t] w fun e w' => ∃ g1 g2, e = .returned (.agg #[.string ⟨#[98]⟩, .bool false, .slice (some ⟨g1, 0, none⟩) 2 2, .slice (some ⟨g2, 0, none⟩) 7 7]) ∧ w'.heap[g1]? = some (.cells (plN.map encStr).toArray 9 (0, 0)) ∧ w'.heap[g2]? = some (.cells (cellsC (plC t.data.toList)).toArray 44 (0, 0)) ∧ w.heap.size ≤ g1 ∧ w.heap.size ≤ g2 ∧ Old w w' := by
  go_enter Tryd.func8, Tryd.ntmps8
  go_wp2
  obtain ⟨fs, hfs⟩ := under26
  refine bodyPost_ret (results_cell_row rfl _ _ w.heap.size 26 _ (0, 0) _ rfl (h40 _ _ _ _ _) hfs rfl size26) rfl ⟨w.heap.size + 1 + 1, w.heap.size + 1 + 1 + 1, rfl, ?_, ?_, by omega, by omega, old4 _ _ _ _ _⟩
  · rw [h42]; rfl
  · rw [h43]; rfl

theorem plain_hid (t : ByteArray) : Hid (∀ w, Calls Tryd.prog 8 #[.string t] w fun e w' => ∃ g1 g2, e = .returned (.agg #[.string ⟨#[98]⟩, .bool false, .slice (some ⟨g1, 0, none⟩) 2 2, .slice (some ⟨g2, 0, none⟩) 7 7]) ∧ w'.heap[g1]? = some (.cells (plN.map encStr).toArray 9 (0, 0)) ∧ w'.heap[g2]? = some (.cells (cellsC (plC t.data.toList)).toArray 44 (0, 0)) ∧ w.heap.size ≤ g1 ∧ w.heap.size ≤ g2 ∧ Old w w') := plain_walk t

theorem plain_mf {w : World} {g1 g2 : Nat} {t : ByteArray} (h1 : w.heap[g1]? = some (.cells (plN.map encStr).toArray 9 (0, 0))) (h2 : w.heap[g2]? = some (.cells (cellsC (plC t.data.toList)).toArray 44 (0, 0))) :
    MF w ⟨#[98]⟩ false (.slice (some ⟨g1, 0, none⟩) 2 2) (.slice (some ⟨g2, 0, none⟩) 7 7) plN (plC t.data.toList) :=
  ⟨liesS_block h1 rfl 2 2 rfl (by decide), liesC_block h2 rfl 7 7 rfl (by decide), by decide, by simp [plC]⟩
end Go.Proofs.YtfkfaaifchafjaaDoor
