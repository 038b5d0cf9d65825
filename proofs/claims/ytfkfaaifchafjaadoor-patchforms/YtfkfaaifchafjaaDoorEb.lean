/-
  PatchErrors: the states of its rounds.
-/
import Derived.Test.YtfkfaaifchafjaaDoorEa
import Derived.Deep.DeepCutAuto
set_option linter.unusedSimpArgs false
set_option linter.unusedVariables false
namespace Go.Proofs.YtfkfaaifchafjaaDoor
open Go.RowKit

def tOne : Txt := [111, 110, 101]
def plOne : List Chg := plC tOne

/-- A round's patch as it was made. -/
structure ES (w W : World) (a g1 g2 : Nat) : Prop where
  pa : W.heap[a]? = some (.cells #[.string ⟨#[98]⟩, .bool false, .slice (some ⟨g1, 0, none⟩) 2 2, .slice (some ⟨g2, 0, none⟩) 7 7] 26 (0, 0))
  p1 : W.heap[g1]? = some (.cells (plN.map encStr).toArray 9 (0, 0))
  p2 : W.heap[g2]? = some (.cells (cellsC plOne).toArray 44 (0, 0))
  old : Old w W
  la : w.heap.size ≤ a
  lg : w.heap.size ≤ g2

/-- .. and as it is when one thing of it is another one: it may not be. -/
def ET (w W : World) (a : Nat) : Prop :=
  ∃ (nm : ByteArray) (tg : Bool) (nv cv : Value) (needs : List Txt) (chs : List Chg), W.heap[a]? = some (.cells #[.string nm, .bool tg, nv, cv] 26 (0, 0)) ∧ MF W nm tg nv cv needs chs ∧ checkM (nm.data.toList, tg, needs, chs) = false ∧ Small (nm.data.toList, tg, needs, chs) ∧ Old w W

theorem ES.n1 {w W : World} {a g1 g2 : Nat} (h : ES w W a g1 g2) : g1 ≠ a := blocks_ne h.p1 h.pa (by decide)
theorem ES.n2 {w W : World} {a g1 g2 : Nat} (h : ES w W a g1 g2) : g2 ≠ a := blocks_ne h.p2 h.pa (by decide)
theorem ES.n3 {w W : World} {a g1 g2 : Nat} (h : ES w W a g1 g2) : g1 ≠ g2 := blocks_ne h.p1 h.p2 (by decide)

theorem et_mk {w W : World} {a : Nat} (nm : ByteArray) (tg : Bool) (needs : List Txt) (chs : List Chg) (gN gC n1 n2 : Nat) (ca cn cc : Array Value) (ha : W.heap[a]? = some (.cells ca 26 (0, 0)))
    (hca : ca = #[.string nm, .bool tg, .slice (some ⟨gN, 0, none⟩) n1 n1, .slice (some ⟨gC, 0, none⟩) n2 7])
    (hn : W.heap[gN]? = some (.cells cn 9 (0, 0))) (hcn : cn = (needs.map encStr).toArray) (hc : W.heap[gC]? = some (.cells cc 44 (0, 0))) (hcc : cc = (cellsC chs).toArray) (hn1 : n1 = needs.length) (hn2 : n2 = chs.length) (hn7 : n2 ≤ 7)
    (hk : checkM (nm.data.toList, tg, needs, chs) = false) (hs : smallB (nm.data.toList, tg, needs, chs) = true) (ho : Old w W) : ET w W a := by
  have hsm := small_of hs
  exact ⟨nm, tg, _, _, needs, chs, by rw [ha, hca], ⟨liesS_block hn hcn n1 n1 hn1 (Nat.le_refl _), liesC_block hc hcc n2 7 hn2 hn7, by have := hsm.n1; simpa using this, by have := hsm.c1; simpa using this⟩, hk, hsm, ho⟩

/-- a field of the patch set -/
theorem et_p {w W : World} {a g1 g2 : Nat} (h : ES w W a g1 g2) (o : Nat) (v : Value) (nm : ByteArray) (tg : Bool) (he : (#[.string ⟨#[98]⟩, .bool false, .slice (some ⟨g1, 0, none⟩) 2 2, .slice (some ⟨g2, 0, none⟩) 7 7] : Array Value).setIfInBounds o v = #[.string nm, .bool tg, .slice (some ⟨g1, 0, none⟩) 2 2, .slice (some ⟨g2, 0, none⟩) 7 7])
    (hk : checkM (nm.data.toList, tg, plN, plOne) = false) (hs : smallB (nm.data.toList, tg, plN, plOne) = true) : ET w (W.setCell ⟨a, o, none⟩ v) a :=
  et_mk nm tg plN plOne g1 g2 2 7 _ _ _ (row_setCell h.pa o v) he (heap_set_ne _ _ _ _ h.n1 h.p1) rfl (heap_set_ne _ _ _ _ h.n2 h.p2) rfl rfl rfl (by decide) hk hs (h.old.setCell (p := ⟨a, o, none⟩) h.la _)

/-- other needs -/
theorem et_n {w W : World} {a g1 g2 : Nat} (h : ES w W a g1 g2) (needs : List Txt) (n : Nat) (hn : n = needs.length) (cn : Array Value) (hcn : cn = (needs.map encStr).toArray)
    (hk : checkM (xB, false, needs, plOne) = false) (hs : smallB (xB, false, needs, plOne) = true) : ET w ((W.alloc (.cells cn 9)).setCell ⟨a, 2, none⟩ (.slice (some ⟨W.heap.size, 0, none⟩) n n)) a := by
  have ha := (Array.getElem?_eq_some_iff.1 h.pa).1
  refine et_mk ⟨#[98]⟩ false needs plOne W.heap.size g2 n 7 _ _ _ (row_setCell (block_old (old1 _ _) h.pa) 2 _) rfl (heap_set_ne _ _ _ _ (by omega) (h10 _ _)) hcn (heap_set_ne _ _ _ _ h.n2 (block_old (old1 _ _) h.p2)) rfl hn rfl (by decide) hk hs (Below.setCell (p := ⟨a, 2, none⟩) (h.old.trans ((old1 _ _).mono h.old.size)) h.la _)

/-- no changes -/
theorem et_0 {w W : World} {a g1 g2 : Nat} (h : ES w W a g1 g2) : ET w (W.setCell ⟨a, 3, none⟩ (.slice none 0 0)) a := by
  refine ⟨⟨#[98]⟩, false, _, _, plN, [], row_setCell h.pa 3 _, ⟨liesS_block (heap_set_ne _ _ _ _ h.n1 h.p1) rfl 2 2 rfl (by decide), liesC_nil _, by decide, by decide⟩, by decide +kernel, small_of (by decide +kernel), h.old.setCell (p := ⟨a, 3, none⟩) h.la _⟩

/-- a cell of the changes set -/
theorem et_c {w W : World} {a g1 g2 : Nat} (h : ES w W a g1 g2) (o : Nat) (v : Value) (chs : List Chg) (he : (cellsC plOne).toArray.setIfInBounds o v = (cellsC chs).toArray) (hl : 7 = chs.length)
    (hk : checkM (xB, false, plN, chs) = false) (hs : smallB (xB, false, plN, chs) = true) : ET w (W.setCell ⟨g2, o, none⟩ v) a :=
  et_mk ⟨#[98]⟩ false plN chs g1 g2 2 7 _ _ _ (heap_set_ne _ _ _ _ h.n2.symm h.pa) rfl (heap_set_ne _ _ _ _ h.n3 h.p1) rfl (row_setCell h.p2 o v) he rfl hl (by decide) hk hs (h.old.setCell (p := ⟨g2, o, none⟩) h.lg _)

/-- two cells of them set -/
theorem et_c2 {w W : World} {a g1 g2 : Nat} (h : ES w W a g1 g2) (o o2 : Nat) (v v2 : Value) (chs : List Chg) (he : ((cellsC plOne).toArray.setIfInBounds o v).setIfInBounds o2 v2 = (cellsC chs).toArray) (hl : 7 = chs.length)
    (hk : checkM (xB, false, plN, chs) = false) (hs : smallB (xB, false, plN, chs) = true) : ET w ((W.setCell ⟨g2, o, none⟩ v).setCell ⟨g2, o2, none⟩ v2) a :=
  et_mk ⟨#[98]⟩ false plN chs g1 g2 2 7 _ _ _ (heap_set_ne _ _ _ _ h.n2.symm (heap_set_ne _ _ _ _ h.n2.symm h.pa)) rfl (heap_set_ne _ _ _ _ h.n3 (heap_set_ne _ _ _ _ h.n3 h.p1)) rfl (row_setCell (row_setCell h.p2 o v) o2 v2) he rfl hl (by decide) hk hs ((h.old.setCell (p := ⟨g2, o, none⟩) h.lg _).setCell (p := ⟨g2, o2, none⟩) h.lg _)

theorem within_hid (v : Int) (n : Nat) (h0 : 0 < n) (h1 : n < 1000000) : ∃ k : Nat, k < n ∧ Hid (∀ w, Calls Tryd.prog 7 #[.int .i64 v, .int .i64 (n : Int)] w fun e w' => e = .returned (.int .i64 (k : Int)) ∧ w' = w) := by
  have a := Int.emod_nonneg v (show (n : Int) ≠ 0 by omega)
  have b := Int.emod_lt_of_pos v (show (0 : Int) < n by omega)
  refine ⟨(v % (n : Int)).toNat, by omega, fun w => ?_⟩
  refine (within_walk v n (by omega) (by omega) w).mono ?_
  rintro e w' ⟨rfl, rfl⟩
  exact ⟨ret_int (by omega), rfl⟩
end Go.Proofs.YtfkfaaifchafjaaDoor
