/-
  make([]int, m) as a row of noughts; objects that stand while another one of their own type is turned.
-/
import Derived.Test.YtdokpimhhkbdbaaDoorLi
set_option linter.unusedSimpArgs false
set_option linter.unusedVariables false
namespace Go.Proofs.YtdokpimhhkbdbaaDoor
open Go.RowKit

def zeroRow (m : Nat) : Array Value := (List.replicate m (natV 0)).toArray

theorem make_zero (m : Nat) (hm : m ≤ 17592186044416) (w : World) : (Instr.makeSlice 37 (.int .i64 (m : Int)) (.int .i64 (m : Int))).run Tryd.prog w = .ok (.slice (some ⟨w.heap.size, 0, none⟩) m m) (w.alloc (.cells (zeroRow m) 3)) := by
  obtain ⟨i, hi, hz0, hz1, hz2⟩ := info_parts Tryd.infi3
  have := run_make (P := Tryd.prog) w 37 3 i _ Tryd.under26 hi hz0 .i64 .i64 (m : Int) (m : Int) (by omega) (by omega) (by rw [hz2]; omega) (by omega)
  rw [hz1] at this
  have e : madeCells #[.int .i64 0] m = zeroRow m := by
    unfold zeroRow
    apply Array.ext'
    rw [toList_madeCells_one]
    rfl
  simpa [Value.cells, e] using this

/-- A reader, while another one is turned. -/
theorem Rd.apart {T : TypeId} {w w' : World} {rb x : Nat} {bs : List Nat} {pos : Nat} {bad : Bool} {c : Array Value} {T' : TypeId} (h : Rd T w rb bs pos bad) (hg : w.grownBy w' (some x)) (hx : w.heap[x]? = some (.cells c T' (0, 0))) (h5 : T' ≠ 5) (hne : rb ≠ x) : Rd T w' rb bs pos bad := by
  obtain ⟨⟨v, hp, ho⟩, h2, h3, h4⟩ := h
  exact ⟨⟨v, by rw [hg.block rb (lt_of_block hp) (by simpa using hne)]; exact hp, owns_grown ho hg (owns_ne ho hx h5)⟩, h2, h3, h4⟩

theorem owns_grown3 {w w' : World} {B x : Nat} {v : Value} {n : Nat} {xs : List Value} (h : w.ownsRow B 3 1 v n xs) (hg : w.grownBy w' (some x)) (hx : v.ownBlock ≠ some x) : w'.ownsRow B 3 1 v n xs :=
  h.kept hg (Or.inr hx)

/-- A table, while something else is turned. -/
theorem Tab.apart {w w' : World} {tb x : Nat} {l : List Nat} {c : Array Value} {T : TypeId} (h : Tab w tb l) (hg : w.grownBy w' (some x)) (hx : w.heap[x]? = some (.cells c T (0, 0))) (h66 : T ≠ 100) (h69 : T ≠ 102) (h3 : T ≠ 3) : Tab w' tb l := by
  obtain ⟨⟨cb, v, cs, h1, h2, he, h4⟩, r1, r2, r3⟩ := h
  refine ⟨⟨cb, v, cs, ?_, ?_, he, owns_grown3 h4 hg (owns_ne3 h4 hx h3)⟩, r1, r2, r3⟩
  · rw [hg.block tb (lt_of_block h1) (by simpa using blocks_ne h1 hx (Ne.symm h66))]; exact h1
  · rw [hg.block cb (lt_of_block h2) (by simpa using blocks_ne h2 hx (Ne.symm h69))]; exact h2

/-- A table without codes, while a row of whole numbers is written into. -/
theorem Tab.none_set {w : World} {tb g : Nat} {l : List Nat} {c : Array Value} (h : Tab w tb l) (h0 : ord l 16 = []) (hx : w.heap[g]? = some (.cells c 3 (0, 0))) (o : Nat) (u : Value) : Tab (w.setCell ⟨g, o, none⟩ u) tb l := by
  obtain ⟨⟨cb, v, cs, h1, h2, he, h4⟩, r1, r2, r3⟩ := h
  refine ⟨⟨cb, v, cs, ?_, ?_, he, ?_⟩, r1, r2, r3⟩
  · rw [Below.heap_setCell _ _ _ _ (blocks_ne h1 hx (by decide))]; exact h1
  · rw [Below.heap_setCell _ _ _ _ (blocks_ne h2 hx (by decide))]; exact h2
  · rw [h0] at h4 ⊢
    refine ⟨h4.1, ?_⟩
    rcases h4.2 with h | ⟨g', cap, cur, rfl, hb, hg', hn, hm, hs, ht⟩
    · exact .inl h
    · right
      by_cases e : g' = g
      · subst e
        exact ⟨g', cap, _, rfl, hb, row_setCell hg' o u, hn, hm, by simpa using hs, by simp⟩
      · exact ⟨g', cap, cur, rfl, hb, by rw [Below.heap_setCell _ _ _ _ e]; exact hg', hn, hm, hs, ht⟩

end Go.Proofs.YtdokpimhhkbdbaaDoor
