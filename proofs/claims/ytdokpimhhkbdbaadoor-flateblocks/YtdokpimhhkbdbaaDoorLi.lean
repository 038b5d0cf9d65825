/-
  Slices of whole numbers that a law writes out; the law's example (wakes).
-/
import Derived.Test.YtdokpimhhkbdbaaDoorNc
set_option linter.unusedSimpArgs false
set_option linter.unusedVariables false
namespace Go.Proofs.YtdokpimhhkbdbaaDoor
open Go.RowKit

def intV (z : Int) : Value := .int .i64 z
/-- Some rows of whole numbers, laid one after the other. -/
def lay (w : World) (L : List (List Int)) : World := L.foldl (fun w zs => w.alloc (.cells (zs.map intV).toArray 3)) w

theorem lay_cons (w : World) (zs : List Int) (L : List (List Int)) : lay w (zs :: L) = lay (w.alloc (.cells (zs.map intV).toArray 3)) L := rfl

theorem lay_size (w : World) (L : List (List Int)) : (lay w L).heap.size = w.heap.size + L.length := by
  induction L generalizing w with
  | nil => rfl
  | cons zs L ih => rw [lay_cons, ih]; simp; omega

theorem lay_below (w : World) (L : List (List Int)) : Below w.heap.size w (lay w L) := by
  induction L generalizing w with
  | nil => exact Below.refl _ _
  | cons zs L ih =>
    rw [lay_cons]
    exact ((Below.refl _ w).alloc (Nat.le_refl _) _).trans ((ih _).mono (by simp))

theorem ints_lit (w : World) (zs : List Int) : Ints (w.alloc (.cells (zs.map intV).toArray 3)) (.slice (some ⟨w.heap.size, 0, none⟩) zs.length zs.length) zs := by
  refine ⟨_, _, rfl, Nat.le_refl _, fun h => (by cases h), fun a ha j hj => ?_⟩
  cases ha
  have hadd : (⟨w.heap.size, 0, none⟩ : Addr).add j = ⟨w.heap.size, j, none⟩ := by unfold Addr.add; split <;> simp_all
  rw [hadd, cell_of_row _ _ j _ 3 (0, 0) (heap_alloc_new w _)]
  simp [hj, intV]

theorem lay_ints (w : World) (L : List (List Int)) (j : Nat) (zs : List Int) (hj : L[j]? = some zs) (n : Nat) (hn : zs.length = n) : Ints (lay w L) (.slice (some ⟨w.heap.size + j, 0, none⟩) n n) zs := by
  subst hn
  induction L generalizing w j with
  | nil => simp at hj
  | cons ys L ih =>
    rw [lay_cons]
    cases j with
    | zero =>
      simp at hj
      subst hj
      exact (ints_lit w ys).old (lay_below _ L)
    | succ j =>
      have := ih (w.alloc (.cells (ys.map intV).toArray 3)) j (by simpa using hj)
      have e : (w.alloc (.cells (ys.map intV).toArray 3)).heap.size + j = w.heap.size + (j + 1) := by simp; omega
      rw [e] at this
      exact this


theorem new_lit (zs : List Int) (h : OK zs) : Hid (∀ w v, Ints w v zs → Calls Tryd.prog 60 #[v] w fun e w' => ∃ tb, e = .returned (.tuple #[.pointer (some ⟨tb, 0, none⟩), .int .i64 0]) ∧ w.heap.size ≤ tb ∧ Below w.heap.size w w' ∧ Tab w' tb (zs.map Int.toNat)) := by
  intro w v hv
  refine (new_any w v zs hv (by have := h.1; omega)).mono ?_
  rintro e w' ⟨hb, ⟨_, tb, rfl, ht, hT⟩ | ⟨h', _⟩⟩
  · exact ⟨tb, rfl, ht, hb, hT⟩
  · exact absurd h h'

theorem new_bad (zs : List Int) (h : ¬ OK zs) (hl : zs.length ≤ 140737488355328) : Hid (∀ w v, Ints w v zs → Calls Tryd.prog 60 #[v] w fun e w' => e = .returned (.tuple #[.pointer none, .int .i64 2]) ∧ Below w.heap.size w w') := by
  intro w v hv
  refine (new_any w v zs hv hl).mono ?_
  rintro e w' ⟨hb, ⟨h', _⟩ | ⟨_, rfl⟩⟩
  · exact absurd h' h
  · exact ⟨rfl, hb⟩

theorem below_drewN (w : World) (k : Nat) : Below w.heap.size w (w.drewN k) := ⟨rfl, rfl, rfl, Nat.le_refl _, fun _ _ => rfl⟩

end Go.Proofs.YtdokpimhhkbdbaaDoor
