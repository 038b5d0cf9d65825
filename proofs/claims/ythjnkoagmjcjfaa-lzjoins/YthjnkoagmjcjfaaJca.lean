/-
  LzJoins: its walk.
-/
import Derived.Test.YthjnkoagmjcjfaaBa
set_option linter.unusedSimpArgs false
set_option linter.unusedVariables false
namespace Go.Proofs.Ythjnkoagmjcjfaa
open Go.RowKit

/-- Some rows of steps, laid one after the other. -/
def layS (w : World) (L : List (List St)) : World := L.foldl (fun w l => w.alloc (.cells (cellsL l).toArray 27)) w

theorem layS_cons (w : World) (l : List St) (L : List (List St)) : layS w (l :: L) = layS (w.alloc (.cells (cellsL l).toArray 27)) L := rfl

theorem layS_size (w : World) (L : List (List St)) : (layS w L).heap.size = w.heap.size + L.length := by
  induction L generalizing w with
  | nil => rfl
  | cons l L ih => rw [layS_cons, ih]; simp; omega

theorem layS_below (w : World) (L : List (List St)) : Below w.heap.size w (layS w L) := by
  induction L generalizing w with
  | nil => exact Below.refl _ _
  | cons l L ih =>
    rw [layS_cons]
    exact ((Below.refl _ w).alloc (Nat.le_refl _) _).trans ((ih _).mono (by simp))

theorem layS_tells (w : World) (L : List (List St)) (j : Nat) (l : List St) (hj : L[j]? = some l) (n : Nat) (hn : l.length = n) : Tells (layS w L) (.slice (some ⟨w.heap.size + j, 0, none⟩) n n) l := by
  induction L generalizing w j with
  | nil => simp at hj
  | cons m L ih =>
    rw [layS_cons]
    cases j with
    | zero =>
      simp at hj
      subst hj
      exact (tells_lit w m _ 27 n hn rfl).old (layS_below _ L)
    | succ j =>
      have := ih (w.alloc (.cells (cellsL m).toArray 27)) j (by simpa using hj)
      have e : (w.alloc (.cells (cellsL m).toArray 27)).heap.size + j = w.heap.size + (j + 1) := by simp; omega
      rw [e] at this
      exact this

theorem join_reps (m : Nat) : ∀ (o : List Nat) (r : List St), 0 < o.length → o.length + 255 * m ≤ 65536 → ∃ o', o'.length = o.length + 255 * m ∧ joinL o (List.replicate m ⟨0, 255, 1⟩ ++ r) = joinL o' r := by
  induction m with
  | zero => intro o r _ _; exact ⟨o, by omega, rfl⟩
  | succ m ih =>
    intro o r h0 h
    have hF : Fit o.length ⟨0, 255, 1⟩ := by
      refine ⟨⟨by simp, by simp⟩, fun _ => ⟨by simp, by simp; omega⟩, ?_⟩
      simp only
      omega
    have hs : stepJ o ⟨0, 255, 1⟩ = some (rowOf o 1 255) := stepJ_row hF 255 1 (by decide) rfl rfl
    obtain ⟨o', h1, h2⟩ := ih (rowOf o 1 255) r (by rw [rowOf_len]; omega) (by rw [rowOf_len]; omega)
    rw [rowOf_len] at h1
    refine ⟨o', by omega, ?_⟩
    rw [List.replicate_succ, List.cons_append, join_on _ hs]
    exact h2

theorem join_most (c : Nat) : ∃ out, out.length = 65536 ∧ joinL [] (⟨c, 0, 0⟩ :: List.replicate 257 ⟨0, 255, 1⟩) = some out ∧ joinL [] (⟨c, 0, 0⟩ :: List.replicate 257 ⟨0, 255, 1⟩ ++ [⟨c, 0, 0⟩]) = none := by
  have h0 : stepJ [] ⟨c, 0, 0⟩ = some [c] := rfl
  obtain ⟨o1, h1, h2⟩ := join_reps 257 [c] [] (by simp) (by simp)
  obtain ⟨o2, h3, h4⟩ := join_reps 257 [c] [⟨c, 0, 0⟩] (by simp) (by simp)
  refine ⟨o1, by simpa using h1, ?_, ?_⟩
  · rw [join_on _ h0]
    rw [List.append_nil] at h2
    rw [h2]; rfl
  · rw [List.cons_append, join_on _ h0, h4]
    refine join_off _ (stepJ_none ?_)
    rintro ⟨_, _, h⟩
    simp only [List.length_singleton] at h3 h
    omega

theorem bad_dist (c n : Nat) (hn : 1 ≤ n) (hn2 : n ≤ 200) : joinL [] [⟨0, n, 1⟩] = none ∧ joinL [] [⟨c, 0, 0⟩, ⟨0, 3, 1 + (n : Int)⟩] = none ∧ joinL [] [⟨c, 0, 0⟩, ⟨0, 258 + (n : Int), 1⟩] = none ∧ joinL [] [⟨c, 0, 0⟩, ⟨0, -(n : Int), 0⟩] = none ∧ joinL [] [⟨c, 0, 0⟩, ⟨0, 3, 0⟩] = none ∧ joinL [] [⟨c, 0, 0⟩, ⟨0, 3, -(n : Int)⟩] = none := by
  have h0 : stepJ [] ⟨c, 0, 0⟩ = some [c] := rfl
  refine ⟨join_off _ (stepJ_none ?_), ?_, ?_, ?_, ?_, ?_⟩
  · rintro ⟨_, h, _⟩
    have := (h (by simp only; omega)).2
    simp at this
  all_goals
    rw [join_on _ h0]
    refine join_off _ (stepJ_none ?_)
    rintro ⟨⟨h1, h2⟩, h, _⟩
    simp only [List.length_singleton] at h1 h2 h
    omega

def badL (c n : Nat) : List (List St) := [[⟨0, n, 1⟩], [⟨c, 0, 0⟩, ⟨0, 3, 1 + (n : Int)⟩], [⟨c, 0, 0⟩, ⟨0, 258 + (n : Int), 1⟩], [⟨c, 0, 0⟩, ⟨0, -(n : Int), 0⟩], [⟨c, 0, 0⟩, ⟨0, 3, 0⟩], [⟨c, 0, 0⟩, ⟨0, 3, -(n : Int)⟩]]

def badV (B : Nat) : Array Value := #[.slice (some ⟨B, 0, none⟩) 1 1, .slice (some ⟨B + 1, 0, none⟩) 2 2, .slice (some ⟨B + 2, 0, none⟩) 2 2, .slice (some ⟨B + 3, 0, none⟩) 2 2, .slice (some ⟨B + 4, 0, none⟩) 2 2, .slice (some ⟨B + 5, 0, none⟩) 2 2]

/-- The six rows that may not be: laid, and a row of them. -/
theorem bad_all (w : World) (c n : Nat) (hn : 1 ≤ n) (hn2 : n ≤ 200) : ∃ sl : Nat → Value, Hid (∀ k, k < 6 → ((layS w (badL c n)).alloc (.cells (badV w.heap.size) 24)).cell? ⟨w.heap.size + 6, k, none⟩ = some (sl k) ∧ ∃ l : List St, l.length ≤ 2 ∧ joinL [] l = none ∧ Tells ((layS w (badL c n)).alloc (.cells (badV w.heap.size) 24)) (sl k) l) := by
  obtain ⟨b0, b1, b2, b3, b4, b5⟩ := bad_dist c n hn hn2
  refine ⟨fun k => (badV w.heap.size).getD k undef, fun k hk => ?_⟩
  have hsz : (layS w (badL c n)).heap.size = w.heap.size + 6 := layS_size w _
  have hold : Below (layS w (badL c n)).heap.size (layS w (badL c n)) ((layS w (badL c n)).alloc (.cells (badV w.heap.size) 24)) := (Below.refl _ _).alloc (Nat.le_refl _) _
  constructor
  · rw [← hsz, cell_of_row _ _ k _ 24 (0, 0) (heap_alloc_new _ _)]
    match k, hk with
    | 0, _ => rfl
    | 1, _ => rfl
    | 2, _ => rfl
    | 3, _ => rfl
    | 4, _ => rfl
    | 5, _ => rfl
  · match k, hk with
    | 0, _ => exact ⟨_, by simp, b0, (layS_tells w (badL c n) 0 _ rfl 1 rfl).old hold⟩
    | 1, _ => exact ⟨_, by simp, b1, (layS_tells w (badL c n) 1 _ rfl 2 rfl).old hold⟩
    | 2, _ => exact ⟨_, by simp, b2, (layS_tells w (badL c n) 2 _ rfl 2 rfl).old hold⟩
    | 3, _ => exact ⟨_, by simp, b3, (layS_tells w (badL c n) 3 _ rfl 2 rfl).old hold⟩
    | 4, _ => exact ⟨_, by simp, b4, (layS_tells w (badL c n) 4 _ rfl 2 rfl).old hold⟩
    | 5, _ => exact ⟨_, by simp, b5, (layS_tells w (badL c n) 5 _ rfl 2 rfl).old hold⟩
end Go.Proofs.Ythjnkoagmjcjfaa
