/-
  Patches in memory: rows of changes, what a patch's value reads as; ofNeeds, own, hasFile, hasLine walked.
-/
import Derived.Test.YtfkfaaifchafjaaDoorSc
import Derived.Test.YtfkfaaifchafjaaDoorPm
import Derived.Test.YtfkfaaifchafjaaDoorPb
set_option linter.unusedSimpArgs false
set_option linter.unusedVariables false
namespace Go.Proofs.YtfkfaaifchafjaaDoor
open Go.RowKit

/-- What stood stands. -/
abbrev Old (w w' : World) : Prop := Below w.heap.size w w'
theorem old_refl (w : World) : Old w w := Below.refl _ _
theorem old1 (w : World) (o : Obj) : Old w (w.alloc o) := (Below.refl _ w).alloc (Nat.le_refl _) _
theorem old2 (w : World) (o p : Obj) : Old w ((w.alloc o).alloc p) := (old1 w o).alloc (by simp) _
theorem old3 (w : World) (o p q : Obj) : Old w (((w.alloc o).alloc p).alloc q) := (old2 w o p).alloc (by simp; omega) _
theorem old4 (w : World) (o p q r : Obj) : Old w ((((w.alloc o).alloc p).alloc q).alloc r) := (old3 w o p q).alloc (by simp; omega) _

theorem heap_a2 (w : World) (a o : Obj) : ((w.alloc a).alloc o).heap[w.heap.size + 1]? = some o := by
  have := heap_alloc_new (w.alloc a) o
  simpa using this
theorem heap_a3 (w : World) (a b o : Obj) : (((w.alloc a).alloc b).alloc o).heap[w.heap.size + 1 + 1]? = some o := by
  have := heap_alloc_new ((w.alloc a).alloc b) o
  simpa using this

theorem h10 (w : World) (a : Obj) : (w.alloc a).heap[w.heap.size]? = some a := heap_alloc_new w a
theorem h20 (w : World) (a b : Obj) : ((w.alloc a).alloc b).heap[w.heap.size]? = some a := block_old (old1 _ _) (h10 w a)
theorem h21 (w : World) (a b : Obj) : ((w.alloc a).alloc b).heap[w.heap.size + 1]? = some b := heap_a2 w a b
theorem h30 (w : World) (a b c : Obj) : (((w.alloc a).alloc b).alloc c).heap[w.heap.size]? = some a := block_old (old1 _ _) (h20 w a b)
theorem h31 (w : World) (a b c : Obj) : (((w.alloc a).alloc b).alloc c).heap[w.heap.size + 1]? = some b := block_old (old1 _ _) (h21 w a b)
theorem h32 (w : World) (a b c : Obj) : (((w.alloc a).alloc b).alloc c).heap[w.heap.size + 1 + 1]? = some c := heap_a3 w a b c
theorem cell2 {w : World} {b : Nat} {x y : Value} {t : TypeId} (h : w.heap[b]? = some (.cells #[x, y] t (0, 0))) : w.cell? ⟨b, 0, none⟩ = some x ∧ w.cell? ⟨b, 1, none⟩ = some y := by simp [World.cell?, h]
theorem cell3 {w : World} {b : Nat} {x y z : Value} {t : TypeId} (h : w.heap[b]? = some (.cells #[x, y, z] t (0, 0))) : w.cell? ⟨b, 0, none⟩ = some x ∧ w.cell? ⟨b, 1, none⟩ = some y ∧ w.cell? ⟨b, 2, none⟩ = some z := by simp [World.cell?, h]
theorem cell4 {w : World} {b : Nat} {x y z u : Value} {t : TypeId} (h : w.heap[b]? = some (.cells #[x, y, z, u] t (0, 0))) : w.cell? ⟨b, 0, none⟩ = some x ∧ w.cell? ⟨b, 1, none⟩ = some y ∧ w.cell? ⟨b, 2, none⟩ = some z ∧ w.cell? ⟨b, 3, none⟩ = some u := by simp [World.cell?, h]
theorem cell6 {w : World} {b : Nat} {x y z u v r : Value} {t : TypeId} (h : w.heap[b]? = some (.cells #[x, y, z, u, v, r] t (0, 0))) : w.cell? ⟨b, 0, none⟩ = some x ∧ w.cell? ⟨b, 1, none⟩ = some y ∧ w.cell? ⟨b, 2, none⟩ = some z ∧ w.cell? ⟨b, 3, none⟩ = some u ∧ w.cell? ⟨b, 4, none⟩ = some v ∧ w.cell? ⟨b, 5, none⟩ = some r := by simp [World.cell?, h]

/-- A row of things of wd cells each. -/
def LiesV (wd : Nat) (w : World) (v : Value) (n : Nat) (cs : List Value) : Prop :=
  cs.length = wd * n ∧ ∃ ao cap, v = .slice ao n cap ∧ n ≤ cap ∧ (ao = none → cap = 0) ∧ ∀ a, ao = some a → ∀ j u, cs[j]? = some u → w.cell? (a.add j) = some u

theorem LiesV.old {wd : Nat} {w w' : World} {v : Value} {n : Nat} {cs : List Value} (h : LiesV wd w v n cs) (hb : Old w w') : LiesV wd w' v n cs := by
  obtain ⟨h0, ao, cap, h1, h2, h3, h4⟩ := h
  exact ⟨h0, ao, cap, h1, h2, h3, fun a ha j u hu => cell_old hb (h4 a ha j u hu)⟩

def encC (c : Chg) : List Value := [.int .i64 c.1, encStr c.2.1.1, .int .i64 c.2.1.2, encStr c.2.2.1.1, .int .i64 c.2.2.1.2, encStr c.2.2.2]
def cellsC (l : List Chg) : List Value := l.flatMap encC

theorem cellsC_len (l : List Chg) : (cellsC l).length = 6 * l.length := by
  induction l with
  | nil => rfl
  | cons c l ih => simp only [cellsC, List.flatMap_cons, List.length_append] at ih ⊢; rw [ih]; simp [encC]; omega

theorem cellsC_at (l : List Chg) (k j : Nat) (hk : k < l.length) (hj : j < 6) : (cellsC l)[6 * k + j]? = (encC (l.getD k chg0))[j]? := by
  induction l generalizing k with
  | nil => simp at hk
  | cons s l ih =>
    have e : cellsC (s :: l) = encC s ++ cellsC l := by simp [cellsC]
    rw [e]
    cases k with
    | zero =>
      rw [List.getElem?_append_left (by simp [encC]; omega)]
      simp
    | succ k =>
      rw [List.getElem?_append_right (by simp [encC]; omega)]
      have : 6 * (k + 1) + j - (encC s).length = 6 * k + j := by simp [encC]; omega
      rw [this, ih k (by simpa using hk)]
      simp

abbrev LiesC (w : World) (v : Value) (l : List Chg) : Prop := LiesV 6 w v l.length (cellsC l)

theorem LiesC.form {w : World} {v : Value} {l : List Chg} (h : LiesC w v l) (hn : 0 < l.length) : ∃ b off cap, v = .slice (some ⟨b, off, none⟩) l.length cap ∧ l.length ≤ cap ∧ ∀ k j, k < l.length → j < 6 → w.cell? ⟨b, off + (6 * k + j), none⟩ = (encC (l.getD k chg0))[j]? := by
  obtain ⟨h0, ao, cap, h1, h2, h3, h4⟩ := h
  cases ao with
  | none => have := h3 rfl; omega
  | some a =>
    have hc : ∀ k j, k < l.length → j < 6 → w.cell? (a.add (6 * k + j)) = (encC (l.getD k chg0))[j]? := by
      intro k j hk hj
      rw [← cellsC_at l k j hk hj]
      have hlt : 6 * k + j < (cellsC l).length := by rw [cellsC_len]; omega
      rw [List.getElem?_eq_getElem hlt]
      exact h4 a rfl _ _ (List.getElem?_eq_getElem hlt)
    have e := spot_none (u := .int .i64 (l.getD 0 chg0).1) (by have := hc 0 0 hn (by decide); exact this)
    have e2 : a.add (6 * 0 + 0) = a := rfl
    rw [e2] at e
    refine ⟨a.block, a.off, cap, by rw [h1]; congr 2, h2, fun k j hk hj => ?_⟩
    have := hc k j hk hj
    rw [e, add_none] at this
    exact this

/-- What a row of changes has at its k-th place: six cells. -/
theorem LiesC.six {w : World} {b off : Nat} {l : List Chg} (h : ∀ k j, k < l.length → j < 6 → w.cell? ⟨b, off + (6 * k + j), none⟩ = (encC (l.getD k chg0))[j]?) (k : Nat) (hk : k < l.length) :
    w.cell? ⟨b, off + k * 6, none⟩ = some (.int .i64 (l.getD k chg0).1) ∧ w.cell? ⟨b, off + k * 6 + 1, none⟩ = some (encStr (l.getD k chg0).2.1.1) ∧ w.cell? ⟨b, off + k * 6 + 2, none⟩ = some (.int .i64 (l.getD k chg0).2.1.2)
    ∧ w.cell? ⟨b, off + k * 6 + 3, none⟩ = some (encStr (l.getD k chg0).2.2.1.1) ∧ w.cell? ⟨b, off + k * 6 + 4, none⟩ = some (.int .i64 (l.getD k chg0).2.2.1.2) ∧ w.cell? ⟨b, off + k * 6 + 5, none⟩ = some (encStr (l.getD k chg0).2.2.2) := by
  have f : ∀ j, off + k * 6 + j = off + (6 * k + j) := fun j => by omega
  refine ⟨?_, ?_, ?_, ?_, ?_, ?_⟩
  · have := h k 0 hk (by decide); rw [← f 0] at this; exact this
  · rw [f]; exact h k 1 hk (by decide)
  · rw [f]; exact h k 2 hk (by decide)
  · rw [f]; exact h k 3 hk (by decide)
  · rw [f]; exact h k 4 hk (by decide)
  · rw [f]; exact h k 5 hk (by decide)

theorem LiesC.range {w : World} {b off : Nat} {l : List Chg} (h : ∀ k j, k < l.length → j < 6 → w.cell? ⟨b, off + (6 * k + j), none⟩ = (encC (l.getD k chg0))[j]?) (k : Nat) (hk : k < l.length) : w.rangeAt b (off + k * 6) (encC (l.getD k chg0)) := by
  intro j v hv
  have hj : j < 6 := by
    have := (List.getElem?_eq_some_iff.1 hv).1
    simpa [encC] using this
  rw [show off + k * 6 + j = off + (6 * k + j) by omega, h k j hk hj, hv]

theorem range_old {w w' : World} {b o : Nat} {cs : List Value} (h : w.rangeAt b o cs) (hb : Old w w') : w'.rangeAt b o cs := fun j v hv => cell_old hb (h j v hv)

theorem in_old (w : World) (v : Value) (ss : List (List UInt8)) (x : ByteArray) (hv : LiesS w v ss) (hl : ss.length ≤ 1000000) :
    Hid (∀ w', Old w w' → Calls Tryd.prog 85 #[v, .string x] w' fun e w'' => e = .returned (.bool (decide (x.data.toList ∈ ss))) ∧ w'' = w') :=
  fun w' h => in_walk w' v ss x (hv.old h) (by omega)

set_option maxHeartbeats 1000000 in
theorem ofNeeds_walk (w : World) (nm : ByteArray) (tg : Bool) (nv cv : Value) (needs : List Txt) (q : ByteArray) (n : Int) (hv : LiesS w nv needs) (hl : needs.length ≤ 1000000) :
    Calls Tryd.prog 62 #[.agg #[.string nm, .bool tg, nv, cv], .agg #[.string q, .int .i64 n]] w fun e w' => e = .returned (.bool (ofNeeds needs (q.data.toList, n))) ∧ Old w w' := by
  have k1 := in_old w nv needs q hv hl
  have HB := mkHid (old2 w (.cells #[.string nm, .bool tg, nv, cv] 26) (.cells #[.string q, .int .i64 n] 42))
  obtain ⟨b, hb⟩ : ∃ b, b = ofNeeds needs (q.data.toList, n) := ⟨_, rfl⟩
  rw [← hb]
  have HR := mkHid hb
  clear hb hl
  obtain ⟨ao, cap, rfl, _⟩ := hv
  by_cases h1 : 1 ≤ n
  · by_cases h2 : n ≤ 40
    · go_enter Tryd.func62, Tryd.ntmps62
      go_wp2_with (go_at_call 85; (with_reducible refine (k1.out _ HB.out).mono ?_); rintro e w1 ⟨rfl, rfl⟩)
      go_ret
      exact ⟨ret_bool (by rw [HR.out]; simp [ofNeeds, h1, h2]), HB.out⟩
    · go_enter Tryd.func62, Tryd.ntmps62
      go_wp2
      go_ret
      exact ⟨ret_bool (by rw [HR.out]; simp [ofNeeds]; intros; omega), HB.out⟩
  · go_enter Tryd.func62, Tryd.ntmps62
    go_wp2
    go_ret
    exact ⟨ret_bool (by rw [HR.out]; simp [ofNeeds]; intros; omega), HB.out⟩

end Go.Proofs.YtfkfaaifchafjaaDoor
