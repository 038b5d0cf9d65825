/-
  Rows of steps; one step appended; lz.Split.
-/
import Derived.Test.YtdokpimhhkbdbaaDoorZSb
import Derived.Deep.AppendLies
set_option linter.unusedSimpArgs false
set_option linter.unusedVariables false
namespace Go.Proofs.YtdokpimhhkbdbaaDoor.Lz
open Go.RowKit

def stL (s : St) : List Value := [.int .u8 (s.b : Int), .int .i64 s.l, .int .i64 s.d]
def cellsL (l : List St) : List Value := l.flatMap stL

theorem cellsL_len (l : List St) : (cellsL l).length = l.length * 3 := by
  induction l with
  | nil => rfl
  | cons s l ih => simp only [cellsL, List.flatMap_cons, List.length_append] at ih ⊢; rw [ih]; simp [stL]; omega

theorem cellsL_append (l m : List St) : cellsL (l ++ m) = cellsL l ++ cellsL m := by simp [cellsL]
theorem cellsL_one (s : St) : cellsL [s] = stL s := by simp [cellsL]

theorem cellsL_at (l : List St) (k j : Nat) (hk : k < l.length) (hj : j < 3) : (cellsL l)[3 * k + j]? = (stL (l.getD k ⟨0, 0, 0⟩))[j]? := by
  induction l generalizing k with
  | nil => simp at hk
  | cons s l ih =>
    have e : cellsL (s :: l) = stL s ++ cellsL l := by simp [cellsL]
    rw [e]
    cases k with
    | zero =>
      rw [List.getElem?_append_left (by simp [stL]; omega)]
      simp
    | succ k =>
      rw [List.getElem?_append_right (by simp [stL]; omega)]
      have : 3 * (k + 1) + j - (stL s).length = 3 * k + j := by simp [stL]; omega
      rw [this, ih k (by simpa using hk)]
      simp

/-- A row of steps of the call's own. -/
abbrev Steps (B T : Nat) (w : World) (v : Value) (l : List St) : Prop := w.ownsRow B T 3 v l.length (cellsL l)

theorem owns_below {w w' : World} {B e sz : Nat} {v : Value} {n : Nat} {xs : List Value} (h : w.ownsRow B e sz v n xs) (hb : Below w.heap.size w w') : w'.ownsRow B e sz v n xs := by
  refine ⟨h.1, ?_⟩
  rcases h.2 with h2 | ⟨g, cap, cur, rfl, hB, hg, r⟩
  · exact .inl h2
  · exact .inr ⟨g, cap, cur, rfl, hB, by rw [hb.block g (lt_of_block hg)]; exact hg, r⟩

/-- One step more, behind the block that it was laid into. -/
theorem wpList_pushSt {ops : Array Oper} {rest : List Oper} {o : Oper} {a : Act} {w : World} {Q : Exit → Act → World → Prop} (hgd : o.guard = none) (t e : TypeId) (s x : Operand)
    (ho : o.op = .call { callee := .builtin .append, args := #[s, x], argTypes := #[t, t] })
    (ht : Tryd.prog.underlying t = some (.slice e)) (hinf : (Tryd.prog.info? e).map (fun i => (i.zero, i.size, i.bytes)) = some (some (.agg #[.int .u8 0, .int .i64 0, .int .i64 0]), 3, 24))
    (B : Nat) (v : Value) (n : Nat) (xs : List Value) (hs : a.eval s = v) (hown : w.ownsRow B e 3 v n xs) (p q r : Value) (h1 : p.oneCell' = true ∧ q.oneCell' = true ∧ r.oneCell' = true) (H : Nat) (hH : w.heap.size = H) (hx : a.eval x = .slice (some ⟨H, 0, none⟩) 1 1)
    (hn : n + 1 ≤ 5864062014805) (hB : B ≤ w.heap.size)
    (h : ∀ g cap w', w'.ownsRow B e 3 (.slice (some ⟨g, 0, none⟩) (n + 1) cap) (n + 1) (xs ++ [p, q, r]) → Fr none v.ownBlock w w' → (v.ownBlock = some g ∨ w.heap.size ≤ g) → Below B w w' → wpList Tryd.prog ops Q rest (a.put o.dst (.slice (some ⟨g, 0, none⟩) (n + 1) cap)) w') :
    wpList Tryd.prog ops Q (o :: rest) a (w.alloc (.cells #[p, q, r] e)) := by
  subst hH
  obtain ⟨i, hi, hz0, hz1, hz2⟩ := info_parts hinf
  refine wpList_append_lies _ hgd s x t ho B e i _ 3 24 ht hi hz0 hz1 hz2 rfl (by decide) v n xs hs (hown.alloc _) ⟨w.heap.size, 0, none⟩ 1 1 [p, q, r] hx rfl ?_ ?_ (by decide) (by unfold maxLen; omega) (by omega) (by simp; omega) (w.heap.size + 1) (by simp) ?_
  · intro j u hj
    match j, hj with
    | 0, hj => simp at hj; subst hj; simp [Addr.add]
    | 1, hj => simp at hj; subst hj; simp [Addr.add]
    | 2, hj => simp at hj; subst hj; simp [Addr.add]
  · intro u hu; simp at hu; rcases hu with rfl | rfl | rfl
    · exact h1.1
    · exact h1.2.1
    · exact h1.2.2
  · intro g cap w' ho2 hg hat hlt
    have hf : Fr none v.ownBlock w w' := by
      refine ⟨hg.os, hg.tape, hg.output, by have := hg.size; simp at this; omega, fun k hk _ hy => ?_⟩
      rw [hg.block k (by simp; omega) hy]
      exact Below.heap_alloc _ _ _ hk
    refine h g cap w' ho2 hf ?_ (hf.below hB (fun j hj => by cases hj) (fun j hj => (hown.lt j hj).1))
    rcases hat with e | e
    · exact .inl e
    · exact .inr (by omega)

theorem steps_push {B T : Nat} {w : World} {v : Value} {l : List St} {n : Nat} (hn : l.length = n) {s : St} (h : w.ownsRow B T 3 v (n + 1) (cellsL l ++ stL s)) : Steps B T w v (l ++ [s]) := by
  subst hn
  show w.ownsRow _ _ _ _ _ _
  rw [List.length_append, cellsL_append, cellsL_one]
  exact h

end Go.Proofs.YtdokpimhhkbdbaaDoor.Lz
