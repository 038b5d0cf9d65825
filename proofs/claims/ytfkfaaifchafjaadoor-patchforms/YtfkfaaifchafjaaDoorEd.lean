/-
  One change put behind a row of changes of the call's own.
-/
import Derived.Test.YtfkfaaifchafjaaDoorEb
import Derived.Deep.AppendLies
set_option linter.unusedSimpArgs false
set_option linter.unusedVariables false
namespace Go.Proofs.YtfkfaaifchafjaaDoor
open Go.RowKit

theorem info44 : (Tryd.prog.info? 44).map (fun i => (i.zero, i.size, i.bytes)) = some (some (.agg #[.int .i64 0, .string ⟨#[]⟩, .int .i64 0, .string ⟨#[]⟩, .int .i64 0, .string ⟨#[]⟩]), 6, 72) := by kernel_rfl

/-- A row of changes of the call's own. -/
abbrev OwnC (B : Nat) (w : World) (v : Value) (l : List Chg) : Prop := w.ownsRow B 44 6 v l.length (cellsC l)

theorem cellsC_app (a b : List Chg) : cellsC (a ++ b) = cellsC a ++ cellsC b := by simp [cellsC]
theorem cellsC_one (c : Chg) : cellsC [c] = encC c := by simp [cellsC]

theorem ownC_old {B : Nat} {w w' : World} {v : Value} {l : List Chg} (h : OwnC B w v l) (hb : Old w w') : OwnC B w' v l := by
  refine ⟨h.1, ?_⟩
  rcases h.2 with h2 | ⟨g, cap, cur, rfl, hB, hg, r⟩
  · exact .inl h2
  · exact .inr ⟨g, cap, cur, rfl, hB, block_old hb hg, r⟩

theorem ownC_lies {B : Nat} {w : World} {v : Value} {l : List Chg} (h : OwnC B w v l) : LiesC w v l := by
  have h0 := h
  refine ⟨cellsC_len l, ?_⟩
  rcases h.2 with ⟨rfl, hn⟩ | ⟨g, cap, cur, rfl, _, hg, hn, _⟩
  · exact ⟨none, 0, by rw [hn], by omega, fun _ => rfl, fun a ha => by cases ha⟩
  · refine ⟨_, cap, rfl, hn, fun h => (by cases h), fun a ha j u hu => ?_⟩
    cases ha
    exact h0.cells rfl j u hu

/-- One change more, behind the block that it was laid into. -/
theorem wpList_pushC {ops : Array Oper} {rest : List Oper} {o : Oper} {a : Act} {w : World} {Q : Exit → Act → World → Prop} (hgd : o.guard = none) (s x : Operand)
    (ho : o.op = .call { callee := .builtin .append, args := #[s, x], argTypes := #[24, 24] })
    (B : Nat) (v : Value) (l : List Chg) (n : Nat) (hnl : n = l.length) (hs : a.eval s = v) (hown : OwnC B w v l) (c : Chg) (cs : Array Value) (hcs : cs = (encC c).toArray) (H : Nat) (hH : w.heap.size = H) (hx : a.eval x = .slice (some ⟨H, 0, none⟩) 1 1)
    (hn : n + 1 ≤ 1000000000000) (hB : B ≤ w.heap.size)
    (h : ∀ g cap w', OwnC B w' (.slice (some ⟨g, 0, none⟩) (n + 1) cap) (l ++ [c]) → Fr none v.ownBlock w w' → Below B w w' → g < w'.heap.size → wpList Tryd.prog ops Q rest (a.put o.dst (.slice (some ⟨g, 0, none⟩) (n + 1) cap)) w') :
    wpList Tryd.prog ops Q (o :: rest) a (w.alloc (.cells cs 44)) := by
  subst hH
  subst hcs
  subst hnl
  obtain ⟨i, hi, hz0, hz1, hz2⟩ := info_parts info44
  refine wpList_append_lies _ hgd s x 24 ho B 44 i _ 6 72 Tryd.underlying24 hi hz0 hz1 hz2 rfl (by decide) v l.length (cellsC l) hs (ownC_old hown (old1 _ _)) ⟨w.heap.size, 0, none⟩ 1 1 (encC c) hx rfl ?_ ?_ (by decide) (by unfold maxLen; omega) (by omega) (by simp; omega) (w.heap.size + 1) (by simp) ?_
  · intro j u hj
    rw [add_none, Nat.zero_add, cell_of_row _ _ j _ 44 (0, 0) (heap_alloc_new w _)]
    simpa using hj
  · intro u hu
    have := encC_one c
    rw [Array.all_eq_true_iff_forall_mem] at this
    exact this u (by simpa using hu)
  · intro g cap w' ho2 hg hat hlt
    have hf : Fr none v.ownBlock w w' := by
      refine ⟨hg.os, hg.tape, hg.output, by have := hg.size; simp at this; omega, fun k hk _ hy => ?_⟩
      rw [hg.block k (by simp; omega) hy]
      exact Below.heap_alloc _ _ _ hk
    refine h g cap w' ?_ hf (hf.below hB (fun j hj => by cases hj) (fun j hj => (hown.lt j hj).1)) hlt
    show World.ownsRow _ _ _ _ _ _ _
    rw [List.length_append, cellsC_app, cellsC_one]
    exact ho2
end Go.Proofs.YtfkfaaifchafjaaDoor
