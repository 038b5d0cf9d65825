/-
  Heads of numbers: what they are, what stands while they are made.
-/
import Derived.Test.YtcogeebfldlpoaaHf
import Derived.Test.YtcogeebfldlpoaaBa
import Derived.Test.YtcogeebfldlpoaaArg
set_option linter.unusedSimpArgs false
set_option linter.unusedVariables false
namespace Go.Proofs.Ytcogeebfldlpoaa
open Go.RowKit
open Go.Proofs.NeedsPlain (Hd names getD_set)

def N10 : List Txt := [[107], [99], [120], [97], [109], [98], [122], [102], [100], [112]]
abbrev n10A : Array Value := #[.string ⟨#[107]⟩, .string ⟨#[99]⟩, .string ⟨#[120]⟩, .string ⟨#[97]⟩, .string ⟨#[109]⟩, .string ⟨#[98]⟩, .string ⟨#[122]⟩, .string ⟨#[102]⟩, .string ⟨#[100]⟩, .string ⟨#[112]⟩]

theorem n10A_at (j : Nat) (hj : j < 10) : n10A[j]? = some (.string (str (N10.getD j []))) := by
  rcases (show j = 0 ∨ j = 1 ∨ j = 2 ∨ j = 3 ∨ j = 4 ∨ j = 5 ∨ j = 6 ∨ j = 7 ∨ j = 8 ∨ j = 9 by omega) with rfl | rfl | rfl | rfl | rfl | rfl | rfl | rfl | rfl | rfl <;> rfl

/-- Heads that Heads makes. -/
structure GoodH (hs : List Hd) : Prop where
  len : hs.length ≤ 10
  nm : ∀ i, i < hs.length → (hs.getD i hd0).1 = N10.getD i []
  srt : ∀ i, i < hs.length → (hs.getD i hd0).2.Pairwise (· < ·)
  nl : ∀ i, i < hs.length → (hs.getD i hd0).2.length ≤ 3
  nd : ∀ i, i < hs.length → ∀ x ∈ (hs.getD i hd0).2, ∃ j, j < i ∧ x = N10.getD j []

theorem GoodH.nil : GoodH [] := ⟨by simp, by simp, by simp, by simp, by simp⟩

theorem GoodH.snoc {hs : List Hd} (h : GoodH hs) (hl : hs.length < 10) {nm : Txt} (hn : nm = N10.getD hs.length []) {nd : List Txt} (h1 : nd.Pairwise (· < ·)) (h2 : nd.length ≤ 3) (h3 : ∀ x ∈ nd, ∃ j, j < hs.length ∧ x = N10.getD j []) : GoodH (hs ++ [(nm, nd)]) := by
  subst hn
  have e1 : ∀ i, i < hs.length → (hs ++ [(N10.getD hs.length [], nd)]).getD i hd0 = hs.getD i hd0 := fun i hi => by simp [List.getElem?_append_left hi]
  have e2 : (hs ++ [(N10.getD hs.length [], nd)]).getD hs.length hd0 = (N10.getD hs.length [], nd) := by simp
  refine ⟨by rw [List.length_append, List.length_singleton]; omega, fun i hi => ?_, fun i hi => ?_, fun i hi => ?_, fun i hi => ?_⟩ <;> (
    rw [List.length_append, List.length_singleton] at hi
    by_cases e : i < hs.length
    · rw [e1 i e]
      first | exact h.nm i e | exact h.srt i e | exact h.nl i e | exact h.nd i e
    · obtain rfl : i = hs.length := by omega
      rw [e2]
      try (first | exact h1 | exact h2 | exact h3))

/-- What stands between two rounds. -/
def HdL (w : World) (i : Nat) (v : Value) (wr : World) : Prop := ∃ hs cs, HBag w.heap.size wr v hs cs ∧ hs.length = i ∧ GoodH hs ∧ Old w wr

/-- What stands while one head's needs are put together: q is its block. -/
def InL (wr : World) (q i j : Nat) (nm : ByteArray) (wz : World) : Prop :=
  ∃ (nv : Value) (nd : List Txt), wz.heap[q]? = some (.cells #[.string nm, .bool false, nv] 24 (0, 0)) ∧ wz.ownsRow (q + 1) 9 1 nv j (nd.map encStr) ∧ nd.length = j ∧ (∀ x ∈ nd, ∃ k, k < i ∧ x = N10.getD k []) ∧ Old wr wz

theorem cell_setCell_ne (w : World) (b o : Nat) (u : Value) (a : Addr) (h : a.block ≠ b) : (w.setCell ⟨b, o, none⟩ u).cell? a = w.cell? a := by
  unfold World.cell?
  rw [Below.heap_setCell _ _ _ _ h]

theorem LiesS.setCell {w : World} {v : Value} {ss : List Txt} (h : LiesS w v ss) (b o : Nat) (u : Value) (hn : v.ownBlock ≠ some b) : LiesS (w.setCell ⟨b, o, none⟩ u) v ss := by
  obtain ⟨ao, cap, h1, h2, h3, h4⟩ := h
  refine ⟨ao, cap, h1, h2, h3, fun a ha j u' hu => ?_⟩
  have e : (a.add j).block = a.block := by unfold Addr.add; split <;> rfl
  rw [cell_setCell_ne]
  · exact h4 a ha j u' hu
  · rw [e]
    intro e2
    apply hn
    rw [h1, ha, ← e2]; rfl

theorem setCell_row {w : World} {q : Nat} {x y z : Value} (h : w.heap[q]? = some (.cells #[x, y, z] 24 (0, 0))) (u : Value) : (w.setCell ⟨q, 2, none⟩ u).heap[q]? = some (.cells #[x, y, u] 24 (0, 0)) := by
  rw [row_setCell h]; rfl

theorem owns_setCell {w : World} {B q o : Nat} {v u : Value} {n : Nat} {cs : List Value} (h : w.ownsRow B 9 1 v n cs) (hq : q < B) : (w.setCell ⟨q, o, none⟩ u).ownsRow B 9 1 v n cs :=
  own_at h fun k hk => Below.heap_setCell _ _ _ _ (by have := (h.lt k hk).1; show k ≠ q; omega)

/-- One need more: the two operations that write. -/
theorem InL.put {wr wz : World} {q i j : Nat} {nm : ByteArray} (h : InL wr q i j nm wz) (hq : wr.heap.size ≤ q) (hj : j < 3) {x : ByteArray} (hx : ∃ k, k < i ∧ x.data.toList = N10.getD k []) :
    ∃ nv u V2, wz.drew.cell? ⟨q, 2, none⟩ = some nv ∧ (wz.drew.alloc (.cells #[.string x] 9)).cell? ⟨q, 2, none⟩ = some nv ∧ (Builtin.append_ #[22, 22] 22 #[nv, .slice (some ⟨wz.heap.size, 0, none⟩) 1 1]).run Try.prog (wz.drew.alloc (.cells #[.string x] 9)) = .ok u V2
      ∧ V2.cell? ⟨q, 2, none⟩ = some nv ∧ V2.frozen? ⟨q, 2, none⟩ = false ∧ InL wr q i (j + 1) nm (V2.setCell ⟨q, 2, none⟩ u) ∧ ∃ uo uc, u = .slice uo (j + 1) uc := by
  obtain ⟨nv, nd, h1, h2, h3, h4, h5⟩ := h
  have hqz : q < wz.heap.size := by
    rcases Nat.lt_or_ge q wz.heap.size with h' | h'
    · exact h'
    · rw [Array.getElem?_eq_none h'] at h1; cases h1
  obtain ⟨i9, hi, hz0, hz1, hz2⟩ := info_parts Try.inf9
  have hd : Below wz.heap.size wz wz.drew := (Below.refl _ _).drew
  have hs : wz.drew.heap.size = wz.heap.size := rfl
  have ho1 : Below wz.heap.size wz (wz.drew.alloc (.cells #[.string x] 9)) := hd.alloc (Nat.le_of_eq hs.symm) _
  have ho : (wz.drew.alloc (.cells #[.string x] 9)).ownsRow (q + 1) 9 1 nv j (nd.map encStr) := own_at h2 fun k hk => ho1.block k (h2.lt k hk).2
  have hb1 := block_old ho1 h1
  obtain ⟨u, V2, r1, r2, r3, _⟩ := run_append_own (P := Try.prog) (wz.drew.alloc (.cells #[.string x] 9)) (q + 1) 22 22 9 i9 (.string ⟨#[]⟩) 1 16 Try.underlying22s hi hz0 hz1 hz2 rfl (by decide) nv j (nd.map encStr) ho ⟨wz.heap.size, 0, none⟩ 1 1 ([x.data.toList].map encStr) (by simp) (by
    obtain ⟨_, _, e, _, _, hc⟩ := lies_one wz.drew x
    cases e
    exact hc _ rfl) (strs_one [x.data.toList]) (by unfold maxLen; omega) (by omega) (by simp; omega)
  have hb2 : V2.heap[q]? = some (.cells #[.string nm, .bool false, nv] 24 (0, 0)) := by
    rw [r3.block q (by simp; omega) (fun e => by have := (ho.lt q e.symm).1; omega)]; exact hb1
  refine ⟨nv, u, V2, ?_, (cell3 hb1).2.2, r1, (cell3 hb2).2.2, free_at hb2 2, ⟨u, nd ++ [x.data.toList], setCell_row hb2 u, ?_, by simp; omega, fun y hy => ?_, ?_⟩, ?_⟩
  · exact (cell3 (block_old hd h1)).2.2
  · have := owns_setCell (o := 2) (u := u) r2 (Nat.lt_succ_self q)
    simpa using this
  · rcases List.mem_append.1 hy with hy | hy
    · exact h4 y hy
    · obtain ⟨k, k1, k2⟩ := hx
      refine ⟨k, k1, ?_⟩
      rw [← k2]; simpa using hy
  · refine Below.setCell (((h5.drew).alloc ?_ _).grown r3 ?_ ?_) ?_ _
    · show wr.heap.size ≤ wz.drew.heap.size
      exact h5.size
    · show wr.heap.size ≤ (wz.drew.alloc (.cells #[.string x] 9)).heap.size
      exact Nat.le_trans h5.size ho1.size
    · intro k e
      have := (ho.lt k e).1
      omega
    · exact hq
  · rcases r2.2 with ⟨rfl, e⟩ | ⟨g, cap, cur, rfl, _⟩
    · exact absurd e (by simp)
    · exact ⟨_, _, rfl⟩
end Go.Proofs.Ytcogeebfldlpoaa
