/-
  Step.fits; one byte appended to a row of the call's own. lz.Join. LzCodes: its walk.
-/
import Derived.Test.YtdokpimhhkbdbaaDoorBd
set_option linter.unusedSimpArgs false
set_option linter.unusedVariables false
namespace Go.Proofs.YtdokpimhhkbdbaaDoor.Lz
open Go.RowKit

def stV (s : St) : Value := .agg #[.int .u8 (s.b : Int), .int .i64 s.l, .int .i64 s.d]

/-- One byte more, behind the block that it was laid into. -/
theorem wpList_pushB {ops : Array Oper} {rest : List Oper} {o : Oper} {a : Act} {w : World} {Q : Exit → Act → World → Prop} (hgd : o.guard = none) (s x : Operand)
    (ho : o.op = .call { callee := .builtin .append, args := #[s, x], argTypes := #[22, 22] })
    (B : Nat) (v : Value) (n : Nat) (xs : List Value) (hs : a.eval s = v) (hown : w.ownsRow B 5 1 v n xs) (z : Int) (H : Nat) (hH : w.heap.size = H) (hx : a.eval x = .slice (some ⟨H, 0, none⟩) 1 1)
    (hn : n + 1 ≤ 140737488355328) (hB : B ≤ w.heap.size)
    (h : ∀ g cap w', w'.ownsRow B 5 1 (.slice (some ⟨g, 0, none⟩) (n + 1) cap) (n + 1) (xs ++ [.int .u8 z]) → Fr none v.ownBlock w w' → (v.ownBlock = some g ∨ w.heap.size ≤ g) → Below B w w' → wpList Tryd.prog ops Q rest (a.put o.dst (.slice (some ⟨g, 0, none⟩) (n + 1) cap)) w') :
    wpList Tryd.prog ops Q (o :: rest) a (w.alloc (.cells #[.int .u8 z] 5)) := by
  subst hH
  obtain ⟨i, hi, hz0, hz1, hz2⟩ := info_parts Tryd.info5
  refine wpList_append_lies _ hgd s x 22 ho B 5 i (.int .u8 0) 1 1 Tryd.underlying23 hi hz0 hz1 hz2 rfl (by decide) v n xs hs (hown.alloc _) ⟨w.heap.size, 0, none⟩ 1 1 [.int .u8 z] hx rfl ?_ ?_ (by decide) (by unfold maxLen; omega) (by omega) (by simp; omega) (w.heap.size + 1) (by simp) ?_
  · intro j u hj
    match j, hj with
    | 0, hj => simp at hj; subst hj; simp [Addr.add]
  · intro u hu; simp at hu; subst hu; rfl
  · intro g cap w' ho2 hg hat hlt
    have hf : Fr none v.ownBlock w w' := by
      refine ⟨hg.os, hg.tape, hg.output, by have := hg.size; simp at this; omega, fun k hk _ hy => ?_⟩
      rw [hg.block k (by simp; omega) hy]
      exact Below.heap_alloc _ _ _ hk
    refine h g cap w' ho2 hf ?_ (hf.below hB (fun j hj => by cases hj) (fun j hj => (hown.lt j hj).1))
    rcases hat with e | e
    · exact .inl e
    · exact .inr (by omega)

theorem byte_at {w : World} {B g cap : Nat} {bs : List Nat} {n : Nat} (hn : bs.length = n) (h : w.ownsRow B 5 1 (.slice (some ⟨g, 0, none⟩) n cap) n (bs.map byteV)) (r : Nat) (hr : r < n) : w.cell? ⟨g, r, none⟩ = some (.int .u8 (bs.getD r 0 : Nat)) := by
  rw [h.cellAt r (by omega)]
  have : r < bs.length := by omega
  simp [this, byteV]
end Go.Proofs.YtdokpimhhkbdbaaDoor.Lz

set_option linter.unusedSimpArgs false
set_option linter.unusedVariables false
namespace Go.Proofs.YtdokpimhhkbdbaaDoor.Lz
open Go.RowKit

theorem drop_step (l : List St) (j : Nat) (h : j < l.length) : l.drop j = nthS l j :: l.drop (j + 1) := by
  rw [List.drop_eq_getElem_cons h]
  simp [nthS, h]

theorem join_on {o o' : List Nat} {s : St} (l : List St) (h : stepJ o s = some o') : joinL o (s :: l) = joinL o' l := by simp [joinL, h]
theorem join_off {o : List Nat} {s : St} (l : List St) (h : stepJ o s = none) : joinL o (s :: l) = none := by simp [joinL, h]

theorem stepJ_none {o : List Nat} {s : St} (h : ¬ Fit o.length s) : stepJ o s = none := by simp only [stepJ, h, ↓reduceIte]
theorem stepJ_byte {o : List Nat} {s : St} (h : Fit o.length s) (h0 : s.l = 0) : stepJ o s = some (o ++ [s.b]) := by unfold stepJ; rw [if_pos h, if_pos h0]
theorem stepJ_row {o : List Nat} {s : St} (h : Fit o.length s) (L D : Nat) (h0 : 0 < L) (hL : s.l = L) (hD : s.d = D) : stepJ o s = some (rowOf o D L) := by
  have : s.l ≠ 0 := by omega
  unfold stepJ
  rw [if_pos h, if_neg this, hL, hD, Int.toNat_natCast, Int.toNat_natCast]

theorem own_slice {w : World} {B e sz : Nat} {v : Value} {n : Nat} {xs : List Value} (h : w.ownsRow B e sz v n xs) : ∃ ao cap, v = .slice ao n cap ∧ (0 < n → ∃ g, ao = some ⟨g, 0, none⟩) := by
  rcases h.2 with ⟨rfl, hn⟩ | ⟨g, cap, cur, rfl, _⟩
  · exact ⟨none, 0, by rw [hn], fun h => by omega⟩
  · exact ⟨_, _, rfl, fun _ => ⟨g, rfl⟩⟩

theorem Tells.cells {w : World} {v : Value} {l : List St} (h : Tells w v l) : ∃ ao cap, v = .slice ao l.length cap ∧ (0 < l.length → ∃ g o, ao = some ⟨g, o, none⟩ ∧ ∀ k, k < l.length → w.cell? ⟨g, o + k * 3, none⟩ = some (.int .u8 ((nthS l k).b : Int)) ∧ w.cell? ⟨g, o + k * 3 + 1, none⟩ = some (.int .i64 (nthS l k).l) ∧ w.cell? ⟨g, o + k * 3 + 2, none⟩ = some (.int .i64 (nthS l k).d)) := by
  by_cases h0 : 0 < l.length
  · obtain ⟨g, o, cap, h1, h2⟩ := h.at h0
    exact ⟨_, _, h1, fun _ => ⟨g, o, rfl, h2⟩⟩
  · obtain ⟨ao, cap, h1⟩ := h.len
    exact ⟨ao, cap, h1, fun h => absurd h h0⟩

end Go.Proofs.YtdokpimhhkbdbaaDoor.Lz

set_option linter.unusedSimpArgs false
set_option linter.unusedVariables false
namespace Go.Proofs.YtdokpimhhkbdbaaDoor.Lz
open Go.RowKit
theorem pow_small (b : Nat) (h : b < 16) : wrap64 (2 ^ b) = ((2 ^ b : Nat) : Int) := by
  have : (2 : Nat) ^ b ≤ 32768 := Nat.le_trans (Nat.pow_le_pow_right (by decide) (by omega : b ≤ 15)) (by decide)
  have e : ((2 : Int) ^ b) = ((2 ^ b : Nat) : Int) := by push_cast; rfl
  rw [e]
  generalize (2 : Nat) ^ b = z at *
  unfold wrap64
  omega

theorem lenN_small : ∀ c, c ≤ 28 → lenN c < 16 := by decide
theorem disN_small : ∀ c, c ≤ 29 → disN c < 16 := by decide

end Go.Proofs.YtdokpimhhkbdbaaDoor.Lz
