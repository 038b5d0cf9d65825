/-
  lz.Join.
-/
import Derived.Test.YtdokpimhhkbdbaaDoorZJa
set_option linter.unusedSimpArgs false
set_option linter.unusedVariables false
namespace Go.Proofs.YtdokpimhhkbdbaaDoor.Lz
open Go.RowKit

theorem drop_step (l : List St) (j : Nat) (h : j < l.length) : l.drop j = nthS l j :: l.drop (j + 1) := by
  rw [List.drop_eq_getElem_cons h]
  simp [nthS, h]

theorem join_on {o o' : List Nat} {s : St} (l : List St) (h : stepJ o s = some o') : joinL o (s :: l) = joinL o' l := by simp [joinL, h]
theorem join_off {o : List Nat} {s : St} (l : List St) (h : stepJ o s = none) : joinL o (s :: l) = none := by simp [joinL, h]

theorem stepJ_none {o : List Nat} {s : St} (h : ¬ Fit o.length s) : stepJ o s = none := by simp only [stepJ, h, ↓reduceIte]
theorem stepJ_byte {o : List Nat} {s : St} (h : Fit o.length s) (h0 : s.l = 0) : stepJ o s = some (o ++ [s.b]) := by unfold stepJ; rw [if_pos h, if_pos h0]
theorem stepJ_row {o : List Nat} {s : St} (h : Fit o.length s) (L D : Nat) (h0 : 0 < L) (hL : s.l = L) (hD : s.d = D) : stepJ o s = some (rowOf o D L) := by
  have : s.l ≠ 0 := by omega
  unfold stepJ
  rw [if_pos h, if_neg this, hL, hD, Int.toNat_natCast, Int.toNat_natCast]

theorem own_slice {w : World} {B e sz : Nat} {v : Value} {n : Nat} {xs : List Value} (h : w.ownsRow B e sz v n xs) : ∃ ao cap, v = .slice ao n cap ∧ (0 < n → ∃ g, ao = some ⟨g, 0, none⟩) := by
  rcases h.2 with ⟨rfl, hn⟩ | ⟨g, cap, cur, rfl, _⟩
  · exact ⟨none, 0, by rw [hn], fun h => by omega⟩
  · exact ⟨_, _, rfl, fun _ => ⟨g, rfl⟩⟩

theorem Tells.cells {w : World} {v : Value} {l : List St} (h : Tells w v l) : ∃ ao cap, v = .slice ao l.length cap ∧ (0 < l.length → ∃ g o, ao = some ⟨g, o, none⟩ ∧ ∀ k, k < l.length → w.cell? ⟨g, o + k * 3, none⟩ = some (.int .u8 ((nthS l k).b : Int)) ∧ w.cell? ⟨g, o + k * 3 + 1, none⟩ = some (.int .i64 (nthS l k).l) ∧ w.cell? ⟨g, o + k * 3 + 2, none⟩ = some (.int .i64 (nthS l k).d)) := by
  by_cases h0 : 0 < l.length
  · obtain ⟨g, o, cap, h1, h2⟩ := h.at h0
    exact ⟨_, _, h1, fun _ => ⟨g, o, rfl, h2⟩⟩
  · obtain ⟨ao, cap, h1⟩ := h.len
    exact ⟨ao, cap, h1, fun h => absurd h h0⟩

end Go.Proofs.YtdokpimhhkbdbaaDoor.Lz
