/-
  Slices of steps that can be read ('Tells'); Same of steps.
-/
import Derived.Test.YtdokpimhhkbdbaaDoorZSd
set_option linter.unusedSimpArgs false
set_option linter.unusedVariables false
namespace Go.Proofs.YtdokpimhhkbdbaaDoor.Lz
open Go.RowKit

/-- The slice v reads as the steps l. -/
def Tells (w : World) (v : Value) (l : List St) : Prop :=
  (v = .slice none 0 0 ∧ l.length = 0) ∨ ∃ g o cap, v = .slice (some ⟨g, o, none⟩) l.length cap ∧ ∀ j u, (cellsL l)[j]? = some u → w.cell? ⟨g, o + j, none⟩ = some u

theorem Tells.old {w w' : World} {v : Value} {l : List St} (h : Tells w v l) (hb : Below w.heap.size w w') : Tells w' v l := by
  rcases h with h | ⟨g, o, cap, h1, h3⟩
  · exact .inl h
  · exact .inr ⟨g, o, cap, h1, fun j u hu => cell_old hb (h3 j u hu)⟩

theorem tells_own {w : World} {B T : Nat} {v : Value} {l : List St} (h : Steps B T w v l) : Tells w v l := by
  have h0 := h
  rcases h.2 with ⟨rfl, hn⟩ | ⟨g, cap, cur, rfl, _, hg, hn, _⟩
  · exact .inl ⟨rfl, hn⟩
  · refine .inr ⟨g, 0, cap, rfl, fun j u hu => ?_⟩
    have := h0.cells (g := g) rfl j u hu
    rw [Addr.add_mid] at this
    exact this

def nthS (l : List St) (k : Nat) : St := l.getD k ⟨0, 0, 0⟩

theorem Tells.at {w : World} {v : Value} {l : List St} (h : Tells w v l) (hn : 0 < l.length) : ∃ g o cap, v = .slice (some ⟨g, o, none⟩) l.length cap ∧ ∀ k, k < l.length → w.cell? ⟨g, o + k * 3, none⟩ = some (.int .u8 ((nthS l k).b : Int)) ∧ w.cell? ⟨g, o + k * 3 + 1, none⟩ = some (.int .i64 (nthS l k).l) ∧ w.cell? ⟨g, o + k * 3 + 2, none⟩ = some (.int .i64 (nthS l k).d) := by
  rcases h with ⟨_, h⟩ | ⟨g, o, cap, h1, h3⟩
  · omega
  · refine ⟨g, o, cap, h1, fun k hk => ⟨?_, ?_, ?_⟩⟩
    · have := h3 (3 * k) _ ((cellsL_at l k 0 hk (by omega)).trans rfl)
      rw [Nat.mul_comm] at this; exact this
    · have := h3 (3 * k + 1) _ ((cellsL_at l k 1 hk (by omega)).trans rfl)
      rw [Nat.mul_comm, ← Nat.add_assoc] at this; exact this
    · have := h3 (3 * k + 2) _ ((cellsL_at l k 2 hk (by omega)).trans rfl)
      rw [Nat.mul_comm, ← Nat.add_assoc] at this; exact this

theorem Tells.len {w : World} {v : Value} {l : List St} (h : Tells w v l) : ∃ ao cap, v = .slice ao l.length cap := by
  rcases h with ⟨h, h'⟩ | ⟨g, o, cap, h1, _⟩
  · exact ⟨none, 0, by rw [h, h']⟩
  · exact ⟨_, _, h1⟩

end Go.Proofs.YtdokpimhhkbdbaaDoor.Lz
