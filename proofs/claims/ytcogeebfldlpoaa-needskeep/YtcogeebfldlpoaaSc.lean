/-
  In, Same of texts, Text, Less walked.
-/
import Derived.Test.YtcogeebfldlpoaaSa
set_option linter.unusedSimpArgs false
set_option linter.unusedVariables false
namespace Go.Proofs.Ytcogeebfldlpoaa
open Go.RowKit

theorem spot_none {w : World} {a : Addr} {u : Value} (h : w.cell? a = some u) : a = ⟨a.block, a.off, none⟩ := by
  obtain ⟨b, o, s⟩ := a
  cases s with
  | none => rfl
  | some s =>
    exfalso
    unfold World.cell? at h
    split at h <;> simp_all

theorem add_none (b o k : Nat) : (⟨b, o, none⟩ : Addr).add k = ⟨b, o + k, none⟩ := by unfold Addr.add; split <;> simp_all

theorem LiesS.form {w : World} {v : Value} {ss : List (List UInt8)} (h : LiesS w v ss) (hn : 0 < ss.length) : ∃ b off cap, v = .slice (some ⟨b, off, none⟩) ss.length cap ∧ ss.length ≤ cap ∧ ∀ k, k < ss.length → w.cell? ⟨b, off + k, none⟩ = some (encStr (ss.getD k [])) := by
  obtain ⟨a, cap, h1, h2, h3⟩ := h.at hn
  have e := spot_none (h3 0 hn)
  have e2 : a.add 0 = a := rfl
  rw [e2] at e
  refine ⟨a.block, a.off, cap, by rw [h1]; congr 2, h2, fun k hk => ?_⟩
  have := h3 k hk
  rw [e, add_none] at this
  exact this

theorem list_ne {p q : ByteArray} (h : p ≠ q) : ¬ p.toList = q.toList := fun e => h (by
  rw [ByteArray.toList_eq, ByteArray.toList_eq] at e
  exact ByteArray.ext (Array.toList_inj.1 e))

end Go.Proofs.Ytcogeebfldlpoaa
