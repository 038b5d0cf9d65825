/-
  Slices of texts and of whole numbers that came in, opened; within the form's own reach.
-/
import Derived.Test.YtbjgldpnichoeaaDoorSa
import Derived.ProofKit
import Derived.OpenShut
import Derived.SizedLaws
import Derived.SliceStrings
set_option linter.unusedSimpArgs false
set_option linter.unusedVariables false
namespace Go.Proofs.YtbjgldpnichoeaaDoor
open Go.ChangeShapes Go.WideShapes Go.ChangeAt Go.RowKit

theorem cells9 : Tryd.prog.cellsOf 9 = 1 := by kernel_rfl
theorem bytes9 : Tryd.prog.bytesOf 9 = 16 := by kernel_rfl
theorem cells3 : Tryd.prog.cellsOf 3 = 1 := by kernel_rfl
theorem bytes3 : Tryd.prog.bytesOf 3 = 8 := by kernel_rfl

theorem strs_of {H : Type} {enc : TypeId × Value → H} {W : World} {d : DataW H} {ps : List MemPlace} {a : Option Addr} {len cap : Nat}
    (hd : DataW.Trod enc Tryd.prog W 0 (fun _ => true) true 30 (.slice a len cap) d ps) (hz : ∀ elems spare, d = .slice elems spare → (elems.length + spare.length) * Tryd.prog.bytesOf 9 ≤ reachBytes) :
    ∃ ss, LiesS W (.slice a len cap) ss ∧ ss.length ≤ 8796093022208 ∧ ∀ s ∈ ss, s.length ≤ maxLen := by
  obtain ⟨fuel, hf⟩ := hd
  rcases open_strings Tryd.underlying30 Tryd.underlying9 cells9 hf with ⟨hcs, _⟩ | ⟨ad, len', cap', ss, hcs, _, hl, hm, hlen, hx, hc, hws⟩
  · simp [Value.cells] at hcs
    obtain ⟨rfl, rfl, rfl⟩ := hcs
    exact ⟨[], ⟨none, 0, rfl, Nat.le_refl _, fun _ => rfl, fun a ha => by cases ha⟩, by simp, by simp⟩
  · simp [Value.cells] at hcs
    obtain ⟨rfl, rfl, rfl⟩ := hcs
    have hzl : ss.length = cap := by simpa using hlen
    have hd := congrArg Prod.fst hx
    have hz := hz _ _ hd
    rw [bytes9] at hz
    simp only [strs, List.length_map, List.length_take, List.length_drop, reachBytes] at hz
    have hl2 : ((ss.take len).map fun s => s.data.toList).length = len := by simp; omega
    refine ⟨(ss.take len).map fun s => s.data.toList, ⟨some ad, cap, by rw [hl2], by omega, fun h => (by cases h), fun a ha j u hu => ?_⟩, by omega, fun s hs => ?_⟩
    · cases ha
      have hj : j < len := by
        rcases Nat.lt_or_ge j len with h | h
        · exact h
        · rw [List.getElem?_eq_none (by simp; omega)] at hu; cases hu
      have hj2 : j < ss.length := by omega
      rw [hc j hj2]
      simp [hj2, hj, List.getElem?_take, encStr] at hu ⊢
      exact hu
    · obtain ⟨b, hb, rfl⟩ := List.mem_map.1 hs
      have := hws b (List.mem_of_mem_take hb)
      simpa using this

/-- A slice of whole numbers that can be read. -/
def Ints (w : World) (v : Value) (zs : List Int) : Prop :=
  ∃ ao cap, v = .slice ao zs.length cap ∧ zs.length ≤ cap ∧ (ao = none → cap = 0) ∧ ∀ a, ao = some a → ∀ j, j < zs.length → w.cell? (a.add j) = some (.int .i64 (zs.getD j 0))

theorem Ints.old {w w' : World} {v : Value} {zs : List Int} (h : Ints w v zs) (hb : Below w.heap.size w w') : Ints w' v zs := by
  obtain ⟨ao, cap, h1, h2, h3, h4⟩ := h
  exact ⟨ao, cap, h1, h2, h3, fun a ha j hj => cell_old hb (h4 a ha j hj)⟩

theorem ints_of8 {H : Type} {enc : TypeId × Value → H} {W : World} {d : DataW H} {ps : List MemPlace} {a : Option Addr} {len cap : Nat}
    (hd : DataW.Trod enc Tryd.prog W 0 (fun _ => true) true 38 (.slice a len cap) d ps) (hz : ∀ elems spare, d = .slice elems spare → (elems.length + spare.length) * Tryd.prog.bytesOf 3 ≤ reachBytes) :
    ∃ zs, Ints W (.slice a len cap) zs ∧ zs.length ≤ 17592186043904 := by
  obtain ⟨fuel, hf⟩ := hd
  rcases open_ints Tryd.underlying38 Tryd.underlying3 cells3 hf with ⟨hcs, _⟩ | ⟨ad, len', cap', zs, hcs, _, hl, hm, hlen, hx, hc, hwf⟩
  · simp [Value.cells] at hcs
    obtain ⟨rfl, rfl, rfl⟩ := hcs
    exact ⟨[], ⟨none, 0, rfl, Nat.le_refl _, fun _ => rfl, fun a ha => by cases ha⟩, by simp⟩
  · simp [Value.cells] at hcs
    obtain ⟨rfl, rfl, rfl⟩ := hcs
    have hzl : zs.length = cap := by simpa using hlen
    have hd := congrArg Prod.fst hx
    have hz := hz _ _ hd
    rw [bytes3] at hz
    simp only [lits, List.length_map, List.length_take, List.length_drop, reachBytes] at hz
    have hl2 : (zs.take len).length = len := by simp; omega
    refine ⟨zs.take len, ⟨some ad, cap, by rw [hl2], by omega, fun h => (by cases h), fun a ha j hj => ?_⟩, by omega⟩
    cases ha
    rw [hc j (by omega)]
    have : j < len := by omega
    simp [List.getElem?_take, this]

end Go.Proofs.YtbjgldpnichoeaaDoor
