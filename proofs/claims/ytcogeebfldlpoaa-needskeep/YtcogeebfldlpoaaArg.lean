/-
  Slices of whole numbers, and slices of such, that came in, opened.
-/
import Derived.Test.YtcogeebfldlpoaaSc
import Derived.ProofKit
import Derived.OpenShut
import Derived.SizedLaws
import Derived.Deep.Matrix
set_option linter.unusedSimpArgs false
set_option linter.unusedVariables false
namespace Go.Proofs.Ytcogeebfldlpoaa
open Go.ChangeShapes Go.WideShapes Go.ChangeAt Go.RowKit

theorem own : ownKnob Try.prog.godebug = none := by kernel_rfl
theorem laidOut : laidOutB Try.prog = true := by kernel_rfl
theorem cells3 : Try.prog.cellsOf 3 = 1 := by kernel_rfl
theorem cells37 : Try.prog.cellsOf 37 = 1 := by kernel_rfl

/-- A slice of whole numbers that can be read. -/
def Ints (w : World) (v : Value) (zs : List Int) : Prop :=
  ∃ ao cap, v = .slice ao zs.length cap ∧ zs.length ≤ cap ∧ cap ≤ maxLen ∧ (ao = none → cap = 0) ∧ ∀ a, ao = some a → ∀ j, j < zs.length → w.cell? (a.add j) = some (.int .i64 (zs.getD j 0))

theorem Ints.old {w w' : World} {v : Value} {zs : List Int} (h : Ints w v zs) (hb : Below w.heap.size w w') : Ints w' v zs := by
  obtain ⟨ao, cap, h1, h2, h3, h4, h5⟩ := h
  exact ⟨ao, cap, h1, h2, h3, h4, fun a ha j hj => cell_old hb (h5 a ha j hj)⟩

theorem Ints.form {w : World} {v : Value} {zs : List Int} (h : Ints w v zs) (hn : 0 < zs.length) : ∃ b off cap, v = .slice (some ⟨b, off, none⟩) zs.length cap ∧ ∀ k, k < zs.length → w.cell? ⟨b, off + k, none⟩ = some (.int .i64 (zs.getD k 0)) := by
  obtain ⟨ao, cap, h1, h2, _, h3, h4⟩ := h
  cases ao with
  | none => have := h3 rfl; omega
  | some a =>
    have e := spot_none (h4 a rfl 0 hn)
    have e2 : a.add 0 = a := rfl
    rw [e2] at e
    refine ⟨a.block, a.off, cap, by rw [h1]; congr 2, fun k hk => ?_⟩
    have := h4 a rfl k hk
    rw [e, add_none] at this
    exact this

theorem ints_of {H : Type} {enc : TypeId × Value → H} {W : World} {d : DataW H} {ps : List MemPlace} {a : Option Addr} {len cap : Nat}
    (hd : DataW.Trod enc Try.prog W 0 (fun _ => true) true 37 (.slice a len cap) d ps) : ∃ zs, Ints W (.slice a len cap) zs := by
  obtain ⟨fuel, hf⟩ := hd
  rcases open_ints Try.underlying37 Try.underlying3 cells3 hf with ⟨hcs, _⟩ | ⟨ad, len', cap', zs, hcs, _, hl, hm, hlen, hx, hc, hwf⟩
  · simp [Value.cells] at hcs
    obtain ⟨rfl, rfl, rfl⟩ := hcs
    exact ⟨[], ⟨none, 0, rfl, Nat.le_refl _, Nat.zero_le _, fun _ => rfl, fun a ha => by cases ha⟩⟩
  · simp [Value.cells] at hcs
    obtain ⟨rfl, rfl, rfl⟩ := hcs
    have hzl : zs.length = cap := by simpa using hlen
    have hl2 : (zs.take len).length = len := by simp; omega
    refine ⟨zs.take len, ⟨some ad, cap, by rw [hl2], by omega, hm, fun h => (by cases h), fun a ha j hj => ?_⟩⟩
    cases ha
    rw [hc j (by omega)]
    have : j < len := by omega
    simp [List.getElem?_take, this]

/-- A slice of slices of whole numbers that can be read. -/
def Rows2 (w : World) (v : Value) (n : Nat) : Prop :=
  ∃ ao cap, v = .slice ao n cap ∧ n ≤ cap ∧ cap ≤ maxLen ∧ (ao = none → cap = 0) ∧ ∀ a, ao = some a → ∀ r, r < n → a = ⟨a.block, a.off, none⟩ ∧ ∃ u zs, w.cell? ⟨a.block, a.off + r, none⟩ = some u ∧ Ints w u zs

theorem Rows2.old {w w' : World} {v : Value} {n : Nat} (h : Rows2 w v n) (hb : Below w.heap.size w w') : Rows2 w' v n := by
  obtain ⟨ao, cap, h1, h2, h3, h4, h5⟩ := h
  refine ⟨ao, cap, h1, h2, h3, h4, fun a ha r hr => ?_⟩
  obtain ⟨e, u, zs, k1, k2⟩ := h5 a ha r hr
  exact ⟨e, u, zs, cell_old hb k1, k2.old hb⟩

theorem Rows2.at {w : World} {v : Value} {n r : Nat} (h : Rows2 w v n) (hr : r < n) : ∃ b o cap u zs, v = .slice (some ⟨b, o, none⟩) n cap ∧ w.cell? ⟨b, o + r, none⟩ = some u ∧ Ints w u zs := by
  obtain ⟨ao, cap, h1, h2, h3, h4, h5⟩ := h
  cases ao with
  | none => have := h4 rfl; omega
  | some a =>
    obtain ⟨e, u, zs, k1, k2⟩ := h5 a rfl r hr
    exact ⟨a.block, a.off, cap, u, zs, by rw [h1]; congr 2, k1, k2⟩

theorem rows_of {H : Type} {enc : TypeId × Value → H} {W : World} {d : DataW H} {ps : List MemPlace} {a : Option Addr} {len cap : Nat}
    (hd : DataW.Trod enc Try.prog W 0 (fun _ => true) true 36 (.slice a len cap) d ps) : Rows2 W (.slice a len cap) len := by
  obtain ⟨fuel, hf⟩ := hd
  rcases Go.Deep.open_int_rows Try.underlying36 Try.underlying37 Try.underlying3 cells37 cells3 hf with ⟨hcs, _⟩ | ⟨ad, len', cap', A, L, C, Z, hcs, _, hl, hm, _, hc⟩
  · simp [Value.cells] at hcs
    obtain ⟨rfl, rfl, rfl⟩ := hcs
    exact ⟨none, 0, rfl, Nat.le_refl _, Nat.zero_le _, fun _ => rfl, fun a ha => by cases ha⟩
  · simp [Value.cells] at hcs
    obtain ⟨rfl, rfl, rfl⟩ := hcs
    refine ⟨some ad, cap, rfl, hl, hm, fun h => (by cases h), fun a ha r hr => ?_⟩
    cases ha
    obtain ⟨k1, k2, k3, k4, k5, k6, k7⟩ := hc r (by omega)
    have e : ad = ⟨ad.block, ad.off, none⟩ := by
      obtain ⟨j1, _⟩ := hc 0 (by omega)
      have e2 : ad.add 0 = ad := rfl
      rw [e2] at j1
      exact spot_none j1
    rw [e, add_none] at k1
    refine ⟨e, _, (Z r).take (L r), k1, ?_⟩
    have hl2 : ((Z r).take (L r)).length = L r := by simp; omega
    refine ⟨A r, C r, by rw [hl2], by omega, k3, k6, fun a' ha' j hj => ?_⟩
    rw [(k7 a' ha').2 j (by omega)]
    have : j < L r := by omega
    simp [List.getElem?_take, this]
end Go.Proofs.Ytcogeebfldlpoaa
