/-
  Slices of whole numbers that came in: within the form's own reach, counted in numbers; rows of the call's own as such slices.
-/
import Derived.Test.YtdokpimhhkbdbaaDoorPu
set_option linter.unusedSimpArgs false
set_option linter.unusedVariables false
namespace Go.Proofs.YtdokpimhhkbdbaaDoor
open Go.ChangeShapes Go.WideShapes Go.ChangeAt Go.RowKit

theorem ints_of8 {H : Type} {enc : TypeId × Value → H} {W : World} {d : DataW H} {ps : List MemPlace} {a : Option Addr} {len cap : Nat}
    (hd : DataW.Trod enc Tryd.prog W 0 (fun _ => true) true 37 (.slice a len cap) d ps) (hz : ∀ elems spare, d = .slice elems spare → (elems.length + spare.length) * Tryd.prog.bytesOf 3 ≤ reachBytes) :
    ∃ zs, Ints W (.slice a len cap) zs ∧ zs.length ≤ 17592186043904 := by
  obtain ⟨fuel, hf⟩ := hd
  rcases open_ints Tryd.underlying38 Tryd.underlying3 cells3 hf with ⟨hcs, _⟩ | ⟨ad, len', cap', zs, hcs, _, hl, hm, hlen, hx, hc, hwf⟩
  · simp [Value.cells] at hcs
    obtain ⟨rfl, rfl, rfl⟩ := hcs
    exact ⟨[], ⟨none, 0, rfl, Nat.le_refl _, fun _ => rfl, fun a ha => by cases ha⟩, by simp⟩
  · simp [Value.cells] at hcs
    obtain ⟨rfl, rfl, rfl⟩ := hcs
    have hzl : zs.length = cap := by simpa using hlen
    have hd := congrArg Prod.fst hx
    have hz := hz _ _ hd
    rw [bytes3] at hz
    simp only [lits, List.length_map, List.length_take, List.length_drop, reachBytes] at hz
    have hl2 : (zs.take len).length = len := by simp; omega
    refine ⟨zs.take len, ⟨some ad, cap, by rw [hl2], by omega, fun h => (by cases h), fun a ha j hj => ?_⟩, by omega⟩
    cases ha
    rw [hc j (by omega)]
    have : j < len := by omega
    simp [List.getElem?_take, this]

theorem ints_own {w : World} {B : Nat} {v : Value} {n : Nat} {zs : List Int} (h : w.ownsRow B 3 1 v n (zs.map intV)) (hn : zs.length = n) : Ints w v zs := by
  subst hn
  have h0 := h
  rcases h.2 with ⟨rfl, hn⟩ | ⟨g, cap, cur, rfl, _, hg, hn, _⟩
  · exact ⟨none, 0, by rw [hn], by omega, fun _ => rfl, fun a ha => by cases ha⟩
  · refine ⟨_, cap, rfl, hn, fun h => (by cases h), fun a ha j hj => ?_⟩
    cases ha
    have hadd : (⟨g, 0, none⟩ : Addr).add j = ⟨g, j, none⟩ := by unfold Addr.add; split <;> simp_all
    rw [hadd, h0.cellAt j (by omega)]
    simp [hj, intV]

def castL (ls : List Nat) : List Int := ls.map (fun (n : Nat) => (n : Int))
theorem castL_length (ls : List Nat) : (castL ls).length = ls.length := by simp [castL]
theorem castL_map (ls : List Nat) : (castL ls).map intV = ls.map natV := by
  unfold castL
  rw [List.map_map]
  rfl
theorem castL_toNat (ls : List Nat) : (castL ls).map Int.toNat = ls := by
  unfold castL
  rw [List.map_map]
  have : (Int.toNat ∘ fun (n : Nat) => (n : Int)) = id := by funext n; simp
  rw [this, List.map_id]
theorem castL_may {ls : List Nat} (h : ∀ x ∈ ls, x ≤ 15) : May (castL ls) := by
  intro z hz
  obtain ⟨x, hx, rfl⟩ := List.mem_map.1 hz
  have := h x hx
  omega

theorem ints_nat {w : World} {B : Nat} {v : Value} {ls : List Nat} (h : w.ownsRow B 3 1 v ls.length (ls.map natV)) : Ints w v (castL ls) := by
  rw [← castL_map] at h
  exact ints_own h (castL_length ls)

theorem intV_set (zs : List Int) (r : Nat) (y : Int) : (zs.map intV).set r (.int .i64 y) = (zs.set r y).map intV := by
  rw [List.map_set]; rfl

theorem owns_cast {w : World} {B : Nat} {v : Value} {n m : Nat} {xs ys : List Value} (h : w.ownsRow B 3 1 v n xs) (hn : n = m) (hx : xs = ys) : w.ownsRow B 3 1 v m ys := by
  subst hn hx; exact h

end Go.Proofs.YtdokpimhhkbdbaaDoor
