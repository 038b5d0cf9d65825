/-
  NeedsRound walked.
-/
import Derived.Test.YtcogeebfldlpoaaBa
import Derived.Test.YtcogeebfldlpoaaFc
set_option linter.unusedSimpArgs false
set_option linter.unusedVariables false
namespace Go.Proofs.Ytcogeebfldlpoaa
open Go.RowKit
open Go.Proofs.NeedsPlain (Hd names getD_set ordM IsAll isTop)

def nsL : List Txt := [[99], [97], [102], [98], [101], [100], [103]]
def rndK (n i : Nat) : List Hd := ([107], []) :: (List.range i).map fun j => (nsL.getD j [], [nsL.getD ((j + 1) % n) []])

theorem rndK_len (n i : Nat) : (rndK n i).length = i + 1 := by simp [rndK]
theorem rndK_snoc (n i : Nat) : rndK n (i + 1) = rndK n i ++ [(nsL.getD i [], [nsL.getD ((i + 1) % n) []])] := by
  simp [rndK, List.range_succ]

theorem rnd_ord (k : Nat) (hk : k < 7) : ordM (rndK (k + 1) (k + 1)) = none := by
  rcases (show k = 0 ∨ k = 1 ∨ k = 2 ∨ k = 3 ∨ k = 4 ∨ k = 5 ∨ k = 6 by omega) with rfl | rfl | rfl | rfl | rfl | rfl | rfl <;> rfl

theorem nsL_len (j : Nat) : (nsL.getD j []).length ≤ 1000 := by
  by_cases h : j < 7
  · rcases (show j = 0 ∨ j = 1 ∨ j = 2 ∨ j = 3 ∨ j = 4 ∨ j = 5 ∨ j = 6 by omega) with rfl | rfl | rfl | rfl | rfl | rfl | rfl <;> decide
  · have : nsL.getD j [] = [] := by
      rw [List.getD_eq_getElem?_getD, List.getElem?_eq_none (by show 7 ≤ j; omega)]; rfl
    rw [this]; decide

theorem rnd_small (n i : Nat) (hi : i ≤ 7) : SmallH (rndK n i) := by
  refine ⟨by rw [rndK_len]; omega, fun h hh => ?_, fun h hh => ?_, fun h hh x hx => ?_⟩
  all_goals
    unfold rndK at hh
    rcases List.mem_cons.1 hh with rfl | hh
    · first | decide | simp | (exfalso; revert hx; simp)
    · obtain ⟨j, _, rfl⟩ := List.mem_map.1 hh
      first
        | exact nsL_len _
        | exact Nat.le_of_ble_eq_true rfl
        | (simp only [List.mem_singleton] at hx; subst hx; exact nsL_len _)

theorem order_none {W : World} {v : Value} {hs : List Hd} (h : LiesH W v hs) (hm : SmallH hs) (ho : ordM hs = none) : Hid (∀ w', Old W w' → Calls Try.prog 10 #[v] w' fun e w'' => e = .returned (.tuple #[.slice none 0 0, .bool false]) ∧ Old w' w'') := fun w' hw =>
  (order_walk w' v hs (h.old hw) hm).mono fun e w'' ⟨h1, h2⟩ => by
    rcases h1 with ⟨u, o', e1, rfl, l⟩ | ⟨e1, e2⟩
    · rw [ho] at e1; cases e1
    · exact ⟨e2, h2⟩

theorem bag_single (B : Nat) (w : World) (hB : B ≤ w.heap.size) (nm : ByteArray) (tg : Bool) : HBag B (w.alloc (.cells #[.string nm, .bool tg, .slice none 0 0] 24)) (.slice (some ⟨w.heap.size, 0, none⟩) 1 1) [(nm.data.toList, [])] [.string nm, .bool tg, .slice none 0 0] := by
  refine ⟨?_, fun k hk => ?_⟩
  · exact World.ownsRow_lit (base := B) (e := 24) (size := 3) w #[.string nm, .bool tg, .slice none 0 0] 1 hB (by unfold maxLen; omega) rfl
  · obtain rfl : k = 0 := by simpa using hk
    exact ⟨tg, _, rfl, rfl, rfl, lies_nil _, apt_nil _ _⟩

theorem HRow.take {w : World} {b o : Nat} {hs : List Hd} (h : HRow w b o hs) (n : Nat) : HRow w b o (hs.take n) := by
  refine ⟨fun k hk => ?_, fun j hj => ?_⟩
  · have hk2 : k < n ∧ k < hs.length := by
      rw [List.length_take] at hk; omega
    have e : (hs.take n).getD k hd0 = hs.getD k hd0 := by simp [List.getElem?_take, hk2.1]
    rw [e]
    exact h.at' k hk2.2
  · have : (hs.take n).length ≤ hs.length := by simp; omega
    exact h.th j (by omega)

end Go.Proofs.Ytcogeebfldlpoaa
