/-
  PatchErrors: each of its 24 patches may not be.
-/
import Derived.Test.YtfkfaaifchafjaaDoorEd
set_option linter.unusedSimpArgs false
set_option linter.unusedVariables false
namespace Go.Proofs.YtfkfaaifchafjaaDoor
open Go.RowKit

theorem gcell {w : World} {g T : Nat} {cs : Array Value} (h : w.heap[g]? = some (.cells cs T (0, 0))) (o : Nat) (v : Value) (hv : cs[o]? = some v) : w.cell? ⟨g, o, none⟩ = some v := by simp [World.cell?, h, hv]

def ch8 (nn : Nat) : List Chg := [(5 + (nn : Int), zid, zid, [120]), (4, (xB, 1), zid, tOne), (4, (xB, 1), (xB, 2), [116, 119, 111]), (5, (xB, 1), (xB, 3), []), (2, (xA, 4), zid, [121]), (4, (xA, 4), (xC, 7), []), (3, (xC, 1), zid, [])]
def ch19 (nn : Nat) : List Chg := [(1, zid, zid, [120]), (4, (xB, 1), zid, tOne), (4, (xB, 1), (xB, 2), [116, 119, 111]), (5, (xB, 1), (xB, 3), []), (2, (xA, 4), zid, [121]), (4, (xA, 4), (xC, 40 + (nn : Int)), []), (3, (xC, 1), zid, [])]
theorem bad8 (nn : Nat) (h1 : 1 ≤ nn) (h2 : nn ≤ 50) : checkM (xB, false, plN, ch8 nn) = false ∧ smallB (xB, false, plN, ch8 nn) = true := by
  have h : ∀ k : Fin 51, 1 ≤ k.val → checkM (xB, false, plN, ch8 k.val) = false ∧ smallB (xB, false, plN, ch8 k.val) = true := by decide +kernel
  exact h ⟨nn, by omega⟩ h1
theorem bad19 (nn : Nat) (h1 : 1 ≤ nn) (h2 : nn ≤ 50) : checkM (xB, false, plN, ch19 nn) = false ∧ smallB (xB, false, plN, ch19 nn) = true := by
  have h : ∀ k : Fin 51, 1 ≤ k.val → checkM (xB, false, plN, ch19 k.val) = false ∧ smallB (xB, false, plN, ch19 k.val) = true := by decide +kernel
  exact h ⟨nn, by omega⟩ h1

theorem et0 {w W : World} {a g1 g2 : Nat} (h : ES w W a g1 g2) : ET w (W.setCell ⟨a, 0, none⟩ (.string ⟨#[]⟩)) a :=
  et_p h 0 _ ⟨#[]⟩ false rfl (by decide +kernel) (by decide +kernel)
theorem et1 {w W : World} {a g1 g2 : Nat} (h : ES w W a g1 g2) : ET w (W.setCell ⟨a, 0, none⟩ (.string ⟨#[97]⟩)) a :=
  et_p h 0 _ ⟨#[97]⟩ false rfl (by decide +kernel) (by decide +kernel)
theorem et2 {w W : World} {a g1 g2 : Nat} (h : ES w W a g1 g2) : ET w ((W.alloc (.cells #[.string ⟨#[99]⟩, .string ⟨#[97]⟩] 9)).setCell ⟨a, 2, none⟩ (.slice (some ⟨W.heap.size, 0, none⟩) 2 2)) a :=
  et_n h [xC, xA] 2 rfl _ rfl (by decide +kernel) (by decide +kernel)
theorem et3 {w W : World} {a g1 g2 : Nat} (h : ES w W a g1 g2) : ET w ((W.alloc (.cells #[.string ⟨#[97]⟩, .string ⟨#[97]⟩, .string ⟨#[99]⟩] 9)).setCell ⟨a, 2, none⟩ (.slice (some ⟨W.heap.size, 0, none⟩) 3 3)) a :=
  et_n h [xA, xA, xC] 3 rfl _ rfl (by decide +kernel) (by decide +kernel)
theorem et4 {w W : World} {a g1 g2 : Nat} (h : ES w W a g1 g2) : ET w ((W.alloc (.cells #[.string ⟨#[97]⟩] 9)).setCell ⟨a, 2, none⟩ (.slice (some ⟨W.heap.size, 0, none⟩) 1 1)) a :=
  et_n h [xA] 1 rfl _ rfl (by decide +kernel) (by decide +kernel)
theorem et5 {w W : World} {a g1 g2 : Nat} (h : ES w W a g1 g2) : ET w (W.setCell ⟨a, 1, none⟩ (.bool true)) a :=
  et_p h 1 _ ⟨#[98]⟩ true rfl (by decide +kernel) (by decide +kernel)
theorem et6 {w W : World} {a g1 g2 : Nat} (h : ES w W a g1 g2) : ET w (W.setCell ⟨a, 3, none⟩ (.slice none 0 0)) a := et_0 h
theorem et8 {w W : World} {a g1 g2 : Nat} (h : ES w W a g1 g2) (nn : Nat) (h1 : 1 ≤ nn) (h2 : nn ≤ 50) : ET w (W.setCell ⟨g2, 0, none⟩ (.int .i64 (5 + (nn : Int)))) a :=
  et_c h 0 _ (ch8 nn) rfl rfl (bad8 nn h1 h2).1 (bad8 nn h1 h2).2
theorem gc8_0 {w W : World} {a g1 g2 : Nat} (h : ES w W a g1 g2) : W.cell? ⟨g2, 0, none⟩ = some (.int .i64 1) := gcell h.p2 0 _ rfl
theorem et9 {w W : World} {a g1 g2 : Nat} (h : ES w W a g1 g2) : ET w (W.setCell ⟨g2, 5, none⟩ (.string ⟨#[88]⟩)) a :=
  et_c h 5 _ ([(1, zid, zid, [88]), (4, (xB, 1), zid, tOne), (4, (xB, 1), (xB, 2), [116, 119, 111]), (5, (xB, 1), (xB, 3), []), (2, (xA, 4), zid, [121]), (4, (xA, 4), (xC, 7), []), (3, (xC, 1), zid, [])]) rfl rfl (by decide +kernel) (by decide +kernel)
theorem gc9_0 {w W : World} {a g1 g2 : Nat} (h : ES w W a g1 g2) : W.cell? ⟨g2, 5, none⟩ = some (.string ⟨#[120]⟩) := gcell h.p2 5 _ rfl
theorem et10 {w W : World} {a g1 g2 : Nat} (h : ES w W a g1 g2) : ET w ((W.setCell ⟨g2, 1, none⟩ (.string ⟨#[97]⟩)).setCell ⟨g2, 2, none⟩ (.int .i64 1)) a :=
  et_c2 h 1 2 _ _ ([(1, (xA, 1), zid, [120]), (4, (xB, 1), zid, tOne), (4, (xB, 1), (xB, 2), [116, 119, 111]), (5, (xB, 1), (xB, 3), []), (2, (xA, 4), zid, [121]), (4, (xA, 4), (xC, 7), []), (3, (xC, 1), zid, [])]) rfl rfl (by decide +kernel) (by decide +kernel)
theorem gc10_0 {w W : World} {a g1 g2 : Nat} (h : ES w W a g1 g2) : W.cell? ⟨g2, 1, none⟩ = some (.string ⟨#[]⟩) := gcell h.p2 1 _ rfl
theorem gc10_1 {w W : World} {a g1 g2 : Nat} (h : ES w W a g1 g2) : W.cell? ⟨g2, 2, none⟩ = some (.int .i64 0) := gcell h.p2 2 _ rfl
theorem et11 {w W : World} {a g1 g2 : Nat} (h : ES w W a g1 g2) : ET w ((W.setCell ⟨g2, 7, none⟩ (.string ⟨#[]⟩)).setCell ⟨g2, 8, none⟩ (.int .i64 0)) a :=
  et_c2 h 7 8 _ _ ([(1, zid, zid, [120]), (4, zid, zid, tOne), (4, (xB, 1), (xB, 2), [116, 119, 111]), (5, (xB, 1), (xB, 3), []), (2, (xA, 4), zid, [121]), (4, (xA, 4), (xC, 7), []), (3, (xC, 1), zid, [])]) rfl rfl (by decide +kernel) (by decide +kernel)
theorem gc11_0 {w W : World} {a g1 g2 : Nat} (h : ES w W a g1 g2) : W.cell? ⟨g2, 7, none⟩ = some (.string ⟨#[98]⟩) := gcell h.p2 7 _ rfl
theorem gc11_1 {w W : World} {a g1 g2 : Nat} (h : ES w W a g1 g2) : W.cell? ⟨g2, 8, none⟩ = some (.int .i64 1) := gcell h.p2 8 _ rfl
theorem et12 {w W : World} {a g1 g2 : Nat} (h : ES w W a g1 g2) : ET w (W.setCell ⟨g2, 8, none⟩ (.int .i64 2)) a :=
  et_c h 8 _ ([(1, zid, zid, [120]), (4, (xB, 2), zid, tOne), (4, (xB, 1), (xB, 2), [116, 119, 111]), (5, (xB, 1), (xB, 3), []), (2, (xA, 4), zid, [121]), (4, (xA, 4), (xC, 7), []), (3, (xC, 1), zid, [])]) rfl rfl (by decide +kernel) (by decide +kernel)
theorem gc12_0 {w W : World} {a g1 g2 : Nat} (h : ES w W a g1 g2) : W.cell? ⟨g2, 8, none⟩ = some (.int .i64 1) := gcell h.p2 8 _ rfl
theorem et13 {w W : World} {a g1 g2 : Nat} (h : ES w W a g1 g2) : ET w (W.setCell ⟨g2, 16, none⟩ (.int .i64 3)) a :=
  et_c h 16 _ ([(1, zid, zid, [120]), (4, (xB, 1), zid, tOne), (4, (xB, 1), (xB, 3), [116, 119, 111]), (5, (xB, 1), (xB, 3), []), (2, (xA, 4), zid, [121]), (4, (xA, 4), (xC, 7), []), (3, (xC, 1), zid, [])]) rfl rfl (by decide +kernel) (by decide +kernel)
theorem gc13_0 {w W : World} {a g1 g2 : Nat} (h : ES w W a g1 g2) : W.cell? ⟨g2, 16, none⟩ = some (.int .i64 2) := gcell h.p2 16 _ rfl
theorem et14 {w W : World} {a g1 g2 : Nat} (h : ES w W a g1 g2) : ET w (W.setCell ⟨g2, 16, none⟩ (.int .i64 1)) a :=
  et_c h 16 _ ([(1, zid, zid, [120]), (4, (xB, 1), zid, tOne), (4, (xB, 1), (xB, 1), [116, 119, 111]), (5, (xB, 1), (xB, 3), []), (2, (xA, 4), zid, [121]), (4, (xA, 4), (xC, 7), []), (3, (xC, 1), zid, [])]) rfl rfl (by decide +kernel) (by decide +kernel)
theorem gc14_0 {w W : World} {a g1 g2 : Nat} (h : ES w W a g1 g2) : W.cell? ⟨g2, 16, none⟩ = some (.int .i64 2) := gcell h.p2 16 _ rfl
theorem et15 {w W : World} {a g1 g2 : Nat} (h : ES w W a g1 g2) : ET w ((W.setCell ⟨g2, 21, none⟩ (.string ⟨#[]⟩)).setCell ⟨g2, 22, none⟩ (.int .i64 0)) a :=
  et_c2 h 21 22 _ _ ([(1, zid, zid, [120]), (4, (xB, 1), zid, tOne), (4, (xB, 1), (xB, 2), [116, 119, 111]), (5, (xB, 1), zid, []), (2, (xA, 4), zid, [121]), (4, (xA, 4), (xC, 7), []), (3, (xC, 1), zid, [])]) rfl rfl (by decide +kernel) (by decide +kernel)
theorem gc15_0 {w W : World} {a g1 g2 : Nat} (h : ES w W a g1 g2) : W.cell? ⟨g2, 21, none⟩ = some (.string ⟨#[98]⟩) := gcell h.p2 21 _ rfl
theorem gc15_1 {w W : World} {a g1 g2 : Nat} (h : ES w W a g1 g2) : W.cell? ⟨g2, 22, none⟩ = some (.int .i64 3) := gcell h.p2 22 _ rfl
theorem et16 {w W : World} {a g1 g2 : Nat} (h : ES w W a g1 g2) : ET w (W.setCell ⟨g2, 23, none⟩ (.string ⟨#[120]⟩)) a :=
  et_c h 23 _ ([(1, zid, zid, [120]), (4, (xB, 1), zid, tOne), (4, (xB, 1), (xB, 2), [116, 119, 111]), (5, (xB, 1), (xB, 3), [120]), (2, (xA, 4), zid, [121]), (4, (xA, 4), (xC, 7), []), (3, (xC, 1), zid, [])]) rfl rfl (by decide +kernel) (by decide +kernel)
theorem gc16_0 {w W : World} {a g1 g2 : Nat} (h : ES w W a g1 g2) : W.cell? ⟨g2, 23, none⟩ = some (.string ⟨#[]⟩) := gcell h.p2 23 _ rfl
theorem et17 {w W : World} {a g1 g2 : Nat} (h : ES w W a g1 g2) : ET w (W.setCell ⟨g2, 29, none⟩ (.string ⟨#[]⟩)) a :=
  et_c h 29 _ ([(1, zid, zid, [120]), (4, (xB, 1), zid, tOne), (4, (xB, 1), (xB, 2), [116, 119, 111]), (5, (xB, 1), (xB, 3), []), (2, (xA, 4), zid, []), (4, (xA, 4), (xC, 7), []), (3, (xC, 1), zid, [])]) rfl rfl (by decide +kernel) (by decide +kernel)
theorem gc17_0 {w W : World} {a g1 g2 : Nat} (h : ES w W a g1 g2) : W.cell? ⟨g2, 29, none⟩ = some (.string ⟨#[121]⟩) := gcell h.p2 29 _ rfl
theorem et18 {w W : World} {a g1 g2 : Nat} (h : ES w W a g1 g2) : ET w ((W.setCell ⟨g2, 27, none⟩ (.string ⟨#[97]⟩)).setCell ⟨g2, 28, none⟩ (.int .i64 1)) a :=
  et_c2 h 27 28 _ _ ([(1, zid, zid, [120]), (4, (xB, 1), zid, tOne), (4, (xB, 1), (xB, 2), [116, 119, 111]), (5, (xB, 1), (xB, 3), []), (2, (xA, 4), (xA, 1), [121]), (4, (xA, 4), (xC, 7), []), (3, (xC, 1), zid, [])]) rfl rfl (by decide +kernel) (by decide +kernel)
theorem gc18_0 {w W : World} {a g1 g2 : Nat} (h : ES w W a g1 g2) : W.cell? ⟨g2, 27, none⟩ = some (.string ⟨#[]⟩) := gcell h.p2 27 _ rfl
theorem gc18_1 {w W : World} {a g1 g2 : Nat} (h : ES w W a g1 g2) : W.cell? ⟨g2, 28, none⟩ = some (.int .i64 0) := gcell h.p2 28 _ rfl
theorem et19 {w W : World} {a g1 g2 : Nat} (h : ES w W a g1 g2) (nn : Nat) (h1 : 1 ≤ nn) (h2 : nn ≤ 50) : ET w (W.setCell ⟨g2, 34, none⟩ (.int .i64 (40 + (nn : Int)))) a :=
  et_c h 34 _ (ch19 nn) rfl rfl (bad19 nn h1 h2).1 (bad19 nn h1 h2).2
theorem gc19_0 {w W : World} {a g1 g2 : Nat} (h : ES w W a g1 g2) : W.cell? ⟨g2, 34, none⟩ = some (.int .i64 7) := gcell h.p2 34 _ rfl
theorem et20 {w W : World} {a g1 g2 : Nat} (h : ES w W a g1 g2) : ET w (W.setCell ⟨g2, 33, none⟩ (.string ⟨#[100]⟩)) a :=
  et_c h 33 _ ([(1, zid, zid, [120]), (4, (xB, 1), zid, tOne), (4, (xB, 1), (xB, 2), [116, 119, 111]), (5, (xB, 1), (xB, 3), []), (2, (xA, 4), zid, [121]), (4, (xA, 4), ([100], 7), []), (3, (xC, 1), zid, [])]) rfl rfl (by decide +kernel) (by decide +kernel)
theorem gc20_0 {w W : World} {a g1 g2 : Nat} (h : ES w W a g1 g2) : W.cell? ⟨g2, 33, none⟩ = some (.string ⟨#[99]⟩) := gcell h.p2 33 _ rfl
theorem et21 {w W : World} {a g1 g2 : Nat} (h : ES w W a g1 g2) : ET w (W.setCell ⟨g2, 38, none⟩ (.int .i64 0)) a :=
  et_c h 38 _ ([(1, zid, zid, [120]), (4, (xB, 1), zid, tOne), (4, (xB, 1), (xB, 2), [116, 119, 111]), (5, (xB, 1), (xB, 3), []), (2, (xA, 4), zid, [121]), (4, (xA, 4), (xC, 7), []), (3, (xC, 0), zid, [])]) rfl rfl (by decide +kernel) (by decide +kernel)
theorem gc21_0 {w W : World} {a g1 g2 : Nat} (h : ES w W a g1 g2) : W.cell? ⟨g2, 38, none⟩ = some (.int .i64 1) := gcell h.p2 38 _ rfl
theorem et22 {w W : World} {a g1 g2 : Nat} (h : ES w W a g1 g2) : ET w (W.setCell ⟨g2, 11, none⟩ (.string ⟨#[97, 10, 98]⟩)) a :=
  et_c h 11 _ ([(1, zid, zid, [120]), (4, (xB, 1), zid, [97, 10, 98]), (4, (xB, 1), (xB, 2), [116, 119, 111]), (5, (xB, 1), (xB, 3), []), (2, (xA, 4), zid, [121]), (4, (xA, 4), (xC, 7), []), (3, (xC, 1), zid, [])]) rfl rfl (by decide +kernel) (by decide +kernel)
theorem gc22_0 {w W : World} {a g1 g2 : Nat} (h : ES w W a g1 g2) : W.cell? ⟨g2, 11, none⟩ = some (.string ⟨#[111, 110, 101]⟩) := gcell h.p2 11 _ rfl
theorem et23 {w W : World} {a g1 g2 : Nat} (h : ES w W a g1 g2) : ET w ((W.setCell ⟨g2, 19, none⟩ (.string ⟨#[97]⟩)).setCell ⟨g2, 20, none⟩ (.int .i64 4)) a :=
  et_c2 h 19 20 _ _ ([(1, zid, zid, [120]), (4, (xB, 1), zid, tOne), (4, (xB, 1), (xB, 2), [116, 119, 111]), (5, (xA, 4), (xB, 3), []), (2, (xA, 4), zid, [121]), (4, (xA, 4), (xC, 7), []), (3, (xC, 1), zid, [])]) rfl rfl (by decide +kernel) (by decide +kernel)
theorem gc23_0 {w W : World} {a g1 g2 : Nat} (h : ES w W a g1 g2) : W.cell? ⟨g2, 19, none⟩ = some (.string ⟨#[98]⟩) := gcell h.p2 19 _ rfl
theorem gc23_1 {w W : World} {a g1 g2 : Nat} (h : ES w W a g1 g2) : W.cell? ⟨g2, 20, none⟩ = some (.int .i64 1) := gcell h.p2 20 _ rfl
end Go.Proofs.YtfkfaaifchafjaaDoor
