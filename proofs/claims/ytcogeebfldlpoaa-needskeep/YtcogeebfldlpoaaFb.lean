/-
  What NeedsForms asks of its heads, in plain lists.
-/
import Derived.Test.YtcogeebfldlpoaaFa
set_option linter.unusedSimpArgs false
set_option linter.unusedVariables false
namespace Go.Proofs.Ytcogeebfldlpoaa
open Go.RowKit
open Go.Proofs.NeedsPlain (Hd names getD_set ordM IsAll isTop)

def formH : List Hd := [([100], [[98], [99]]), ([99], [[97]]), ([98], [[97]]), ([97], []), ([122], []), ([101], [[122]])]

/-! what holds of two lists with the same heads -/
theorem names_congr {l l2 : List Hd} (h : ∀ x, x ∈ l ↔ x ∈ l2) (x : Txt) : x ∈ names l ↔ x ∈ names l2 := by
  unfold names
  rw [List.mem_map, List.mem_map]
  exact ⟨fun ⟨y, h1, h2⟩ => ⟨y, (h y).1 h1, h2⟩, fun ⟨y, h1, h2⟩ => ⟨y, (h y).2 h1, h2⟩⟩

theorem reach_congr {l l2 : List Hd} (h : ∀ x, x ∈ l ↔ x ∈ l2) {a x : Txt} (hr : NeedsPlain.Reach l a x) : NeedsPlain.Reach l2 a x := by
  induction hr using NeedsPlain.Reach.ind with
  | one hm he hx hn => exact .one ((h _).1 hm) he hx ((names_congr h _).1 hn)
  | more _ hm hx hn ih => exact .more ih ((h _).1 hm) hx ((names_congr h _).1 hn)

theorem isAll_congr {l l2 : List Hd} (h : ∀ x, x ∈ l ↔ x ∈ l2) {a : Txt} {out : List Txt} (ha : IsAll l a out) : IsAll l2 a out :=
  ⟨ha.1, fun x => (ha.2 x).trans ⟨fun k => ⟨reach_congr h k.1, k.2⟩, fun k => ⟨reach_congr (fun x => (h x).symm) k.1, k.2⟩⟩⟩

theorem isTop_congr {l l2 : List Hd} (h : ∀ x, x ∈ l ↔ x ∈ l2) (x : Txt) : isTop l x ↔ isTop l2 x :=
  ⟨fun ⟨a, b⟩ => ⟨(names_congr h x).1 a, fun g hg => b g ((h g).2 hg)⟩, fun ⟨a, b⟩ => ⟨(names_congr h x).2 a, fun g hg => b g ((h g).1 hg)⟩⟩

theorem apart_congr {l l2 : List Hd} (h : ∀ x, x ∈ l ↔ x ∈ l2) (a b : Txt) : ApartP l a b ↔ ApartP l2 a b := by
  have h' : ∀ x, x ∈ l2 ↔ x ∈ l := fun x => (h x).symm
  constructor
  · rintro ⟨h1, h2, h3, h4, h5⟩
    exact ⟨(names_congr h _).1 h1, (names_congr h _).1 h2, h3, fun k => h4 (reach_congr h' k), fun k => h5 (reach_congr h' k)⟩
  · rintro ⟨h1, h2, h3, h4, h5⟩
    exact ⟨(names_congr h' _).1 h1, (names_congr h' _).1 h2, h3, fun k => h4 (reach_congr h k), fun k => h5 (reach_congr h k)⟩

/-- What a needs, known outright. -/
theorem isAll_is {l : List Hd} {a : Txt} {out S : List Txt} (ha : IsAll l a out) (h1 : S.Pairwise (· < ·)) (h2 : ∀ x ∈ S, NeedsPlain.Reach l a x ∧ x ≠ a) (h3 : ∀ g ∈ l, (g.1 = a ∨ g.1 ∈ S) → ∀ x ∈ g.2, x ∈ names l → x = a ∨ x ∈ S) : out = S := by
  refine rising_eq ha.1 h1 fun x => ?_
  rw [ha.2]
  refine ⟨fun ⟨hr, hne⟩ => ?_, h2 x⟩
  rcases NeedsPlain.reach_in (S := fun y => y ∈ S) h3 hr with e | e
  · exact absurd e hne
  · exact e

theorem f_db : NeedsPlain.Reach formH [100] [98] := .one (h := ([100], [[98], [99]])) (by decide) rfl (by decide) (by decide)
theorem f_dc : NeedsPlain.Reach formH [100] [99] := .one (h := ([100], [[98], [99]])) (by decide) rfl (by decide) (by decide)
theorem f_da : NeedsPlain.Reach formH [100] [97] := .more (h := ([98], [[97]])) f_db (by decide) (by decide) (by decide)

theorem f_no {a x : Txt} (S : List Txt) (h3 : ∀ g ∈ formH, (g.1 = a ∨ g.1 ∈ S) → ∀ x ∈ g.2, x ∈ names formH → x = a ∨ x ∈ S) (h1 : x ≠ a) (h2 : x ∉ S) : ¬ NeedsPlain.Reach formH a x := fun hr => by
  rcases NeedsPlain.reach_in (S := fun y => y ∈ S) h3 hr with e | e
  · exact h1 e
  · exact h2 e

theorem f_bc : ApartP formH [98] [99] := ⟨by decide, by decide, by decide, f_no [[97]] (by decide) (by decide) (by decide), f_no [[97]] (by decide) (by decide) (by decide)⟩
theorem f_de : ApartP formH [100] [101] := ⟨by decide, by decide, by decide, f_no [[97], [98], [99]] (by decide) (by decide) (by decide), f_no [[122]] (by decide) (by decide) (by decide)⟩
theorem f_da' : ¬ ApartP formH [100] [97] := fun h => h.2.2.2.1 f_da
theorem f_ad' : ¬ ApartP formH [97] [100] := fun h => h.2.2.2.2 f_da
theorem f_aa' : ¬ ApartP formH [97] [97] := fun h => h.2.2.1 rfl
theorem f_ax' : ¬ ApartP formH [97] [120] := fun h => absurd h.2.1 (by decide)

theorem form_mem (k : Nat) (hk : k < 6) (x : Hd) : x ∈ swapH formH 0 k ↔ x ∈ formH := by
  rcases (show k = 0 ∨ k = 1 ∨ k = 2 ∨ k = 3 ∨ k = 4 ∨ k = 5 by omega) with rfl | rfl | rfl | rfl | rfl | rfl <;> simp [swapH, formH] <;> grind

theorem form_ord (k : Nat) (hk : k < 6) : ordM (swapH formH 0 k) = some [[97], [98], [99], [100], [122], [101]] := by
  rcases (show k = 0 ∨ k = 1 ∨ k = 2 ∨ k = 3 ∨ k = 4 ∨ k = 5 by omega) with rfl | rfl | rfl | rfl | rfl | rfl <;> rfl

theorem form_small (k : Nat) (hk : k < 6) : SmallH (swapH formH 0 k) := by
  refine ⟨by rw [swapH_len]; decide, fun h hh => ?_, fun h hh => ?_, fun h hh => ?_⟩
  all_goals
    rw [form_mem k hk] at hh
    revert h
    decide

theorem form_tops {out : List Txt} (h1 : out.Pairwise (· < ·)) (h2 : ∀ x, x ∈ out ↔ isTop formH x) : out = [[100], [101]] := by
  refine rising_eq h1 (by decide) fun x => ?_
  rw [h2]
  constructor
  · rintro ⟨h3, h4⟩
    simp [names, formH] at h3 h4
    grind
  · intro h
    simp at h
    rcases h with rfl | rfl
    · exact ⟨by decide, by decide⟩
    · exact ⟨by decide, by decide⟩
end Go.Proofs.Ytcogeebfldlpoaa
