/-
  Plain facts of the heads that Heads makes.
-/
import Derived.Test.YtcogeebfldlpoaaHg
import Derived.Test.YtcogeebfldlpoaaFc
set_option linter.unusedSimpArgs false
set_option linter.unusedVariables false
namespace Go.Proofs.Ytcogeebfldlpoaa
open Go.RowKit
open Go.Proofs.NeedsPlain (Hd names getD_set ordM IsAll isTop)

theorem GoodH.at {hs : List Hd} (i : Nat) (h : i < hs.length) : hs.getD i hd0 = hs[i] := by simp [h]

theorem GoodH.names_eq {hs : List Hd} (h : GoodH hs) : names hs = N10.take hs.length := by
  have h10 : hs.length ≤ N10.length := h.len
  show hs.map (·.1) = _
  apply List.ext_getElem
  · rw [List.length_map, List.length_take]; omega
  · intro i h1 h2
    have hi : i < hs.length := by rwa [List.length_map] at h1
    have e := h.nm i hi
    rw [GoodH.at i hi] at e
    rw [List.getElem_map, e, List.getElem_take, List.getD_eq_getElem?_getD, List.getElem?_eq_getElem (by omega)]
    rfl

theorem n10_nodup : N10.Nodup := by decide

theorem GoodH.nodup {hs : List Hd} (h : GoodH hs) : (names hs).Nodup := by
  rw [h.names_eq]
  exact n10_nodup.sublist (List.take_sublist _ _)

theorem GoodH.name_at {hs : List Hd} (h : GoodH hs) {i : Nat} (hi : i < hs.length) : N10.getD i [] ∈ names hs := by
  rw [← h.nm i hi, GoodH.at i hi]
  exact List.mem_map_of_mem (List.getElem_mem hi)

theorem n10_len (j : Nat) : (N10.getD j []).length ≤ 1 := by
  by_cases h : j < 10
  · rcases (show j = 0 ∨ j = 1 ∨ j = 2 ∨ j = 3 ∨ j = 4 ∨ j = 5 ∨ j = 6 ∨ j = 7 ∨ j = 8 ∨ j = 9 by omega) with rfl | rfl | rfl | rfl | rfl | rfl | rfl | rfl | rfl | rfl <;> decide
  · have : N10.getD j [] = [] := by
      rw [List.getD_eq_getElem?_getD, List.getElem?_eq_none (by show 10 ≤ j; omega)]; rfl
    rw [this]; decide

theorem GoodH.small {hs : List Hd} (h : GoodH hs) : SmallH hs := by
  have hl := h.len
  refine ⟨by omega, fun g hg => ?_, fun g hg => ?_, fun g hg x hx => ?_⟩
  all_goals
    obtain ⟨i, hi, rfl⟩ := List.getElem_of_mem hg
  · have := h.nm i hi
    rw [GoodH.at i hi] at this
    rw [this]
    have := n10_len i
    omega
  · have := h.nl i hi
    rw [GoodH.at i hi] at this
    omega
  · have := h.nd i hi
    rw [GoodH.at i hi] at this
    obtain ⟨j, _, rfl⟩ := this x hx
    have := n10_len j
    omega

theorem GoodH.ord {hs : List Hd} (h : GoodH hs) : ∃ o, ordM hs = some o := by
  refine NeedsPlain.ord_some h.nodup fun i hi n hn => ?_
  have h1 := h.nd i hi
  rw [GoodH.at i hi] at h1
  obtain ⟨j, hj, e⟩ := h1 n hn
  refine ⟨j, hj, ?_⟩
  have h2 := h.nm j (by omega)
  rw [GoodH.at j (by omega)] at h2
  rw [h2, e]

/-- Of two names: they are one, or apart, or one needs the other: one of these alone. -/
theorem four {hs : List Hd} (h : GoodH hs) {x y : Txt} (hx : x ∈ names hs) (hy : y ∈ names hs) {d1 d2 d3 : Bool} (h1 : ApartP hs x y ↔ d1 = true) (h2 : (NeedsPlain.Reach hs x y ∧ y ≠ x) ↔ d2 = true) (h3 : (NeedsPlain.Reach hs y x ∧ x ≠ y) ↔ d3 = true) : [decide (x = y), d1, d2, d3].count true = 1 := by
  obtain ⟨o, ho⟩ := h.ord
  have f : ∀ {p : Prop} {d : Bool}, (p ↔ d = true) → ¬ p → d = false := fun h n => by
    rename_i d
    cases d
    · rfl
    · exact absurd (h.2 rfl) n
  by_cases e : x = y
  · subst e
    rw [f h1 (fun k => k.2.2.1 rfl), f h2 (fun k => k.2 rfl), f h3 (fun k => k.2 rfl)]
    simp
  · by_cases r1 : NeedsPlain.Reach hs x y
    · have r2 := NeedsPlain.reach_anti ho r1
      rw [f h1 (fun k => k.2.2.2.1 r1), h2.1 ⟨r1, fun k => e k.symm⟩, f h3 (fun k => r2 k.1)]
      simp [e]
    · by_cases r2 : NeedsPlain.Reach hs y x
      · rw [f h1 (fun k => k.2.2.2.2 r2), f h2 (fun k => r1 k.1), h3.1 ⟨r2, e⟩]
        simp [e]
      · rw [h1.1 ⟨hx, hy, e, r1, r2⟩, f h2 (fun k => r1 k.1), f h3 (fun k => r2 k.1)]
        simp [e]

theorem apart_sym {hs : List Hd} {x y : Txt} : ApartP hs x y ↔ ApartP hs y x := ⟨fun ⟨a, b, c, d, e⟩ => ⟨b, a, fun k => c k.symm, e, d⟩, fun ⟨a, b, c, d, e⟩ => ⟨b, a, fun k => c k.symm, e, d⟩⟩

theorem tops_apart {hs : List Hd} {t u : Txt} (h1 : isTop hs t) (h2 : isTop hs u) (hne : t ≠ u) : ApartP hs t u := ⟨h1.1, h2.1, hne, NeedsPlain.top_apart h2, NeedsPlain.top_apart h1⟩

/-- What the first i of the tops need, they among them. -/
def AccOf (hs : List Hd) (tops : List Txt) (i : Nat) (acc : List Txt) : Prop := (∀ y, y ∈ acc ↔ ∃ k, k < i ∧ (y = tops.getD k [] ∨ NeedsPlain.Reach hs (tops.getD k []) y)) ∧ acc.length ≤ i * 1001

theorem AccOf.nil (hs : List Hd) (tops : List Txt) : AccOf hs tops 0 [] := ⟨fun y => ⟨(fun h => by cases h), fun ⟨k, h, _⟩ => absurd h (Nat.not_lt_zero k)⟩, by simp⟩

theorem AccOf.put {hs : List Hd} {tops : List Txt} {i : Nat} {acc out : List Txt} (h : AccOf hs tops i acc) (ho : IsAll hs (tops.getD i []) out) (hl : out.length ≤ 1000) : AccOf hs tops (i + 1) ((acc ++ [tops.getD i []]) ++ out) := by
  refine ⟨fun y => ?_, ?_⟩
  · rw [List.mem_append, List.mem_append, List.mem_singleton, h.1 y, ho.2 y]
    constructor
    · rintro ((⟨k, k1, k2⟩ | e) | ⟨r, _⟩)
      · exact ⟨k, by omega, k2⟩
      · exact ⟨i, by omega, .inl e⟩
      · exact ⟨i, by omega, .inr r⟩
    · rintro ⟨k, k1, k2⟩
      by_cases e : k < i
      · exact .inl (.inl ⟨k, e, k2⟩)
      · obtain rfl : k = i := by omega
        by_cases e2 : y = tops.getD k []
        · exact .inl (.inr e2)
        · rcases k2 with k2 | k2
          · exact .inl (.inr k2)
          · exact .inr ⟨k2, e2⟩
  · have := h.2
    simp only [List.length_append, List.length_singleton]
    omega

/-- All tops' needs, and they, are all. -/
theorem AccOf.whole {hs : List Hd} (hg : GoodH hs) {tops acc out : List Txt} (ht : ∀ x, x ∈ tops ↔ isTop hs x) (h : AccOf hs tops tops.length acc) (hs1 : out.Pairwise (· < ·)) (hs2 : ∀ y, y ∈ out ↔ y ∈ acc) : out.length = hs.length := by
  obtain ⟨o, ho⟩ := hg.ord
  have e : ∀ y, y ∈ out ↔ y ∈ names hs := fun y => by
    rw [hs2, h.1]
    constructor
    · rintro ⟨k, k1, k2⟩
      have hk : tops.getD k [] ∈ tops := by
        rw [List.getD_eq_getElem?_getD, List.getElem?_eq_getElem k1]; exact List.getElem_mem k1
      rcases k2 with rfl | k2
      · exact ((ht _).1 hk).1
      · exact k2.name
    · intro hy
      obtain ⟨t, t1, t2⟩ := NeedsPlain.top_all ho hy
      obtain ⟨k, k1, k2⟩ := List.getElem_of_mem ((ht t).2 t1)
      refine ⟨k, k1, ?_⟩
      rw [List.getD_eq_getElem?_getD, List.getElem?_eq_getElem k1]
      show y = tops[k] ∨ NeedsPlain.Reach hs tops[k] y
      rw [k2]
      rcases t2 with t2 | t2
      · exact .inl t2.symm
      · exact .inr t2
  have hn : out.Nodup := hs1.imp (S := fun a b => a ≠ b) (fun {a b} h e => txt_irr b (by rw [e] at h; exact h))
  have l1 := NeedsPlain.sub_len hn (fun x hx => (e x).1 hx)
  have l2 := NeedsPlain.sub_len hg.nodup (fun x hx => (e x).2 hx)
  have l3 : (names hs).length = hs.length := List.length_map ..
  omega
end Go.Proofs.Ytcogeebfldlpoaa
