/-
  A head that needs all tops, behind the heads that Heads makes: plain facts; a slice of heads copied.
-/
import Derived.Test.YtcogeebfldlpoaaAp
import Derived.Test.YtcogeebfldlpoaaTf
set_option linter.unusedSimpArgs false
set_option linter.unusedVariables false
namespace Go.Proofs.Ytcogeebfldlpoaa
open Go.RowKit
open Go.Proofs.NeedsPlain (Hd names getD_set ordM IsAll isTop)

def tagH (hs : List Hd) (tops : List Txt) : List Hd := hs ++ [([116], tops)]

theorem tag_names (hs : List Hd) (tops : List Txt) : names (tagH hs tops) = names hs ++ [[116]] := by simp [names, tagH]

theorem t_not {hs : List Hd} (h : GoodH hs) : ([116] : Txt) ∉ names hs := fun k => by
  rw [h.names_eq] at k
  have := List.mem_of_mem_take k
  revert this
  decide

theorem tag_nodup {hs : List Hd} (h : GoodH hs) (tops : List Txt) : (names (tagH hs tops)).Nodup := by
  rw [tag_names]
  refine List.nodup_append.2 ⟨h.nodup, by simp, fun a ha b hb => ?_⟩
  rw [List.mem_singleton] at hb
  subst hb
  exact fun e => t_not h (e ▸ ha)

theorem rising_nodup {l : List Txt} (h : l.Pairwise (· < ·)) : l.Nodup := h.imp (S := fun a b => a ≠ b) (fun {a b} h e => txt_irr b (by rw [e] at h; exact h))

theorem tag_small {hs : List Hd} (h : GoodH hs) {tops : List Txt} (h1 : tops.Pairwise (· < ·)) (h2 : ∀ x, x ∈ tops ↔ isTop hs x) : SmallH (tagH hs tops) := by
  have hs1 := h.small
  have hl := h.len
  have ht : tops.length ≤ hs.length := by
    have := NeedsPlain.sub_len (rising_nodup h1) (b := names hs) (fun x hx => ((h2 x).1 hx).1)
    simpa [names] using this
  refine ⟨by simp [tagH]; omega, fun g hg => ?_, fun g hg => ?_, fun g hg x hx => ?_⟩ <;> rcases List.mem_append.1 hg with hg | hg
  · exact hs1.nm g hg
  · rw [List.mem_singleton] at hg; subst hg; exact Nat.le_of_ble_eq_true rfl
  · exact hs1.nl g hg
  · rw [List.mem_singleton] at hg; subst hg; show tops.length ≤ 1000; omega
  · exact hs1.nn g hg x hx
  · rw [List.mem_singleton] at hg; subst hg
    have hx2 : x ∈ names hs := ((h2 x).1 hx).1
    obtain ⟨g, hg, rfl⟩ := List.mem_map.1 hx2
    exact hs1.nm g hg

theorem GoodH.need {hs : List Hd} (h : GoodH hs) {g : Hd} (hg : g ∈ hs) {x : Txt} (hx : x ∈ g.2) : x ∈ names hs := by
  obtain ⟨i, hi, rfl⟩ := List.getElem_of_mem hg
  have := h.nd i hi
  rw [GoodH.at i hi] at this
  obtain ⟨j, hj, rfl⟩ := this x hx
  exact h.name_at (by omega)

theorem tag_ord {hs : List Hd} (h : GoodH hs) {tops : List Txt} (h2 : ∀ x, x ∈ tops ↔ isTop hs x) : ∃ o, ordM (tagH hs tops) = some o := by
  refine NeedsPlain.ord_some (tag_nodup h tops) fun i hi n hn => ?_
  have hlen : (tagH hs tops).length = hs.length + 1 := by simp [tagH]
  by_cases e : i < hs.length
  · have e1 : (tagH hs tops)[i] = hs[i] := List.getElem_append_left e
    rw [e1] at hn
    have h1 := h.nd i e
    rw [GoodH.at i e] at h1
    obtain ⟨j, hj, e2⟩ := h1 n hn
    refine ⟨j, hj, ?_⟩
    have h3 := h.nm j (by omega)
    rw [GoodH.at j (by omega)] at h3
    have e3 : (tagH hs tops)[j]'(by omega) = hs[j]'(by omega) := List.getElem_append_left (by omega)
    rw [e3, h3, e2]
  · have ei : i = hs.length := by omega
    subst ei
    have e1 : (tagH hs tops)[hs.length] = ([116], tops) := by simp [tagH]
    rw [e1] at hn
    have hn2 : n ∈ names hs := ((h2 n).1 hn).1
    obtain ⟨g, hg, e2⟩ := List.mem_map.1 hn2
    obtain ⟨j, hj2, rfl⟩ := List.getElem_of_mem hg
    refine ⟨j, hj2, ?_⟩
    have e3 : (tagH hs tops)[j]'(by omega) = hs[j] := List.getElem_append_left hj2
    rw [e3, ← e2]

theorem reach_tag {hs : List Hd} {tops : List Txt} {a x : Txt} (h : NeedsPlain.Reach hs a x) : NeedsPlain.Reach (tagH hs tops) a x := by
  have hn : ∀ {y}, y ∈ names hs → y ∈ names (tagH hs tops) := fun hy => by rw [tag_names]; exact List.mem_append_left _ hy
  induction h using NeedsPlain.Reach.ind with
  | one hm he hx hy => exact .one (List.mem_append_left _ hm) he hx (hn hy)
  | more _ hm hx hy ih => exact .more ih (List.mem_append_left _ hm) hx (hn hy)

/-- Whoever is there but t stands ahead of t. -/
theorem tag_reach {hs : List Hd} (h : GoodH hs) {tops : List Txt} (h2 : ∀ x, x ∈ tops ↔ isTop hs x) {x : Txt} (hx : x ∈ names hs) : NeedsPlain.Reach (tagH hs tops) [116] x := by
  obtain ⟨o, ho⟩ := h.ord
  obtain ⟨t, t1, t2⟩ := NeedsPlain.top_all ho hx
  have hl : (([116], tops) : Hd) ∈ tagH hs tops := List.mem_append_right _ (by simp)
  have hr : NeedsPlain.Reach (tagH hs tops) [116] t := .one hl rfl ((h2 t).2 t1) (by rw [tag_names]; exact List.mem_append_left _ t1.1)
  rcases t2 with rfl | t2
  · exact hr
  · exact hr.trans (reach_tag t2)

theorem tag_last {hs : List Hd} (h : GoodH hs) {tops : List Txt} (h2 : ∀ x, x ∈ tops ↔ isTop hs x) {o : List Txt} (ho : ordM (tagH hs tops) = some o) : o.length = hs.length + 1 ∧ o.getD hs.length [] = [116] := by
  have hp := NeedsPlain.ord_perm ho
  have hl : o.length = hs.length + 1 := by
    have := hp.length_eq
    rw [tag_names, List.length_append, List.length_singleton] at this
    simpa [names] using this
  refine ⟨hl, ?_⟩
  have hnd : o.Nodup := hp.nodup_iff.2 (tag_nodup h tops)
  have hk : hs.length < o.length := by omega
  rw [List.getD_eq_getElem?_getD, List.getElem?_eq_getElem hk]
  show o[hs.length] = [116]
  have hm : o[hs.length] ∈ names (tagH hs tops) := hp.mem_iff.1 (List.getElem_mem hk)
  rw [tag_names] at hm
  rcases List.mem_append.1 hm with hm | hm
  · exfalso
    have h3 := NeedsPlain.reach_before ho (tag_reach h h2 hm)
    have h4 : NeedsPlain.at' o o[hs.length] = hs.length := hnd.idxOf_getElem _ hk
    rw [h4] at h3
    have h5 : NeedsPlain.at' o [116] < o.length := List.idxOf_lt_length_of_mem (hp.mem_iff.2 (by rw [tag_names]; simp))
    omega
  · exact List.mem_singleton.1 hm

theorem tag_all {hs : List Hd} (h : GoodH hs) {tops : List Txt} (h2 : ∀ x, x ∈ tops ↔ isTop hs x) {out : List Txt} (ha : IsAll (tagH hs tops) [116] out) : out.length = hs.length := by
  have e : ∀ y, y ∈ out ↔ y ∈ names hs := fun y => by
    rw [ha.2 y]
    constructor
    · rintro ⟨r, hne⟩
      have := r.name
      rw [tag_names] at this
      rcases List.mem_append.1 this with k | k
      · exact k
      · exact absurd (List.mem_singleton.1 k) hne
    · intro hy
      exact ⟨tag_reach h h2 hy, fun e => t_not h (e ▸ hy)⟩
  have l1 := NeedsPlain.sub_len (rising_nodup ha.1) (fun x hx => (e x).1 hx)
  have l2 := NeedsPlain.sub_len h.nodup (fun x hx => (e x).2 hx)
  have l3 : (names hs).length = hs.length := List.length_map ..
  omega

theorem tag_tops {hs : List Hd} (h : GoodH hs) {tops : List Txt} (h2 : ∀ x, x ∈ tops ↔ isTop hs x) {out : List Txt} (h3 : out.Pairwise (· < ·)) (h4 : ∀ x, x ∈ out ↔ isTop (tagH hs tops) x) : out = [[116]] := by
  have e : ∀ x, x ∈ out ↔ x = [116] := fun x => by
    rw [h4 x]
    constructor
    · rintro ⟨k1, k2⟩
      rw [tag_names] at k1
      rcases List.mem_append.1 k1 with k | k
      · exfalso
        have : isTop hs x := ⟨k, fun g hg => k2 g (List.mem_append_left _ hg)⟩
        exact k2 ([116], tops) (List.mem_append_right _ (by simp)) ((h2 x).2 this)
      · exact List.mem_singleton.1 k
    · rintro rfl
      refine ⟨by rw [tag_names]; simp, fun g hg hx => ?_⟩
      rcases List.mem_append.1 hg with hg | hg
      · exact t_not h (h.need hg hx)
      · rw [List.mem_singleton] at hg; subst hg
        exact t_not h ((h2 _).1 hx).1
  rcases out with _ | ⟨a, r⟩
  · exact absurd ((e [116]).2 rfl) (by simp)
  · have ha : a = [116] := (e a).1 (by simp)
    rcases r with _ | ⟨b, r⟩
    · rw [ha]
    · exfalso
      have hb : b = [116] := (e b).1 (by simp)
      have := (List.pairwise_cons.1 h3).1 b (by simp)
      rw [ha, hb] at this
      exact txt_irr _ this

/-- A slice of heads copied: at the operation. -/
theorem wpList_copyH {ops : Array Oper} {rest : List Oper} {o : Oper} {a : Act} {w : World} {Q : Exit → Act → World → Prop} (hgd : o.guard = none) (s x : Operand)
    (ho : o.op = .call { callee := .builtin .append, args := #[s, x], argTypes := #[25, 25] })
    (B : Nat) (u : Value) (hs : List Hd) (cs : List Value) (hsv : a.eval s = .slice none 0 0) (hx : a.eval x = u) (h : HBag B w u hs cs) (hpos : 0 < hs.length) (hl : hs.length ≤ 1000000)
    (hK : ∀ v' w', HBag w.heap.size w' v' hs cs → Old w w' → wpList Try.prog ops Q rest (a.put o.dst v') w') : wpList Try.prog ops Q (o :: rest) a w := by
  obtain ⟨i, hi, hz0, hz1, hz2⟩ := info_parts Try.inf24
  obtain ⟨g, cap, rfl, hB, _⟩ := h.row.form hpos
  have hlen := h.len
  have hcell : ∀ j, j < cs.length → w.cell? ⟨g, j, none⟩ = cs[j]? := fun j hj => h.row.cellAt j (by omega)
  refine wpList_append_lies _ hgd s x 25 ho w.heap.size 24 i (.agg hd0A) 3 48 Try.under25 hi hz0 hz1 hz2 rfl (by decide) (.slice none 0 0) 0 [] hsv (World.ownsRow_nil _ _ 24 3) ⟨g, 0, none⟩ hs.length cap cs hx (by omega) (fun j u hu => by
    rw [add_none, Nat.zero_add, hcell j (List.getElem?_eq_some_iff.1 hu).1]; exact hu) (fun u hu => ?_) hpos (by unfold maxLen; omega) (by omega) (Nat.le_refl _) w.heap.size rfl ?_
  · obtain ⟨j, hj, rfl⟩ := List.getElem_of_mem hu
    obtain ⟨tg, nv, k1, k2, k3, k4, _⟩ := h.at' (j / 3) (by omega)
    obtain ⟨ao, c, rfl, _⟩ := k4
    rcases (show j = j / 3 * 3 ∨ j = j / 3 * 3 + 1 ∨ j = j / 3 * 3 + 2 by omega) with e | e | e
    · rw [← e, List.getElem?_eq_getElem hj] at k1; rw [Option.some.inj k1]; rfl
    · rw [← e, List.getElem?_eq_getElem hj] at k2; rw [Option.some.inj k2]; rfl
    · rw [← e, List.getElem?_eq_getElem hj] at k3; rw [Option.some.inj k3]; rfl
  · intro g' cap' w' hown hgrow hat hlt
    have hg' : g' = w.heap.size := by
      rcases hat with e | e
      · cases e
      · exact e
    have hold : Old w w' := (Below.refl _ _).grown hgrow (Nat.le_refl _) (fun k e => by cases e)
    rw [Nat.zero_add, List.nil_append] at hown
    rw [Nat.zero_add]
    refine hK _ w' ⟨hown, fun k hk => ?_⟩ hold
    obtain ⟨tg, nv, k1, k2, k3, k4, k5⟩ := h.at' k hk
    refine ⟨tg, nv, k1, k2, k3, k4.old hold, fun b n c e => ⟨Nat.lt_of_lt_of_le (k5 b n c e).1 hold.size, ?_⟩⟩
    have := (k5 b n c e).1
    show some g' ≠ some b.block
    intro e2
    have e3 : g' = b.block := by simpa using e2
    omega
end Go.Proofs.Ytcogeebfldlpoaa
