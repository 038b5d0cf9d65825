/-
  A closed part of some heads, and the heads turned round: plain facts; slices of heads grown beside each other.
-/
import Derived.Test.YtcogeebfldlpoaaAl
set_option linter.unusedSimpArgs false
set_option linter.unusedVariables false
namespace Go.Proofs.Ytcogeebfldlpoaa
open Go.RowKit
open Go.Proofs.NeedsPlain (Hd names getD_set ordM IsAll isTop)

/-- Names that hold all that they need. -/
def PartOf (hs : List Hd) (k : Nat) (part : List Txt) : Prop := (∀ g ∈ hs, g.1 ∈ part → ∀ x ∈ g.2, x ∈ part) ∧ part.length ≤ k * 1001

theorem PartOf.nil (hs : List Hd) : PartOf hs 0 [] := ⟨(fun g _ h => by cases h), by simp⟩

theorem PartOf.put {hs : List Hd} (hg : GoodH hs) {k : Nat} {part out : List Txt} (h : PartOf hs k part) {n : Txt} (ho : IsAll hs n out) (hl : out.length ≤ 1000) : PartOf hs (k + 1) ((part ++ [n]) ++ out) := by
  obtain ⟨o, hord⟩ := hg.ord
  refine ⟨fun g gm hgp x hx => ?_, ?_⟩
  · rw [List.mem_append, List.mem_append, List.mem_singleton] at hgp
    rw [List.mem_append, List.mem_append, List.mem_singleton]
    rcases hgp with (h1 | h1) | h1
    · exact .inl (.inl (h.1 g gm h1 x hx))
    · exact .inr (NeedsPlain.all_closed hord ho gm (.inl h1) hx (hg.need gm hx))
    · exact .inr (NeedsPlain.all_closed hord ho gm (.inr h1) hx (hg.need gm hx))
  · have := h.2
    simp only [List.length_append, List.length_singleton]
    omega

def someL (hs : List Hd) (part : List Txt) : List Hd := hs.filter fun h => decide (h.1 ∈ part)

theorem some_names {hs : List Hd} {part : List Txt} (x : Txt) : x ∈ names (someL hs part) ↔ x ∈ names hs ∧ x ∈ part := by
  unfold names someL
  rw [List.mem_map, List.mem_map]
  constructor
  · rintro ⟨g, hg, rfl⟩
    rw [List.mem_filter, decide_eq_true_eq] at hg
    exact ⟨⟨g, hg.1, rfl⟩, hg.2⟩
  · rintro ⟨⟨g, hg, rfl⟩, hp⟩
    exact ⟨g, List.mem_filter.2 ⟨hg, decide_eq_true hp⟩, rfl⟩

theorem some_ord {hs : List Hd} (hg : GoodH hs) {k : Nat} {part o : List Txt} (h : PartOf hs k part) (ho : ordM hs = some o) : ordM (someL hs part) = some (o.filter fun x => decide (x ∈ part)) := by
  have hn : (names (someL hs part)).Nodup := hg.nodup.sublist (List.filter_sublist.map _)
  have := NeedsPlain.ord_part ho hn (fun g hg => (List.mem_filter.1 hg).1) (fun g hgs n hn => by
    obtain ⟨h1, h2⟩ := List.mem_filter.1 hgs
    exact (some_names n).2 ⟨hg.need h1 hn, h.1 g h1 (of_decide_eq_true h2) n hn⟩)
  rw [this]
  congr 1
  refine List.filter_congr fun x hx => ?_
  have hx2 := (NeedsPlain.ord_perm ho).mem_iff.1 hx
  rw [decide_eq_decide, some_names]
  exact ⟨fun k => k.2, fun k => ⟨hx2, k⟩⟩

theorem back_ord {hs : List Hd} (hg : GoodH hs) {o : List Txt} (ho : ordM hs = some o) : ordM hs.reverse = some o := by
  have hm : ∀ x, x ∈ names hs.reverse ↔ x ∈ names hs := fun x => by simp [names]
  have hn : (names hs.reverse).Nodup := by
    show (hs.reverse.map (·.1)).Nodup
    rw [List.map_reverse]
    exact (List.reverse_perm _).nodup_iff.2 hg.nodup
  have := NeedsPlain.ord_part ho hn (fun g hg => List.mem_reverse.1 hg) (fun g hgs n hn => (hm n).2 (hg.need (List.mem_reverse.1 hgs) hn))
  rw [this]
  congr 1
  refine List.filter_eq_self.2 fun x hx => decide_eq_true ((hm x).2 ((NeedsPlain.ord_perm ho).mem_iff.1 hx))

theorem small_sub {hs l : List Hd} (h : SmallH hs) (hl : l.length ≤ hs.length) (hm : ∀ g ∈ l, g ∈ hs) : SmallH l :=
  ⟨Nat.le_trans hl h.len, fun g hg => h.nm g (hm g hg), fun g hg => h.nl g (hm g hg), fun g hg => h.nn g (hm g hg)⟩

/-- What a head needs stands ahead of it. -/
theorem need_take {hs : List Hd} {o : List Txt} (ho : ordM hs = some o) {g : Hd} (hg : g ∈ hs) {i : Nat} (hi : i < o.length) (e : g.1 = o.getD i []) {m : Txt} (hm : m ∈ g.2) : m ∈ o.take i := by
  obtain ⟨h1, h2⟩ := NeedsPlain.need_before ho hg hm
  have hnd : o.Nodup := (NeedsPlain.ord_perm ho).nodup_iff.2 (NeedsPlain.ord_spec ho).1
  have e2 : NeedsPlain.at' o g.1 = i := by
    rw [e, List.getD_eq_getElem?_getD, List.getElem?_eq_getElem hi]
    exact hnd.idxOf_getElem _ hi
  rw [e2] at h2
  rw [List.mem_take_iff_getElem]
  have h3 : NeedsPlain.at' o m < o.length := List.idxOf_lt_length_of_mem h1
  exact ⟨NeedsPlain.at' o m, by omega, List.getElem_idxOf h3⟩

/-- v holds the heads hs, whose needs lie below W0's end; the row lies at W0's end or above it. -/
structure HBig (W0 w : World) (v : Value) (hs : List Hd) (cs : List Value) : Prop where
  row : w.ownsRow W0.heap.size 24 3 v hs.length cs
  at' : ∀ k, k < hs.length → ∃ tg nv, cs[k * 3]? = some (.string (str (hs.getD k hd0).1)) ∧ cs[k * 3 + 1]? = some (.bool tg) ∧ cs[k * 3 + 2]? = some nv ∧ LiesS W0 nv (hs.getD k hd0).2 ∧ ∀ a n c, nv = .slice (some a) n c → a.block < W0.heap.size

theorem HBig.nil (W0 w : World) : HBig W0 w (.slice none 0 0) [] [] := ⟨World.ownsRow_nil _ _ 24 3, fun k hk => by simp at hk⟩

theorem HBig.bag {W0 w : World} {v : Value} {hs : List Hd} {cs : List Value} (h : HBig W0 w v hs cs) (ho : Old W0 w) : HBag W0.heap.size w v hs cs := by
  refine ⟨h.row, fun k hk => ?_⟩
  obtain ⟨tg, nv, k1, k2, k3, k4, k5⟩ := h.at' k hk
  refine ⟨tg, nv, k1, k2, k3, k4.old ho, fun a n c e => ⟨Nat.lt_of_lt_of_le (k5 a n c e) ho.size, fun e2 => ?_⟩⟩
  have h1 := (h.row.lt _ e2).1
  have h2 := k5 a n c e
  omega

theorem HBig.keep {W0 w w' : World} {v : Value} {hs : List Hd} {cs : List Value} (h : HBig W0 w v hs cs) (hk : ∀ k, v.ownBlock = some k → w'.heap[k]? = w.heap[k]?) : HBig W0 w' v hs cs := ⟨own_at h.row hk, h.at'⟩

/-- Two that grow beside each other. -/
def Two (W0 w : World) (v : Value) (hs : List Hd) (u : Value) (gs : List Hd) : Prop := ∃ cs ds, HBig W0 w v hs cs ∧ HBig W0 w u gs ds ∧ (∀ j, v.ownBlock = some j → u.ownBlock ≠ some j) ∧ Old W0 w

theorem Two.flip {W0 w : World} {v u : Value} {hs gs : List Hd} (h : Two W0 w v hs u gs) : Two W0 w u gs v hs := by
  obtain ⟨cs, ds, h1, h2, h3, h4⟩ := h
  exact ⟨ds, cs, h2, h1, fun j e k => h3 j k e, h4⟩

theorem Two.old {W0 w w' : World} {v u : Value} {hs gs : List Hd} (h : Two W0 w v hs u gs) (ho : Old w w') : Two W0 w' v hs u gs := by
  obtain ⟨cs, ds, h1, h2, h3, h4⟩ := h
  exact ⟨cs, ds, h1.keep fun k e => ho.block k (h1.row.lt k e).2, h2.keep fun k e => ho.block k (h2.row.lt k e).2, h3, h4.trans (ho.mono h4.size)⟩

/-- One head put behind the first of them. -/
theorem wpList_appTwo {ops : Array Oper} {rest : List Oper} {o : Oper} {a : Act} {w : World} {Q : Exit → Act → World → Prop} (hgd : o.guard = none) (s x : Operand)
    (ho : o.op = .call { callee := .builtin .append, args := #[s, x], argTypes := #[25, 25] })
    (W0 : World) (v u : Value) (hs gs : List Hd) (hsv : a.eval s = v) (h : Two W0 w v hs u gs) (hl : hs.length ≤ 1000000) (nm : ByteArray) (tg : Bool) (nv : Value) (nd : List Txt)
    (hx : a.eval x = .slice (some ⟨w.heap.size, 0, none⟩) 1 1) (hnd : LiesS W0 nv nd) (hnb : ∀ a n c, nv = .slice (some a) n c → a.block < W0.heap.size)
    (hK : ∀ v' w', Two W0 w' v' (hs ++ [(nm.data.toList, nd)]) u gs → wpList Try.prog ops Q rest (a.put o.dst v') w') : wpList Try.prog ops Q (o :: rest) a (w.alloc (.cells #[.string nm, .bool tg, nv] 24)) := by
  obtain ⟨i, hi, hz0, hz1, hz2⟩ := info_parts Try.inf24
  have h' := h
  obtain ⟨cs, ds, h1, h2, h3, h4⟩ := h.old (old1 w (.cells #[.string nm, .bool tg, nv] 24))
  have hlen : cs.length = 3 * hs.length := by have := h1.row.1; omega
  have hW0 : W0.heap.size ≤ w.heap.size := by obtain ⟨_, _, _, _, _, k⟩ := h'; exact k.size
  have hult : ∀ j, u.ownBlock = some j → j < w.heap.size := by obtain ⟨_, _, _, k, _⟩ := h'; exact fun j e => (k.row.lt j e).2
  refine wpList_append_lies _ hgd s x 25 ho W0.heap.size 24 i (.agg hd0A) 3 48 Try.under25 hi hz0 hz1 hz2 rfl (by decide) v hs.length cs hsv h1.row ⟨w.heap.size, 0, none⟩ 1 1 [.string nm, .bool tg, nv] hx rfl (fun j u hu => by
    rw [add_none, Nat.zero_add, cell_of_row _ _ j _ 24 (0, 0) (h10 w _)]
    simpa using hu) (list_one hnd) (by decide) (by unfold maxLen; omega) (by omega) (by simp; omega) (w.heap.size + 1) (by simp) ?_
  intro g cap w' hown hgrow hat hlt
  have hold : Old W0 w' := h4.grown hgrow h4.size (fun k e => (h1.row.lt k e).1)
  refine hK _ w' ⟨cs ++ [.string nm, .bool tg, nv], ds, ⟨by rw [List.length_append]; exact hown, fun k hk => ?_⟩, h2.keep fun k e => ?_, fun j e e2 => ?_, hold⟩
  · rw [List.length_append, List.length_singleton] at hk
    by_cases e : k < hs.length
    · obtain ⟨tg', nv', k1, k2, k3, k4, k5⟩ := h1.at' k e
      have e2 : (hs ++ [(nm.data.toList, nd)]).getD k hd0 = hs.getD k hd0 := by simp [List.getElem?_append_left e]
      rw [e2]
      refine ⟨tg', nv', ?_, ?_, ?_, k4, k5⟩
      · rw [List.getElem?_append_left (by omega)]; exact k1
      · rw [List.getElem?_append_left (by omega)]; exact k2
      · rw [List.getElem?_append_left (by omega)]; exact k3
    · obtain rfl : k = hs.length := by omega
      have e2 : (hs ++ [(nm.data.toList, nd)]).getD hs.length hd0 = (nm.data.toList, nd) := by simp
      rw [e2]
      refine ⟨tg, nv, ?_, ?_, ?_, hnd, hnb⟩
      · rw [List.getElem?_append_right (by omega), show hs.length * 3 - cs.length = 0 by omega]; rfl
      · rw [List.getElem?_append_right (by omega), show hs.length * 3 + 1 - cs.length = 1 by omega]; rfl
      · rw [List.getElem?_append_right (by omega), show hs.length * 3 + 2 - cs.length = 2 by omega]; rfl
  · exact hgrow.block k (h2.row.lt k e).2 (fun e2 => h3 k e2.symm e)
  · have e3 : g = j := by
      have : some g = some j := e
      exact Option.some.inj this
    subst e3
    rcases hat with e4 | e4
    · exact h3 g e4 e2
    · have := hult g e2
      omega
end Go.Proofs.Ytcogeebfldlpoaa
