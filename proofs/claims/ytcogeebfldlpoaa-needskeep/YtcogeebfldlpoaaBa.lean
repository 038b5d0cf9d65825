/-
  A slice of heads that a call makes by appending: what it holds, what it leads to.
-/
import Derived.Test.YtcogeebfldlpoaaFa
set_option linter.unusedSimpArgs false
set_option linter.unusedVariables false
namespace Go.Proofs.Ytcogeebfldlpoaa
open Go.RowKit
open Go.Proofs.NeedsPlain (Hd names getD_set)

theorem Try.inf24 : (Try.prog.info? 24).map (fun i => (i.zero, i.size, i.bytes)) = some (some (.agg hd0A), 3, 48) := by kernel_rfl
theorem Try.under25 : Try.prog.underlying 25 = some (.slice 24) := by kernel_rfl

/-- A slice whose row lies below the heap's end, and is not the row of v. -/
def Apt (w : World) (v nv : Value) : Prop := ∀ a n c, nv = .slice (some a) n c → a.block < w.heap.size ∧ v.ownBlock ≠ some a.block

theorem apt_nil (w : World) (v : Value) : Apt w v (.slice none 0 0) := fun a n c e => by cases e

theorem Apt.old {w w' : World} {v nv : Value} (h : Apt w v nv) (hs : w.heap.size ≤ w'.heap.size) : Apt w' v nv := fun a n c e => ⟨Nat.lt_of_lt_of_le (h a n c e).1 hs, (h a n c e).2⟩

theorem LiesS.apt {w w' : World} {v nv : Value} {ss : List Txt} (h : LiesS w nv ss) (ho : Apt w v nv) (hk : w.grownBy w' v.ownBlock) : LiesS w' nv ss := by
  obtain ⟨ao, cap, h1, h2, h3, h4⟩ := h
  refine ⟨ao, cap, h1, h2, h3, fun a ha j u hu => ?_⟩
  have hc := h4 a ha j u hu
  have e : (a.add j).block = a.block := by unfold Addr.add; split <;> rfl
  refine hk.cell hc ?_
  rw [e]
  subst ha
  exact fun e2 => (ho a _ _ h1).2 e2.symm

/-- v holds the heads hs, in a row that the call owns. -/
structure HBag (B : Nat) (w : World) (v : Value) (hs : List Hd) (cs : List Value) : Prop where
  row : w.ownsRow B 24 3 v hs.length cs
  at' : ∀ k, k < hs.length → ∃ tg nv, cs[k * 3]? = some (.string (str (hs.getD k hd0).1)) ∧ cs[k * 3 + 1]? = some (.bool tg) ∧ cs[k * 3 + 2]? = some nv ∧ LiesS w nv (hs.getD k hd0).2 ∧ Apt w v nv

theorem HBag.nil (B : Nat) (w : World) : HBag B w (.slice none 0 0) [] [] := ⟨World.ownsRow_nil _ _ _ _, fun k hk => by simp at hk⟩

theorem HBag.old {B : Nat} {w w' : World} {v : Value} {hs : List Hd} {cs : List Value} (h : HBag B w v hs cs) (hb : Old w w') : HBag B w' v hs cs := by
  refine ⟨own_at h.row fun k hk => hb.block k (h.row.lt k hk).2, fun k hk => ?_⟩
  obtain ⟨tg, nv, h1, h2, h3, h4, h5⟩ := h.at' k hk
  exact ⟨tg, nv, h1, h2, h3, h4.old hb, h5.old hb.size⟩

theorem HBag.len {B : Nat} {w : World} {v : Value} {hs : List Hd} {cs : List Value} (h : HBag B w v hs cs) : cs.length = 3 * hs.length := by
  have := h.row.1
  omega

/-- Where there is one, the row. -/
theorem HBag.hrow {B : Nat} {w : World} {v : Value} {hs : List Hd} {cs : List Value} (h : HBag B w v hs cs) (hn : 0 < hs.length) : ∃ g cap, v = .slice (some ⟨g, 0, none⟩) hs.length cap ∧ hs.length ≤ cap ∧ B ≤ g ∧ HRow w g 0 hs := by
  obtain ⟨g, cap, rfl, hB, _⟩ := h.row.form hn
  have hcap : hs.length ≤ cap := by
    rcases h.row.2 with ⟨h', _⟩ | ⟨g', cap', cur, h', _, hg, hle, _⟩
    · simp at h'
    · simp only [Value.slice.injEq, Option.some.injEq, Addr.mk.injEq, and_true, true_and] at h'
      obtain ⟨_, rfl⟩ := h'
      exact hle
  refine ⟨g, cap, rfl, hcap, hB, ⟨fun k hk => ?_, fun j hj => ?_⟩⟩
  · obtain ⟨tg, nv, h1, h2, h3, h4, h5⟩ := h.at' k hk
    refine ⟨tg, nv, fun j u hu => ?_, h4, fun a n c e => ?_⟩
    · show w.cell? ⟨g, 0 + k * 3 + j, none⟩ = some u
      have hj3 : j < 3 := by
        have := (List.getElem?_eq_some_iff.1 hu).1
        simpa using this
      rw [Nat.zero_add, h.row.cellAt (k * 3 + j) (by omega)]
      rcases j with _ | _ | _ | j
      · simp at hu; subst hu; exact h1
      · simp at hu; subst hu; exact h2
      · simp at hu; subst hu; exact h3
      · omega
    · have := (h5 a n c e).2
      intro e2
      apply this
      show some g = some a.block
      rw [e2]
  · rw [Nat.zero_add]
    refine ⟨?_, h.row.frozenAt j⟩
    rw [h.row.cellAt j (by omega)]
    have := h.len
    rw [List.getElem?_eq_getElem (by omega)]; rfl

theorem HBag.lies {B : Nat} {w : World} {v : Value} {hs : List Hd} {cs : List Value} (h : HBag B w v hs cs) : LiesH w v hs := by
  by_cases hn : 0 < hs.length
  · obtain ⟨g, cap, rfl, hc, _, hr⟩ := h.hrow hn
    exact hr.lies hc
  · have e : hs = [] := List.eq_nil_of_length_eq_zero (by omega)
    subst e
    obtain ⟨ao, c, rfl⟩ : ∃ ao c, v = .slice ao 0 c := by
      rcases h.row.2 with ⟨rfl, _⟩ | ⟨g, cap, cur, rfl, _⟩
      · exact ⟨none, 0, rfl⟩
      · exact ⟨_, _, rfl⟩
    rcases h.row.2 with ⟨h', _⟩ | ⟨g, cap, cur, h', _⟩
    · cases h'
      exact ⟨none, 0, rfl, by simp, fun _ => rfl, fun a ha => by cases ha⟩
    · cases h'
      refine ⟨_, c, rfl, by simp, fun _ => rfl, fun a ha => ?_⟩
      have e := Option.some.inj ha
      subst e
      exact ⟨rfl, fun k hk => by simp at hk⟩

theorem HBag.shape {B : Nat} {w : World} {v : Value} {hs : List Hd} {cs : List Value} (h : HBag B w v hs cs) : ∃ ao c, v = .slice ao hs.length c := by
  rcases h.row.2 with ⟨rfl, e⟩ | ⟨g, cap, cur, rfl, _⟩
  · exact ⟨none, 0, by rw [e]⟩
  · exact ⟨_, _, rfl⟩

/-- One head put behind them: at the operation. -/
theorem wpList_appH {ops : Array Oper} {rest : List Oper} {o : Oper} {a : Act} {w : World} {Q : Exit → Act → World → Prop} (hgd : o.guard = none) (s x : Operand)
    (ho : o.op = .call { callee := .builtin .append, args := #[s, x], argTypes := #[25, 25] })
    (B : Nat) (v : Value) (hs : List Hd) (cs : List Value) (hsv : a.eval s = v) (h : HBag B w v hs cs) (hB : B ≤ w.heap.size) (hl : hs.length ≤ 1000000) (nm : ByteArray) (tg : Bool) (nv : Value) (nd : List Txt)
    (H : Nat) (hH : w.heap.size = H) (hx : a.eval x = .slice (some ⟨H, 0, none⟩) 1 1) (hnd : LiesS w nv nd) (ha : Apt w v nv)
    (hK : ∀ v' w' cs', HBag B w' v' (hs ++ [(nm.data.toList, nd)]) cs' → Below B w w' → wpList Try.prog ops Q rest (a.put o.dst v') w') : wpList Try.prog ops Q (o :: rest) a (w.alloc (.cells #[.string nm, .bool tg, nv] 24)) := by
  subst hH
  obtain ⟨i, hi, hz0, hz1, hz2⟩ := info_parts Try.inf24
  have h1 := h.old (old1 w (.cells #[.string nm, .bool tg, nv] 24))
  refine wpList_append_lies _ hgd s x 25 ho B 24 i (.agg hd0A) 3 48 Try.under25 hi hz0 hz1 hz2 rfl (by decide) v hs.length cs hsv h1.row ⟨w.heap.size, 0, none⟩ 1 1 [.string nm, .bool tg, nv] hx rfl (fun j u hu => by
    rw [add_none, Nat.zero_add, cell_of_row _ _ j _ 24 (0, 0) (h10 w _)]
    simpa using hu) (list_one hnd) (by decide) (by unfold maxLen; omega) (by omega) (by simp; omega) (w.heap.size + 1) (by simp) ?_
  intro g cap w' hown hgrow hat hlt
  have hlen := h.len
  have hb : Below B w w' := ((Below.refl B w).alloc hB _).grown hgrow (by simp; omega) (fun k e => (h1.row.lt k e).1)
  refine hK _ w' (cs ++ [.string nm, .bool tg, nv]) ⟨by rw [List.length_append]; exact hown, fun k hk => ?_⟩ hb
  -- an elder slice is apart from the new row, too
  have hapt : ∀ nv', Apt w v nv' → Apt w' (.slice (some ⟨g, 0, none⟩) (hs.length + 1) cap) nv' := fun nv' h' b n c e => by
    obtain ⟨k1, k2⟩ := h' b n c e
    refine ⟨Nat.lt_of_lt_of_le k1 hb.size, ?_⟩
    show some g ≠ some b.block
    intro e2
    have e3 : g = b.block := by simpa using e2
    rcases hat with e4 | e4
    · exact k2 (e4.trans (by rw [e3]))
    · omega
  have hlies : ∀ nv' ss, LiesS w nv' ss → Apt w v nv' → LiesS w' nv' ss := fun nv' ss l k => (l.old (old1 w _)).apt (k.old (by simp)) hgrow
  rw [List.length_append, List.length_singleton] at hk
  by_cases e : k < hs.length
  · obtain ⟨tg', nv', k1, k2, k3, k4, k5⟩ := h.at' k e
    have e2 : (hs ++ [(nm.data.toList, nd)]).getD k hd0 = hs.getD k hd0 := by simp [List.getElem?_append_left e]
    rw [e2]
    refine ⟨tg', nv', ?_, ?_, ?_, hlies _ _ k4 k5, hapt _ k5⟩
    · rw [List.getElem?_append_left (by omega)]; exact k1
    · rw [List.getElem?_append_left (by omega)]; exact k2
    · rw [List.getElem?_append_left (by omega)]; exact k3
  · obtain rfl : k = hs.length := by omega
    have e2 : (hs ++ [(nm.data.toList, nd)]).getD hs.length hd0 = (nm.data.toList, nd) := by simp
    rw [e2]
    refine ⟨tg, nv, ?_, ?_, ?_, hlies _ _ hnd ha, hapt _ ha⟩
    · rw [List.getElem?_append_right (by omega), show hs.length * 3 - cs.length = 0 by omega]; rfl
    · rw [List.getElem?_append_right (by omega), show hs.length * 3 + 1 - cs.length = 1 by omega]; rfl
    · rw [List.getElem?_append_right (by omega), show hs.length * 3 + 2 - cs.length = 2 by omega]; rfl
end Go.Proofs.Ytcogeebfldlpoaa
