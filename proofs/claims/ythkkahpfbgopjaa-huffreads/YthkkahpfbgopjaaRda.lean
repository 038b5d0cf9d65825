/-
  HuffReads: the states of the walk.
-/
import Derived.Test.YthkkahpfbgopjaaSg
import Derived.Test.YthkkahpfbgopjaaDw
import Derived.Test.YthkkahpfbgopjaaBm
set_option linter.unusedSimpArgs false
set_option linter.unusedVariables false
namespace Go.Proofs.Ythkkahpfbgopjaa
open Go.RowKit

/-- The two writers as they are new, and what was there before. -/
structure Q2 (C : Nat) (w3 w : World) (p yb : Nat) : Prop where
  hw : w.heap[p]? = some (.cells #[.slice none 0 0, .int .i64 0] 73 (0, 0))
  hy : w.heap[yb]? = some (.cells #[.slice none 0 0, .int .i64 0, .bool false] 53 (0, 0))
  below : Below C w3 w
  size : C ≤ w.heap.size
  lop : C ≤ p
  loy : C ≤ yb

theorem Q2.old {C : Nat} {w3 w w' : World} {p yb : Nat} (h : Q2 C w3 w p yb) (hb : Below w.heap.size w w') : Q2 C w3 w' p yb :=
  ⟨by rw [hb.block p (lt_of_block h.hw)]; exact h.hw, by rw [hb.block yb (lt_of_block h.hy)]; exact h.hy, h.below.trans (hb.mono h.size), Nat.le_trans h.size hb.size, h.lop, h.loy⟩

theorem Q2.grown {C : Nat} {w3 w w' : World} {p yb b : Nat} (h : Q2 C w3 w p yb) (hg : w.grownBy w' (some b)) (hp : p ≠ b) (hy : yb ≠ b) (hb : C ≤ b) : Q2 C w3 w' p yb :=
  ⟨by rw [hg.block p (lt_of_block h.hw) (by simpa using hp)]; exact h.hw, by rw [hg.block yb (lt_of_block h.hy) (by simpa using hy)]; exact h.hy, h.below.grown hg h.size (fun k hk => by cases hk; exact hb), Nat.le_trans h.size hg.size, h.lop, h.loy⟩

/-- The two readers beside them. -/
structure Q4 (C : Nat) (w3 w : World) (rb xb p yb : Nat) (bs : List Nat) (q : Nat) (q' : Nat) : Prop where
  r : Rd 71 w rb bs q false
  x : Rd 53 w xb bs q' false
  two : Q2 C w3 w p yb
  lor : C ≤ rb
  lox : C ≤ xb
  ne : xb ≠ yb

theorem Q4.old {C : Nat} {w3 w w' : World} {rb xb p yb : Nat} {bs : List Nat} {q q' : Nat} (h : Q4 C w3 w rb xb p yb bs q q') (hb : Below w.heap.size w w') : Q4 C w3 w' rb xb p yb bs q q' :=
  ⟨h.r.old hb, h.x.old hb, h.two.old hb, h.lor, h.lox, h.ne⟩

/-- One more sign, read by the table and by the document: both, or neither. -/
theorem both_read {C : Nat} {w3 : World} {rb xb p yb tb lg lcap n B : Nat} {bs l : List Nat} (hC : C = w3.heap.size) (hT : Tab w3 tb l) (hn : l.length = n) (hn0 : 0 < n) (hok : OK (castL l)) (hl : w3.ownsRow B 3 1 (.slice (some ⟨lg, 0, none⟩) n lcap) n (l.map natV)) (q : Nat) :
    (∃ (i q2 : Nat), Hid (∀ w, Q4 C w3 w rb xb p yb bs q q → Calls Try.prog 13 #[.pointer (some ⟨tb, 0, none⟩), .pointer (some ⟨rb, 0, none⟩)] w fun e w' => e = .returned (.tuple #[.int .i64 (i : Int), .bool true]) ∧ Q4 C w3 w' rb xb p yb bs q2 q) ∧
      Hid (∀ w, Q4 C w3 w rb xb p yb bs q2 q → Calls Try.prog 23 #[.pointer (some ⟨xb, 0, none⟩), .slice (some ⟨lg, 0, none⟩) n lcap] w fun e w' => e = .returned (.tuple #[.int .i64 (i : Int), .bool true]) ∧ Q4 C w3 w' rb xb p yb bs q2 q2)) ∨
    (Hid (∀ w, Q4 C w3 w rb xb p yb bs q q → Calls Try.prog 13 #[.pointer (some ⟨tb, 0, none⟩), .pointer (some ⟨rb, 0, none⟩)] w fun e w' => e = .returned (.tuple #[.int .i64 0, .bool false]) ∧ Rd 53 w' xb bs q false ∧ Q2 C w3 w' p yb ∧ C ≤ xb ∧ xb ≠ yb) ∧
      Hid (∀ w, Rd 53 w xb bs q false → Q2 C w3 w p yb → C ≤ xb → xb ≠ yb → Calls Try.prog 23 #[.pointer (some ⟨xb, 0, none⟩), .slice (some ⟨lg, 0, none⟩) n lcap] w fun e w' => e = .returned (.tuple #[.int .i64 0, .bool false]) ∧ Q2 C w3 w' p yb)) := by
  by_cases hh : ∃ i, Hit l (nx bs q) (8 * bs.length - q) i
  · obtain ⟨i, hi⟩ := hh
    refine .inl ⟨i, q + nth l i, fun w h => ?_, fun w h => ?_⟩
    · obtain ⟨rc, hrc⟩ := h.r.type
      obtain ⟨xc, hxc⟩ := h.x.type
      refine (get_walk w tb rb l bs q (hT.old (hC ▸ h.two.below)) h.r).mono ?_
      rintro e w' ⟨hg, ⟨k, hk, rfl, hR⟩ | ⟨hno, _⟩⟩
      · obtain rfl := hit_one (nx_lt _ _) hk hi
        exact ⟨rfl, hR, h.x.apart hg hrc (by decide) (blocks_ne hxc hrc (by decide)), h.two.grown hg (blocks_ne h.two.hw hrc (by decide)) (blocks_ne h.two.hy hrc (by decide)) h.lor, h.lor, h.lox, h.ne⟩
      · exact absurd hi (hno i)
    · obtain ⟨rc, hrc⟩ := h.r.type
      obtain ⟨xc, hxc⟩ := h.x.type
      refine (docsign_walk w xb l bs q B lg lcap n hn hn0 hok h.x (owns_old3 hl (hC ▸ h.two.below))).mono ?_
      rintro e w' ⟨hg, ⟨k, hk, rfl, hR⟩ | ⟨hno, _⟩⟩
      · obtain rfl := hit_one (nx_lt _ _) hk hi
        exact ⟨rfl, h.r.apart hg hxc (by decide) (blocks_ne hrc hxc (by decide)), hR, h.two.grown hg (blocks_ne h.two.hw hxc (by decide)) (Ne.symm h.ne) h.lox, h.lor, h.lox, h.ne⟩
      · exact absurd hi (hno i)
  · have hno : ∀ i, ¬ Hit l (nx bs q) (8 * bs.length - q) i := fun i hi => hh ⟨i, hi⟩
    refine .inr ⟨fun w h => ?_, fun w hx h2 hlo hne => ?_⟩
    · obtain ⟨rc, hrc⟩ := h.r.type
      obtain ⟨xc, hxc⟩ := h.x.type
      refine (get_walk w tb rb l bs q (hT.old (hC ▸ h.two.below)) h.r).mono ?_
      rintro e w' ⟨hg, ⟨k, hk, _⟩ | ⟨_, rfl, _⟩⟩
      · exact absurd hk (hno k)
      · exact ⟨rfl, h.x.apart hg hrc (by decide) (blocks_ne hxc hrc (by decide)), h.two.grown hg (blocks_ne h.two.hw hrc (by decide)) (blocks_ne h.two.hy hrc (by decide)) h.lor, h.lox, h.ne⟩
    · obtain ⟨xc, hxc⟩ := hx.type
      refine (docsign_walk w xb l bs q B lg lcap n hn hn0 hok hx (owns_old3 hl (hC ▸ h2.below))).mono ?_
      rintro e w' ⟨hg, ⟨k, hk, _⟩ | ⟨_, rfl, _⟩⟩
      · exact absurd hk (hno k)
      · exact ⟨rfl, h2.grown hg (blocks_ne h2.hw hxc (by decide)) (Ne.symm hne) hlo⟩

theorem Dv.fr {p : Nat} {w w' : World} {v : Value} {N t : Nat} {x y : Option Nat} (h : Dv p w v N t) (hf : Fr x y w w') (hpx : some p ≠ x) (hpy : some p ≠ y) (hx : v.ownBlock ≠ x ∨ v.ownBlock = none) (hy : v.ownBlock ≠ y ∨ v.ownBlock = none) : Dv p w' v N t := by
  obtain ⟨bs, hp, hown, r⟩ := h
  exact ⟨bs, by rw [hf.block p (lt_of_block hp) hpx hpy]; exact hp, owns_fr hown hf hx hy, r⟩

theorem Dv.old {p : Nat} {w w' : World} {v : Value} {N t : Nat} (h : Dv p w v N t) (hb : Below w.heap.size w w') : Dv p w' v N t := by
  obtain ⟨bs, hp, hown, r⟩ := h
  exact ⟨bs, by rw [hb.block p (lt_of_block hp)]; exact hp, owns_old hown hb, r⟩

/-- Both writers, at the same digits. -/
structure Wb2 (C : Nat) (w3 w : World) (p yb : Nat) (N T N' T' cg ccap n : Nat) (cs : List Nat) : Prop where
  both : ∃ v1 v2, Wv p w v1 N T ∧ Dv yb w v2 N' T' ∧ (∀ j, v1.ownBlock = some j → C ≤ j) ∧ (∀ j, v2.ownBlock = some j → C ≤ j) ∧ (v1.ownBlock ≠ v2.ownBlock ∨ v1.ownBlock = none)
  cv : w.ownsRow 0 3 1 (.slice (some ⟨cg, 0, none⟩) n ccap) n (cs.map natV)
  below : Below C w3 w
  size : C ≤ w.heap.size
  lop : C ≤ p
  loy : C ≤ yb

theorem Wb2.old {C : Nat} {w3 w w' : World} {p yb N T N' T' cg ccap n : Nat} {cs : List Nat} (h : Wb2 C w3 w p yb N T N' T' cg ccap n cs) (hb : Below w.heap.size w w') : Wb2 C w3 w' p yb N T N' T' cg ccap n cs := by
  obtain ⟨⟨v1, v2, h1, h2, h3, h4, h5⟩, hc, hbl, hs, hp, hy⟩ := h
  exact ⟨⟨v1, v2, h1.old hb, h2.old hb, h3, h4, h5⟩, owns_old3 hc hb, hbl.trans (hb.mono hs), Nat.le_trans hs hb.size, hp, hy⟩

theorem sep35b {w : World} {B B' : Nat} {u v : Value} {n m : Nat} {xs ys : List Value} (h : w.ownsRow B 3 1 u n xs) (k : w.ownsRow B' 5 1 v m ys) : u.ownBlock ≠ v.ownBlock ∨ u.ownBlock = none := by
  rcases h.2 with ⟨rfl, _⟩ | ⟨g, cap, cur, rfl, _, hg, _⟩
  · exact .inr rfl
  · left
    intro e
    exact owns_ne k hg (by decide) e.symm

theorem Wb2.put {C : Nat} {w3 w : World} {p yb tb N T N' T' cg ccap n : Nat} {cs l : List Nat} (h : Wb2 C w3 w p yb N T N' T' cg ccap n cs) (hC : C = w3.heap.size) (ht : Tab w3 tb l) (s : Nat) (hs : s < l.length) (h0 : 0 < nth l s) (hT : T < 900000) :
    Calls Try.prog 15 #[.pointer (some ⟨tb, 0, none⟩), .pointer (some ⟨p, 0, none⟩), .int .i64 (s : Int)] w fun e w' => e = .returned (.bool true) ∧ Wb2 C w3 w' p yb (N + rv l s * 2 ^ T) (T + nth l s) N' T' cg ccap n cs := by
  obtain ⟨⟨v1, v2, hw, hy, h3, h4, h5⟩, hc, hbl, hsz, hp, hyb⟩ := h
  obtain ⟨b1, hp1, ho1, _⟩ := id hw
  obtain ⟨b2, hp2, ho2, _⟩ := id hy
  refine (tput_fr p tb w v1 l s N T (ht.old (hC ▸ hbl)) hw hs h0 hT).mono ?_
  rintro e w' ⟨rfl, v', hv', hkin, hf⟩
  have hv2lt : ∀ j, v2.ownBlock = some j → j < w.heap.size := fun j hj => (ho2.lt j hj).2
  refine ⟨rfl, ⟨v', v2, hv', hy.fr hf ?_ ?_ (.inl (owns_ne ho2 hp1 (by decide))) ?_, fun j hj => ?_, h4, ?_⟩, owns_fr hc hf (.inl (owns_ne3 hc hp1 (by decide))) (sep35b hc ho1), hbl.trans (hf.below hsz (fun j hj => by cases hj; exact hp) h3), Nat.le_trans hsz hf.size, hp, hyb⟩
  · simpa using blocks_ne hp2 hp1 (by decide)
  · exact fun e => owns_ne ho1 hp2 (by decide) e.symm
  · rcases h5 with h | h
    · exact .inl (Ne.symm h)
    · by_cases e : v2.ownBlock = none
      · exact .inr e
      · exact .inl (fun e2 => e (e2.trans h))
  · rcases hkin with e | e
    · exact h3 j (by rw [← e]; exact hj)
    · have := e j hj; omega
  · rcases hkin with e | e
    · rw [e]; exact h5
    · by_cases e' : v'.ownBlock = none
      · exact .inr e'
      · left
        intro e2
        cases hv : v'.ownBlock with
        | none => exact e' hv
        | some j =>
          have h6 := e j hv
          have h7 := hv2lt j (by rw [← e2]; exact hv)
          omega

theorem Wb2.code {C : Nat} {w3 w : World} {p yb N T N' T' cg ccap n : Nat} {cs : List Nat} (h : Wb2 C w3 w p yb N T N' T' cg ccap n cs) (x : Int) (c : Nat) (hc16 : c ≤ 16) (hT : T' < 900000) :
    Calls Try.prog 25 #[.pointer (some ⟨yb, 0, none⟩), .int .i64 x, .int .i64 c] w fun e w' => e = .returned (.tuple #[]) ∧ Wb2 C w3 w' p yb N T (N' + rev x c c * 2 ^ T') (T' + c) cg ccap n cs := by
  obtain ⟨⟨v1, v2, hw, hy, h3, h4, h5⟩, hc, hbl, hsz, hp, hyb⟩ := h
  obtain ⟨b1, hp1, ho1, _⟩ := id hw
  obtain ⟨b2, hp2, ho2, _⟩ := id hy
  refine (doccode_walk yb w v2 N' T' x c hy hc16 hT).mono ?_
  rintro e w' ⟨rfl, v', hv', hkin, hf⟩
  have hv1lt : ∀ j, v1.ownBlock = some j → j < w.heap.size := fun j hj => (ho1.lt j hj).2
  have h5' : v1.ownBlock ≠ v2.ownBlock ∨ v1.ownBlock = none := h5
  refine ⟨rfl, ⟨v1, v', hw.fr hf ?_ ?_ (.inl (owns_ne ho1 hp2 (by decide))) h5', hv', h3, fun j hj => ?_, ?_⟩, owns_fr hc hf (.inl (owns_ne3 hc hp2 (by decide))) (sep35b hc ho2), hbl.trans (hf.below hsz (fun j hj => by cases hj; exact hyb) h4), Nat.le_trans hsz hf.size, hp, hyb⟩
  · simpa using blocks_ne hp1 hp2 (by decide)
  · exact fun e => owns_ne ho2 hp1 (by decide) e.symm
  · rcases hkin with e | e
    · exact h4 j (by rw [← e]; exact hj)
    · have := e j hj; omega
  · rcases hkin with e | e
    · rw [e]; exact h5
    · by_cases e' : v1.ownBlock = none
      · exact .inr e'
      · left
        intro e2
        cases hv : v1.ownBlock with
        | none => exact e' hv
        | some j =>
          have h6 := e j (by rw [← e2]; exact hv)
          have h7 := hv1lt j hv
          omega

end Go.Proofs.Ythkkahpfbgopjaa
