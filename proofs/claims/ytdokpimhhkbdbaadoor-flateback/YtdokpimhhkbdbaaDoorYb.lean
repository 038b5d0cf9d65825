/-
  What Unpack answers to what Fixed writes: whole, cut, with a byte more.
-/
import Derived.Test.YtdokpimhhkbdbaaDoorYa
set_option linter.unusedSimpArgs false
set_option linter.unusedVariables false
namespace Go.Proofs.YtdokpimhhkbdbaaDoor
open Go.RowKit

theorem cast_back (l : List Nat) : (castL l).map Int.toNat = l := by
  unfold castL
  rw [List.map_map]
  conv => rhs; rw [← List.map_id l]
  apply List.map_congr_left
  intro x _
  simp

theorem lits_fits : Fits litsL := by have := lits_ok.2.2; rwa [cast_back] at this
theorem dists_fits : Fits distsL := by have := dists_ok.2.2; rwa [cast_back] at this
theorem lits_15 : ∀ x ∈ litsL, x ≤ 15 := by decide +kernel
theorem dists_15 : ∀ x ∈ distsL, x ≤ 15 := by decide +kernel

theorem rowAt_ag (y out : List Nat) (P n d : Nat) (R : List (Nat × Nat)) (h3 : 3 ≤ n) (hn : n ≤ 258) (h1 : 1 ≤ d) (hd : d ≤ 32768) (hdo : d ≤ out.length) (ho : out.length + n ≤ 65536) (hP : P ≤ 8 * y.length)
    (h : Ag y P (lowP (n - Lz.lenB (lenC n)) (Lz.lenN (lenC n)) :: sigP distsL (disC d) :: lowP (d - Lz.disB (disC d)) (Lz.disN (disC d)) :: R)) :
    Q.rowAt y P out (257 + lenC n) = if P + (Lz.lenN (lenC n) + (nth distsL (disC d) + Lz.disN (disC d))) ≤ 8 * y.length then .ok (P + (Lz.lenN (lenC n) + (nth distsL (disC d) + Lz.disN (disC d))), Lz.rowOf out d n) else .error 2 := by
  obtain ⟨c1, c2, c3⟩ := Lz.len_code n h3 hn
  obtain ⟨d1, d2, d3⟩ := Lz.dis_code d h1 hd
  change lenC n ≤ 28 at c1
  change Lz.lenB (lenC n) ≤ n at c2
  change n - Lz.lenB (lenC n) < 2 ^ Lz.lenN (lenC n) at c3
  change disC d ≤ 29 at d1
  change Lz.disB (disC d) ≤ d at d2
  change d - Lz.disB (disC d) < 2 ^ Lz.disN (disC d) at d3
  have n5 := dists_pos (disC d) (by omega)
  have hdl : disC d < distsL.length := by rw [dists_len]; omega
  generalize lenC n = c at *
  generalize disC d = e at *
  have t1 : Ag y (P + Lz.lenN c) (sigP distsL e :: lowP (d - Lz.disB e) (Lz.disN e) :: R) := h.tail (lowP_lt _ _)
  have t2 : Ag y (P + Lz.lenN c + nth distsL e) (lowP (d - Lz.disB e) (Lz.disN e) :: R) := t1.tail (sigP_lt _ _)
  unfold Q.rowAt
  rw [if_neg (by omega), Nat.add_sub_cancel_left]
  by_cases a1 : 8 * y.length < P + Lz.lenN c
  · rw [if_pos a1, if_neg (by omega)]
  rw [if_neg a1, low_dig h c3 (by omega)]
  by_cases a2 : 8 * y.length < P + Lz.lenN c + nth distsL e
  · rw [sgn_none dists_fits dists_15 hdl (by omega) t1 (by omega) a2, if_neg (by omega)]
  rw [sgn_hit dists_fits dists_15 hdl (by omega) t1 (by omega)]
  simp only
  rw [if_neg (by omega)]
  by_cases a3 : 8 * y.length < P + Lz.lenN c + nth distsL e + Lz.disN e
  · rw [if_pos a3, if_neg (by omega)]
  rw [if_neg a3, low_dig t2 d3 (by omega)]
  have e1 : Lz.disB e + (d - Lz.disB e) = d := by omega
  have e2 : Lz.lenB c + (n - Lz.lenB c) = n := by omega
  rw [e1, e2, if_neg (by omega), if_neg (by omega), if_pos (by omega)]
  congr 2
  omega

theorem flat_cons (s : Lz.St) (l : List Lz.St) : (s :: l).flatMap pcs ++ [sigP litsL 256] = pcs s ++ (l.flatMap pcs ++ [sigP litsL 256]) := by simp

/-- All steps of the block from a on. -/
theorem cod_ag (b y : List Nat) (hs : Small b) (hb : b.length ≤ 19000) : ∀ f a P, a ≤ b.length → b.length - a ≤ f → P ≤ 8 * y.length → Ag y P ((Lz.runL b f a).flatMap pcs ++ [sigP litsL 256]) →
    Q.codAt y (8 * y.length + 1 - P) P (b.take a) = if P + wid ((Lz.runL b f a).flatMap pcs ++ [sigP litsL 256]) ≤ 8 * y.length then .ok (P + wid ((Lz.runL b f a).flatMap pcs ++ [sigP litsL 256]), b) else .error 2 := by
  intro f
  induction f with
  | zero =>
    intro a P ha hf hP h
    have hab : a = b.length := by omega
    subst hab
    rw [Lz.runL_end b 0 _ (Nat.le_refl _)] at h ⊢
    simp only [List.flatMap_nil, List.nil_append] at h ⊢
    have e7 := lits_256.1
    have hw : wid [sigP litsL 256] = 7 := by rw [wid_cons, wid_nil]; show nth litsL 256 + 0 = 7; omega
    rw [hw, Q.codAt_step y P _ hP, List.take_length]
    unfold Q.codStep
    by_cases c : P + 7 ≤ 8 * y.length
    · rw [sgn_hit lits_fits lits_15 (by rw [lits_len]; decide) (by omega) h (by omega), if_pos c]
      simp only
      rw [if_neg (by decide), if_pos trivial, e7]
    · rw [sgn_none lits_fits lits_15 (by rw [lits_len]; decide) (by omega) h hP (by omega), if_neg c]
  | succ f ih =>
    intro a P ha hf hP h
    by_cases hab : a < b.length
    · have hw2 := Lz.wide_le b a hab
      have hw1 := Lz.wide_pos b a
      have hJ := Lz.stepJ_step b a hab (by omega)
      have hl : (b.take a).length = a := by rw [List.length_take]; omega
      rw [Lz.runL_step b (f + 1) a hab hf, flat_cons, Nat.add_sub_cancel] at h ⊢
      have ih' := fun P' => ih (a + Lz.wide b a) P' hw2 (by omega)
      obtain ⟨L, D, hLD⟩ : ∃ L D, Lz.best b a (min 1024 a) = (L, D) := ⟨_, _, rfl⟩
      generalize hR : (Lz.runL b f (a + Lz.wide b a)).flatMap pcs ++ [sigP litsL 256] = R at h ih' ⊢
      rw [Q.codAt_step y P _ hP]
      rcases Lz.longest_fits b a L D hab hLD with ⟨_, _, e, ew⟩ | ⟨h3, h258, hin, hD1, hDa, e, ew⟩
      · rw [e] at h hJ ⊢
        have hx := small_getD hs a
        generalize b.getD a 0 = x at h hJ hx ⊢
        have ep : pcs ⟨x, 0, 0⟩ = [sigP litsL x] := by simp [pcs]
        rw [ep] at h ⊢
        simp only [List.cons_append, List.nil_append] at h ⊢
        have n0 := lits_pos x (by omega)
        rw [wid_cons]
        have e2 : (sigP litsL x).2 = nth litsL x := rfl
        rw [e2]
        unfold Lz.stepJ at hJ
        rw [if_pos (by rw [hl]; refine ⟨⟨by simp, by simp⟩, fun h => by simp at h, ?_⟩; simp; omega), if_pos rfl] at hJ
        replace hJ := Option.some.inj hJ
        unfold Q.codStep
        by_cases c : P + nth litsL x ≤ 8 * y.length
        · rw [sgn_hit lits_fits lits_15 (by rw [lits_len]; omega) n0.1 h c]
          simp only
          rw [if_pos hx, if_neg (by rw [hl]; omega), hJ, ih' _ c (h.tail (sigP_lt _ _)), Nat.add_assoc]
        · rw [sgn_none lits_fits lits_15 (by rw [lits_len]; omega) n0.1 h hP (by omega), if_neg (by omega)]
      · rw [e] at h hJ ⊢
        have ep : pcs ⟨0, (L : Int), (D : Int)⟩ = [sigP litsL (257 + lenC L), lowP (L - Lz.lenB (lenC L)) (Lz.lenN (lenC L)), sigP distsL (disC D), lowP (D - Lz.disB (disC D)) (Lz.disN (disC D))] := by
          have : ¬ ((L : Int) = 0) := by omega
          simp [pcs, this]
          omega
        rw [ep] at h ⊢
        simp only [List.cons_append, List.nil_append] at h ⊢
        have hc := Lz.topOf_le Lz.lenB L 28
        change lenC L ≤ 28 at hc
        have n0 := lits_pos (257 + lenC L) (by omega)
        unfold Lz.stepJ at hJ
        rw [if_pos (by rw [hl]; refine ⟨⟨by simp, by simp; omega⟩, fun h => by simp; omega, ?_⟩; simp; omega), if_neg (by simp; omega)] at hJ
        replace hJ := Option.some.inj hJ
        simp only [Int.toNat_natCast] at hJ
        rw [wid_cons, wid_cons, wid_cons, wid_cons]
        have e2 : (sigP litsL (257 + lenC L)).2 = nth litsL (257 + lenC L) := rfl
        have e3 : (lowP (L - Lz.lenB (lenC L)) (Lz.lenN (lenC L))).2 = Lz.lenN (lenC L) := rfl
        have e4 : (sigP distsL (disC D)).2 = nth distsL (disC D) := rfl
        have e5 : (lowP (D - Lz.disB (disC D)) (Lz.disN (disC D))).2 = Lz.disN (disC D) := rfl
        rw [e2, e3, e4, e5]
        unfold Q.codStep
        by_cases c : P + nth litsL (257 + lenC L) ≤ 8 * y.length
        · rw [sgn_hit lits_fits lits_15 (by rw [lits_len]; omega) n0.1 h c]
          simp only
          rw [if_neg (by omega), if_neg (by omega)]
          have t := h.tail (sigP_lt _ _)
          rw [e2] at t
          rw [rowAt_ag y (b.take a) _ L D R h3 h258 hD1 (by omega) (by omega) (by omega) c t]
          have t2 := ((t.tail (lowP_lt _ _)).tail (sigP_lt _ _)).tail (lowP_lt _ _)
          rw [e3, e4, e5] at t2
          by_cases c2 : P + nth litsL (257 + lenC L) + (Lz.lenN (lenC L) + (nth distsL (disC D) + Lz.disN (disC D))) ≤ 8 * y.length
          · rw [if_pos c2]
            simp only
            rw [hJ]
            have eq : P + nth litsL (257 + lenC L) + (Lz.lenN (lenC L) + (nth distsL (disC D) + Lz.disN (disC D))) = P + nth litsL (257 + lenC L) + Lz.lenN (lenC L) + nth distsL (disC D) + Lz.disN (disC D) := by omega
            rw [eq, ih' _ (by omega) t2]
            have eq2 : P + nth litsL (257 + lenC L) + Lz.lenN (lenC L) + nth distsL (disC D) + Lz.disN (disC D) + wid R = P + (nth litsL (257 + lenC L) + (Lz.lenN (lenC L) + (nth distsL (disC D) + (Lz.disN (disC D) + wid R)))) := by omega
            rw [eq2]
          · rw [if_neg c2, if_neg (by omega)]
        · rw [sgn_none lits_fits lits_15 (by rw [lits_len]; omega) n0.1 h hP (by omega), if_neg (by omega)]
    · have hab : a = b.length := by omega
      subst hab
      have r0 : Lz.runL b (f + 1) b.length = Lz.runL b 0 b.length := by rw [Lz.runL_end b (f + 1) _ (Nat.le_refl _), Lz.runL_end b 0 _ (Nat.le_refl _)]
      have r1 : Lz.runL b f b.length = Lz.runL b 0 b.length := by rw [Lz.runL_end b f _ (Nat.le_refl _), Lz.runL_end b 0 _ (Nat.le_refl _)]
      have := ih b.length P (Nat.le_refl _) (by omega) hP
      rw [r1] at this
      rw [r0] at h ⊢
      exact this h

theorem unp_ag (b y : List Nat) (hs : Small b) (hb : b.length ≤ 19000) (h : Ag y 0 (allP b)) :
    Q.unp y = if wid (allP b) ≤ 8 * y.length then (if 8 * y.length - wid (allP b) < 8 ∧ Q.dig y (wid (allP b)) (8 * y.length - wid (allP b)) = 0 then .ok b else .error 2) else .error 2 := by
  have e0 : allP b = lowP 1 1 :: lowP 1 2 :: ((Lz.splitL b).flatMap pcs ++ [sigP litsL 256]) := by simp [allP]
  have hw : wid (allP b) = 3 + wid ((Lz.splitL b).flatMap pcs ++ [sigP litsL 256]) := by
    rw [e0, wid_cons, wid_cons]
    show 1 + (2 + _) = _
    omega
  rw [hw]
  rw [e0] at h
  have t1 : Ag y (0 + 1) (lowP 1 2 :: ((Lz.splitL b).flatMap pcs ++ [sigP litsL 256])) := h.tail (lowP_lt _ _)
  have t2 : Ag y (0 + 1 + 2) ((Lz.splitL b).flatMap pcs ++ [sigP litsL 256]) := t1.tail (lowP_lt _ _)
  unfold Q.unp
  by_cases hy : y.length = 0
  · have a1 : 8 * y.length < 0 + 1 := by omega
    unfold Q.allAt
    rw [if_pos a1, if_neg (by omega)]
  have a1 : ¬ 8 * y.length < 0 + 1 := by omega
  have a2 : ¬ 8 * y.length < 0 + 1 + 2 := by omega
  have d1 : Q.dig y 0 1 = 1 := low_dig h (by decide) (by omega)
  have d2 : Q.dig y (0 + 1) 2 = 1 := low_dig t1 (by decide) (by omega)
  have hc := cod_ag b y hs hb b.length 0 (0 + 1 + 2) (Nat.zero_le _) (by omega) (by omega) t2
  rw [List.take_zero] at hc
  change Q.codAt y (8 * y.length + 1 - (0 + 1 + 2)) (0 + 1 + 2) [] = if 0 + 1 + 2 + wid ((Lz.splitL b).flatMap pcs ++ [sigP litsL 256]) ≤ 8 * y.length then .ok (0 + 1 + 2 + wid ((Lz.splitL b).flatMap pcs ++ [sigP litsL 256]), b) else .error 2 at hc
  generalize wid ((Lz.splitL b).flatMap pcs ++ [sigP litsL 256]) = W at hc ⊢
  unfold Q.allAt
  rw [if_neg a1, if_neg a2, d2]
  unfold Q.blkAt
  rw [if_neg (by decide), if_pos rfl, hc, d1]
  by_cases c : 3 + W ≤ 8 * y.length
  · rw [if_pos (by omega), if_pos c]
    simp only
    rfl
  · rw [if_neg (by omega), if_neg c]

theorem wid_fix (b : List Nat) : wid (allP b) = (fixE b).2 := by
  rw [fixE_pcs, fold_wid]; simp

theorem ag_of {b x y : List Nat} (h : Fixd b x) (hy : Small y) (hb : ∀ i, i < y.length → i < x.length → y.getD i 0 = x.getD i 0) : Ag y 0 (allP b) := by
  intro k h1 h2
  obtain ⟨hx, hv, hl⟩ := h
  rw [wid_fix] at h2
  have e : num (allP b) = val x := by rw [hv, fixE_pcs]; rfl
  rw [e]
  unfold Q.nx
  rw [Nat.zero_add, val_bit hy, val_bit hx, hb _ (by omega) (by omega)]

theorem fix_whole {b x : List Nat} (h : Fixd b x) (hs : Small b) (hb : b.length ≤ 19000) : Q.unp x = .ok b := by
  rw [unp_ag b x hs hb (ag_of h h.1 fun _ _ _ => rfl), wid_fix]
  have hl := h.2.2
  have hv : val x < 2 ^ (fixE b).2 := by
    rw [h.2.1, fixE_pcs]
    exact fold_lt (allP b) (0, 0) (by decide) (allP_lt b)
  rw [if_pos (by omega), if_pos]
  refine ⟨by omega, ?_⟩
  unfold Q.dig
  rw [Nat.div_eq_of_lt hv, Nat.zero_mod]

theorem fix_more {b x : List Nat} (h : Fixd b x) (m : Nat) (hm : m < 256) (hs : Small b) (hb : b.length ≤ 19000) : Q.unp (x ++ [m]) = .error 2 := by
  have hsm : Small (x ++ [m]) := by
    intro z hz
    rcases List.mem_append.1 hz with hz | hz
    · exact h.1 z hz
    · simp at hz; omega
  rw [unp_ag b _ hs hb (ag_of h hsm fun i _ hi => getD_app _ _ _ hi), wid_fix]
  have hl := h.2.2
  have hl2 : (x ++ [m]).length = x.length + 1 := by simp
  rw [if_pos (by omega), if_neg (by omega)]

theorem fix_cut {b x : List Nat} (h : Fixd b x) (k : Nat) (hk : k < x.length) (hs : Small b) (hb : b.length ≤ 19000) : Q.unp (x.take k) = .error 2 := by
  have hsm : Small (x.take k) := fun z hz => h.1 z (List.mem_of_mem_take hz)
  have hl2 : (x.take k).length = k := by rw [List.length_take]; omega
  rw [unp_ag b _ hs hb (ag_of h hsm fun i hi _ => getD_tk _ _ _ (by omega)), wid_fix]
  have hl := h.2.2
  rw [if_neg (by omega)]

/-- What is packed, either way: whole, cut, with a byte more. -/
theorem packed_all {b x : List Nat} (h : x = stoL b ∨ Fixd b x) (hs : Small b) (hb : b.length ≤ 19000) :
    Small x ∧ 0 < x.length ∧ Q.unp x = .ok b ∧ (∀ k, k < x.length → Q.unp (x.take k) = .error 2) ∧ ∀ m, m < 256 → Q.unp (x ++ [m]) = .error 2 := by
  rcases h with rfl | h
  · exact ⟨sto_small b hs (by omega), by rw [sto_len]; omega, unp_sto_whole b hs (by omega), fun k hk => unp_sto_cut b k hs (by omega) hk, fun m hm => unp_sto_more b m hs (by omega) hm⟩
  · refine ⟨h.1, ?_, fix_whole h hs hb, fun k hk => fix_cut h k hk hs hb, fun m hm => fix_more h m hm hs hb⟩
    have hl := h.2.2
    have := wid_fix b
    have e0 : allP b = lowP 1 1 :: lowP 1 2 :: ((Lz.splitL b).flatMap pcs ++ [sigP litsL 256]) := by simp [allP]
    rw [e0, wid_cons] at this
    have e1 : (lowP 1 1).2 = 1 := rfl
    omega

end Go.Proofs.YtdokpimhhkbdbaaDoor
