/-
  NeedsApart walked.
-/
import Derived.Test.YtcogeebfldlpoaaAp
import Derived.Test.YtcogeebfldlpoaaHe
set_option linter.unusedSimpArgs false
set_option linter.unusedVariables false
namespace Go.Proofs.Ytcogeebfldlpoaa
open Go.RowKit
open Go.Proofs.NeedsPlain (Hd names getD_set ordM IsAll isTop)

theorem small_nilA : SmallH [] := ⟨by decide, by decide, by decide, by decide⟩

theorem bool_of (p : Prop) : ∃ d : Bool, p ↔ d = true := by
  classical
  exact ⟨decide p, by simp⟩

theorem str_of' {x : ByteArray} {t : Txt} (h : x = str t) : x.data.toList = t := by rw [h]; rfl

/-- What stands while the tops are gone through. -/
def TpL (wT wr : World) (hs : List Hd) (tops : List Txt) (i : Nat) (v : Value) : Prop := ∃ acc : List Txt, wr.ownsRow wT.heap.size 9 1 v acc.length (acc.map encStr) ∧ AccOf hs tops i acc ∧ Old wT wr

theorem TpL.old {wT wr wz : World} {hs : List Hd} {tops : List Txt} {i : Nat} {v : Value} (h : TpL wT wr hs tops i v) (hb : Old wr wz) : TpL wT wz hs tops i v := by
  obtain ⟨acc, h1, h2, h3⟩ := h
  exact ⟨acc, own_at h1 fun k hk => hb.block k (h1.lt k hk).2, h2, h3.trans (hb.mono h3.size)⟩

theorem tops_len {hs : List Hd} {tops : List Txt} (h1 : tops.Pairwise (· < ·)) (h2 : ∀ x, x ∈ tops ↔ isTop hs x) : tops.length ≤ hs.length := by
  have hn : tops.Nodup := h1.imp (S := fun a b => a ≠ b) (fun {a b} h e => txt_irr b (by rw [e] at h; exact h))
  have := NeedsPlain.sub_len hn (b := names hs) (fun x hx => ((h2 x).1 hx).1)
  simpa [names] using this

theorem tops_at {hs : List Hd} {tops : List Txt} (h2 : ∀ x, x ∈ tops ↔ isTop hs x) {i : Nat} (hi : i < tops.length) : isTop hs (tops.getD i []) := by
  refine (h2 _).1 ?_
  rw [List.getD_eq_getElem?_getD, List.getElem?_eq_getElem hi]; exact List.getElem_mem hi

theorem tops_ne {tops : List Txt} (h1 : tops.Pairwise (· < ·)) {i j : Nat} (hj : j < i) (hi : i < tops.length) : tops.getD i [] ≠ tops.getD j [] := by
  have := List.pairwise_iff_getElem.1 h1 j i (by omega) hi hj
  rw [List.getD_eq_getElem?_getD, List.getD_eq_getElem?_getD, List.getElem?_eq_getElem hi, List.getElem?_eq_getElem (show j < tops.length by omega)]
  intro e
  change tops[i] = tops[j] at e
  rw [e] at this
  exact txt_irr _ this

theorem name_size {hs : List Hd} (hm : SmallH hs) {x : Txt} (hx : x ∈ names hs) : (str x).size ≤ maxLen := by
  obtain ⟨h, hh, rfl⟩ := List.mem_map.1 hx
  have := hm.nm h hh
  rw [str_size]
  unfold maxLen; omega

set_option maxRecDepth 20000 in
set_option maxHeartbeats 8000000 in
theorem apartLaw_walk (w : World) (v : Value) (n : Nat) (za zb : Int) (hv : Rows2 w v n) : Calls Try.prog 7 #[v, .int .i64 za, .int .i64 zb] w fun e w' => e = .returned (.bool true) ∧ Old w w' := by
  have KH := mkHid (heads_walk w v n hv)
  have WK := mkHid (fun w1 => wakes_walk w1)
  clear hv
  go_enter Try.func7, Try.ntmps7
  go_upto_region 2 with (first
    | (go_at_call 17; (with_reducible refine KH.out.mono ?_); rintro e w1 ⟨vh, hs, cs, rfl, hb, hg, ho⟩))
  obtain ⟨uo, uc, rfl⟩ := hb.shape
  have HO := mkHid ho
  by_cases h0 : hs.length = 0
  · have hnil : hs = [] := List.eq_nil_of_length_eq_zero h0
    subst hnil
    have hlies : LiesH w1 (.slice uo 0 uc) [] := hb.lies
    have CT := tops_lit (o := []) hlies small_nilA (fun out _ h2 => by
      rcases out with _ | ⟨x, xs⟩
      · rfl
      · exact absurd ((h2 x).1 (by simp)).1 (by simp [names]))
    have CA : Hid (∀ w', Old w1 w' → Calls Try.prog 15 #[.slice uo 0 uc, .string ⟨#[97]⟩, .string ⟨#[98]⟩] w' fun e w'' => e = .returned (.bool false) ∧ Old w' w'') := apart_lit hlies small_nilA (by simp [names]) (by decide) (by decide) (iff_of_false (fun h => by have := h.1; simp [names] at this) (by decide))
    have OO : Hid (Old w1 w1) := Below.refl _ _
    clear hlies hb hg ho h0
    go_wp2_with (first
      | (go_at_call 13; (with_reducible refine (CT.out _ OO.out).mono ?_); rintro e w2 ⟨u2, rfl, ⟨ao2, c2, rfl, -⟩, o2⟩; have O2 := mkHid o2; clear o2)
      | (go_at_call 15; (with_reducible refine (CA.out _ O2.out).mono ?_); rintro e w3 ⟨rfl, o3⟩; have O3 := mkHid (O2.out.trans (o3.mono O2.out.size)); clear o3)
      | (go_at_call 16; (with_reducible refine (WK.out _).mono ?_); rintro e w4 ⟨rfl, o4⟩; have O4 := mkHid (O3.out.trans (o4.mono O3.out.size)); clear o4))
    go_ret
    exact ⟨rfl, HO.out.trans (O4.out.mono HO.out.size)⟩
  · have hn0 : 0 < hs.length := by omega
    have hl10 := hg.len
    obtain ⟨N, hN⟩ : ∃ N, N = hs.length := ⟨_, rfl⟩
    have KA0 := fun w1 => within_walk za hs.length (by omega) (by omega) w1
    have KB0 := fun w1 => within_walk zb hs.length (by omega) (by omega) w1
    obtain ⟨ra, hra⟩ : ∃ r : Nat, za % (hs.length : Int) = (r : Int) := ⟨(za % (hs.length : Int)).toNat, by have := Int.emod_nonneg za (show (hs.length : Int) ≠ 0 by omega); omega⟩
    obtain ⟨rb, hrb⟩ : ∃ r : Nat, zb % (hs.length : Int) = (r : Int) := ⟨(zb % (hs.length : Int)).toNat, by have := Int.emod_nonneg zb (show (hs.length : Int) ≠ 0 by omega); omega⟩
    have hra1 : ra < hs.length := by have := Int.emod_lt_of_pos za (show 0 < (hs.length : Int) by omega); omega
    have hrb1 : rb < hs.length := by have := Int.emod_lt_of_pos zb (show 0 < (hs.length : Int) by omega); omega
    rw [hra] at KA0
    rw [hrb] at KB0
    have hlies := hb.lies
    obtain ⟨g, uc', hu, huc, _, hrow⟩ := hb.hrow hn0
    obtain rfl : uo = some ⟨g, 0, none⟩ := by cases hu; rfl
    obtain ⟨tg1, nv1, hrg1, _, _⟩ := hrow.at' ra hra1
    obtain ⟨tg2, nv2, hrg2, _, _⟩ := hrow.at' rb hrb1
    obtain ⟨x, hx⟩ : ∃ x, x = str (hs.getD ra hd0).1 := ⟨_, rfl⟩
    obtain ⟨y, hy⟩ : ∃ x, x = str (hs.getD rb hd0).1 := ⟨_, rfl⟩
    have hcx : w1.cell? ⟨g, ra * 3, none⟩ = some (.string x) := by
      have := hrg1 0 (.string (str (hs.getD ra hd0).1)) rfl
      rw [← hx] at this
      simpa using this
    have hcy : w1.cell? ⟨g, rb * 3, none⟩ = some (.string y) := by
      have := hrg2 0 (.string (str (hs.getD rb hd0).1)) rfl
      rw [← hy] at this
      simpa using this
    have hxn : x.data.toList ∈ names hs := by
      rw [hx]
      show (hs.getD ra hd0).1 ∈ _
      rw [hg.nm ra hra1]; exact hg.name_at hra1
    have hyn : y.data.toList ∈ names hs := by
      rw [hy]
      show (hs.getD rb hd0).1 ∈ _
      rw [hg.nm rb hrb1]; exact hg.name_at hrb1
    have hxs : x.size ≤ maxLen := by
      rw [hx, str_size, hg.nm ra hra1]
      have := n10_len ra
      unfold maxLen; omega
    have hys : y.size ≤ maxLen := by
      rw [hy, str_size, hg.nm rb hrb1]
      have := n10_len rb
      unfold maxLen; omega
    have KA := mkHid KA0
    have KB := mkHid KB0
    obtain ⟨V, hV⟩ : ∃ V, V = w1.drew := ⟨_, rfl⟩
    have d1 : V.cell? ⟨g, ra * 3, none⟩ = some (.string x) := by rw [hV]; exact hcx
    have d2 : V.cell? ⟨g, rb * 3, none⟩ = some (.string y) := by rw [hV]; exact hcy
    have hOV : Old w1 V := by rw [hV]; exact (Below.refl _ _).drew
    rw [← hN] at hn0 hra1 hrb1 hl10 h0 KA KB hlies ⊢
    have hra2 : (ra : Int) < (N : Int) := by omega
    have hrb2 : (rb : Int) < (N : Int) := by omega
    have hN0 : ¬ (N : Int) = 0 := by omega
    have HN := mkHid hN
    have HV := mkHid hV
    have HOV := mkHid hOV
    have HLIES := mkHid hlies
    have HG := mkHid hg
    have HXN := mkHid hxn
    have HYN := mkHid hyn
    have HXS := mkHid hxs
    have HYS := mkHid hys
    clear KA0 KB0 hra hrb hra1 hrb1 hlies hu huc hrow hrg1 hrg2 hx hy hcx hcy hxn hyn hxs hys hV hOV hN h0 hn0 hl10 hb ho hg
    go_upto_region 4 with (fail)
    refine Rt.wp_region_phases (by kernel_rfl) (by kernel_rfl) [] (by decide) (by decide) (fun _ w9 => w9 = V) (fun _ _ => False) HV.out.symm (fun _ _ _ _ h => h.elim) ?_
    refine Rt.wpP_pure (by rfl) (by rfl) ?_ (fun w9 => ?_) (fun K hK => ?_)
    rotate_left 1
    · go_simp
      refine Rt.upT_value ?_; rfl
    go_simp
    refine hK _ _ ?_
    clear hK K
    refine Rt.wpP_pure (by rfl) (by rfl) ?_ (fun w9 => ?_) (fun K hK => ?_)
    rotate_left 1
    · go_simp
      refine Rt.upT_value ?_; rfl
    go_simp
    refine hK _ _ ?_
    clear hK K
    refine Rt.wpP_pure (by rfl) (by rfl) ?_ (fun w9 => ?_) (fun K hK => ?_)
    rotate_left 1
    · go_simp
      refine Rt.upT_value ?_; rfl
    go_simp
    refine hK _ _ ?_
    clear hK K
    refine Rt.wpP_pure (by rfl) (by rfl) ?_ (fun w9 => ?_) (fun K hK => ?_)
    rotate_left 1
    · go_simp
      refine Rt.upT_value ?_; rfl
    go_simp
    refine hK _ _ ?_
    clear hK K
    refine Rt.wpP_read (by rfl) 0 0 (by kernel_rfl) (by kernel_rfl) (by rfl) (.int .i64 (ra : Int)) (fun k1 hk1 hk2 w9 hk => ?_) (fun K hK => ?_)
    · obtain rfl : w9 = V := hk
      go_simp
      refine Rt.upT_call (v := .int .i64 (ra : Int)) ?_
      go_at_call 9
      refine (KA.out _).mono ?_
      rintro e w8 ⟨rfl, rfl⟩
      exact ⟨rfl, rfl⟩
    go_simp
    refine hK _ _ ?_
    clear hK K
    refine Rt.wpP_pure (by rfl) (by rfl) ?_ (fun w9 => ?_) (fun K hK => ?_)
    rotate_left 1
    · go_simp
      refine Rt.upT_value ?_; rfl
    go_simp
    refine hK _ _ ?_
    clear hK K
    refine Rt.wpP_pure (by rfl) (by rfl) ?_ (fun w9 => ?_) (fun K hK => ?_)
    rotate_left 1
    · go_simp
      refine Rt.upT_value ?_; rfl
    go_simp
    refine hK _ _ ?_
    clear hK K
    refine Rt.wpP_read (by rfl) 0 0 (by kernel_rfl) (by kernel_rfl) (by rfl) (.string x) (fun k1 hk1 hk2 w9 hk => ?_) (fun K hK => ?_)
    · obtain rfl : w9 = V := hk
      go_simp
      refine Rt.upT_value ?_; rfl
    go_simp
    refine hK _ _ ?_
    clear hK K
    refine Rt.wpP_pure (by rfl) (by rfl) ?_ (fun w9 => ?_) (fun K hK => ?_)
    rotate_left 1
    · go_simp
      refine Rt.upT_value ?_; rfl
    go_simp
    refine hK _ _ ?_
    clear hK K
    refine Rt.wpP_pure (by rfl) (by rfl) ?_ (fun w9 => ?_) (fun K hK => ?_)
    rotate_left 1
    · go_simp
      refine Rt.upT_value ?_; rfl
    go_simp
    refine hK _ _ ?_
    clear hK K
    refine Rt.wpP_pure (by rfl) (by rfl) ?_ (fun w9 => ?_) (fun K hK => ?_)
    rotate_left 1
    · go_simp
      refine Rt.upT_value ?_; rfl
    go_simp
    refine hK _ _ ?_
    clear hK K
    refine Rt.wpP_pure (by rfl) (by rfl) ?_ (fun w9 => ?_) (fun K hK => ?_)
    rotate_left 1
    · go_simp
      refine Rt.upT_value ?_; rfl
    go_simp
    refine hK _ _ ?_
    clear hK K
    refine Rt.wpP_read (by rfl) 0 0 (by kernel_rfl) (by kernel_rfl) (by rfl) (.int .i64 (rb : Int)) (fun k1 hk1 hk2 w9 hk => ?_) (fun K hK => ?_)
    · obtain rfl : w9 = V := hk
      go_simp
      refine Rt.upT_call (v := .int .i64 (rb : Int)) ?_
      go_at_call 9
      refine (KB.out _).mono ?_
      rintro e w8 ⟨rfl, rfl⟩
      exact ⟨rfl, rfl⟩
    go_simp
    refine hK _ _ ?_
    clear hK K
    refine Rt.wpP_pure (by rfl) (by rfl) ?_ (fun w9 => ?_) (fun K hK => ?_)
    rotate_left 1
    · go_simp
      refine Rt.upT_value ?_; rfl
    go_simp
    refine hK _ _ ?_
    clear hK K
    refine Rt.wpP_pure (by rfl) (by rfl) ?_ (fun w9 => ?_) (fun K hK => ?_)
    rotate_left 1
    · go_simp
      refine Rt.upT_value ?_; rfl
    go_simp
    refine hK _ _ ?_
    clear hK K
    refine Rt.wpP_read (by rfl) 0 0 (by kernel_rfl) (by kernel_rfl) (by rfl) (.string y) (fun k1 hk1 hk2 w9 hk => ?_) (fun K hK => ?_)
    · obtain rfl : w9 = V := hk
      go_simp
      refine Rt.upT_value ?_; rfl
    go_simp
    refine hK _ _ ?_
    clear hK K
    refine Rt.wpP_pure (by rfl) (by rfl) ?_ (fun w9 => ?_) (fun K hK => ?_)
    rotate_left 1
    · go_simp
      refine Rt.upT_value ?_; rfl
    go_simp
    refine hK _ _ ?_
    clear hK K
    refine Rt.wpP_pure (by rfl) (by rfl) ?_ (fun w9 => ?_) (fun K hK => ?_)
    rotate_left 1
    · go_simp
      refine Rt.upT_value ?_; rfl
    go_simp
    refine hK _ _ ?_
    clear hK K
    refine Rt.wpP_end fun _ w9 hk => ?_
    obtain rfl : w9 = V := hk
    have hl := HLIES.out.old HOV.out
    have hsm := HG.out.small
    have hnd := HG.out.nodup
    obtain ⟨e1, he1⟩ := bool_of (ApartP hs x.data.toList y.data.toList)
    obtain ⟨e2, he2⟩ := bool_of (NeedsPlain.Reach hs x.data.toList y.data.toList ∧ y.data.toList ≠ x.data.toList)
    obtain ⟨e3, he3⟩ := bool_of (NeedsPlain.Reach hs y.data.toList x.data.toList ∧ x.data.toList ≠ y.data.toList)
    have hfour := four HG.out HXN.out HYN.out he1 he2 he3
    have CXY := apart_lit hl hsm hnd HXS.out HYS.out he1
    have CYX := apart_lit hl hsm hnd HYS.out HXS.out (apart_sym.trans he1)
    have CAX : Hid (∀ w', Old w9 w' → Calls Try.prog 14 #[.slice (some ⟨g, 0, none⟩) N uc, .string x] w' (AllP w' hs x.data.toList)) := fun w' h => all_walk w' _ hs (hl.old h) hsm hnd x HXS.out
    have CAY : Hid (∀ w', Old w9 w' → Calls Try.prog 14 #[.slice (some ⟨g, 0, none⟩) N uc, .string y] w' (AllP w' hs y.data.toList)) := fun w' h => all_walk w' _ hs (hl.old h) hsm hnd y HYS.out
    have CT : Hid (∀ w', Old w9 w' → Calls Try.prog 13 #[.slice (some ⟨g, 0, none⟩) N uc] w' (TopsP w' hs)) := fun w' h => tops_walk w' _ hs (hl.old h) hsm
    have HL := mkHid hl
    have HSM := mkHid hsm
    have HE1 := mkHid he1
    have HE2 := mkHid he2
    have HE3 := mkHid he3
    have HFOUR := mkHid hfour
    have OO : Hid (Old w9 w9) := Below.refl _ _
    have hxy := @txt_ne x y
    clear hl hsm hnd he1 he2 he3 hfour
    go_wp2_with (first
      | (go_at_call 15; (with_reducible refine (CXY.out _ OO.out).mono ?_); rintro e w2 ⟨rfl, o2⟩; have O2 := mkHid o2; clear o2)
      | (go_at_call 14; (with_reducible refine (CAX.out _ O2.out).mono ?_); rintro e w3 ⟨v3, out3, rfl, l3, i3, o3⟩; have L3 := mkHid l3; have I3 := mkHid i3; have O3 := mkHid (O2.out.trans (o3.mono O2.out.size)); clear l3 i3 o3)
      | (go_at_call 24; (with_reducible refine (din_walk w3 v3 out3 y L3.out (by have := I3.out.len; have := HSM.out.len; omega)).mono ?_); rintro e w4 ⟨rfl, rfl⟩; have f2 : decide (y.data.toList ∈ out3) = e2 := Bool.eq_iff_iff.2 ((decide_eq_true_iff).trans ((I3.out.2 _).trans HE2.out)); rw [f2]; clear f2)
      | (go_at_call 14; (with_reducible refine (CAY.out _ O3.out).mono ?_); rintro e w5 ⟨v5, out5, rfl, l5, i5, o5⟩; have L5 := mkHid l5; have I5 := mkHid i5; have O5 := mkHid (O3.out.trans (o5.mono O3.out.size)); clear l5 i5 o5)
      | (go_at_call 24; (with_reducible refine (din_walk w5 v5 out5 x L5.out (by have := I5.out.len; have := HSM.out.len; omega)).mono ?_); rintro e w6 ⟨rfl, rfl⟩; have f3 : decide (x.data.toList ∈ out5) = e3 := Bool.eq_iff_iff.2 ((decide_eq_true_iff).trans ((I5.out.2 _).trans HE3.out)); rw [f3]; clear f3))
    obtain ⟨e0, he0⟩ : ∃ e, e = decide (x.data = y.data) := ⟨_, rfl⟩
    rw [← he0]
    have hbs : [e0, e1, e2, e3].count true = 1 := by
      have := HFOUR.out
      rw [show decide (x.data.toList = y.data.toList) = e0 from by rw [he0]; exact decide_eq_decide.2 Array.toList_inj] at this
      exact this
    obtain ⟨bs, hbsd⟩ : ∃ bs, bs = [e0, e1, e2, e3] := ⟨_, rfl⟩
    rw [← hbsd] at hbs
    obtain ⟨wA, hA⟩ : ∃ wA, wA = w6.alloc (.cells #[.bool e0, .bool e1, .bool e2, .bool e3] 4) := ⟨_, rfl⟩
    have hcells : ∀ k, k < 4 → wA.cell? ⟨w6.heap.size, k, none⟩ = some (.bool (bs.getD k false)) := fun k hk => by
      rw [hA, cell_of_row _ _ _ _ 4 (0, 0) (h10 w6 _), hbsd]
      rcases (show k = 0 ∨ k = 1 ∨ k = 2 ∨ k = 3 by omega) with rfl | rfl | rfl | rfl <;> rfl
    have hOA : Old w9 wA := by rw [hA]; exact O5.out.alloc O5.out.size _
    have hbl : bs.length = 4 := by rw [hbsd]; rfl
    rw [← hA]
    obtain ⟨G, hG⟩ : ∃ G, G = w6.heap.size := ⟨_, rfl⟩
    rw [← hG] at hcells ⊢
    have HBS := mkHid hbs
    have HCELLS := mkHid hcells
    have HOA := mkHid hOA
    have HBL := mkHid hbl
    clear hbs hcells hOA hbl hA hG he0 hbsd HFOUR CAX CAY HE2 HE3 L5 I5 L3 I3 O5 O3 O2 hxy
    go_loopw [10, 71] (fun c u wr => ∃ k : Nat, k ≤ 4 ∧ u = .int .i64 (k : Int) ∧ c = .int .i64 (((bs.take k).count true : Nat) : Int) ∧ wr = wA) (fun _ u _ => 4 - (intOf u).toNat)
    case atStart => exact ⟨0, by omega, rfl, rfl, rfl⟩
    case round =>
      obtain ⟨k, hk, rfl, rfl, rfl⟩ := hrel
      by_cases hk4 : k < 4
      · have hc := HCELLS.out k hk4
        have hk4' : (k : Int) < 4 := by omega
        have hwk : wrap64 ((k : Int) + 1) = (k : Int) + 1 := wrap_small (by omega)
        have htk : bs.take (k + 1) = bs.take k ++ [bs.getD k false] := by
          rw [List.take_add_one, List.getD_eq_getElem?_getD, List.getElem?_eq_getElem (by rw [HBL.out]; exact hk4)]; rfl
        obtain ⟨c, hcd⟩ : ∃ c, c = (bs.take k).count true := ⟨_, rfl⟩
        have hcl : c ≤ 4 := by rw [hcd]; exact Nat.le_trans List.count_le_length (by rw [List.length_take]; omega)
        have hwc : wrap64 ((c : Int) + 1) = (c : Int) + 1 := wrap_small (by omega)
        rw [← hcd]
        obtain ⟨b, hb⟩ : ∃ b, b = bs.getD k false := ⟨_, rfl⟩
        rw [← hb] at hc htk
        have HTK := mkHid htk
        have HCD := mkHid hcd
        have HK4 := mkHid hk4
        have HWC := mkHid hwc
        clear htk hcd hb hk4 hcl
        cases b
        · go_wp2
          go_roundw
          case rel => exact ⟨k + 1, by have := HK4.out; omega, rfl, by rw [HTK.out, List.count_append, ← HCD.out]; first | rfl | (rw [HWC.out]; rfl), trivial⟩
          case measure =>
            have := HK4.out
            show 4 - ((k : Int) + 1).toNat < 4 - (k : Int).toNat
            omega
        · go_wp2
          go_roundw
          case rel => exact ⟨k + 1, by have := HK4.out; omega, rfl, by rw [HTK.out, List.count_append, ← HCD.out]; first | rfl | (rw [HWC.out]; rfl), trivial⟩
          case measure =>
            have := HK4.out
            show 4 - ((k : Int) + 1).toNat < 4 - (k : Int).toNat
            omega
      · obtain rfl : k = 4 := by omega
        have hone : (bs.take 4).count true = 1 := by rw [List.take_of_length_le (by rw [HBL.out]; exact Nat.le_refl _)]; exact HBS.out
        rw [hone]
        clear hone hk4 hk HCELLS
        go_wp2_with (first
          | (go_at_call 13; (with_reducible refine (CT.out _ HOA.out).mono ?_); rintro e wT ⟨vt, tops, rfl, lt, pt, mt, ot⟩; have LT := mkHid lt; have PT := mkHid pt; have MT := mkHid mt; have OT := mkHid (HOA.out.trans (ot.mono HOA.out.size)); obtain ⟨tao, tcap, hvt, -⟩ := lt; subst hvt; clear pt mt ot))
        obtain ⟨T, hT⟩ : ∃ T, T = tops.length := ⟨_, rfl⟩
        rw [← hT]
        have HT := mkHid hT
        have hT10 : T ≤ 10 := by
          have h1 := tops_len PT.out MT.out
          have h2 := HG.out.len
          omega
        have HT10 := mkHid hT10
        clear hT hT10
        go_loopw [14, 83] (fun u14 u wr => ∃ i : Nat, i ≤ T ∧ u = .int .i64 (i : Int) ∧ Hid (TpL wT wr hs tops i u14)) (fun _ u _ => T - (intOf u).toNat)
        case atStart => exact ⟨0, by omega, rfl, mkHid ⟨[], World.ownsRow_nil _ _ 9 1, AccOf.nil _ _, Below.refl _ _⟩⟩
        case round =>
          obtain ⟨i, hi, rfl, HS⟩ := hrel
          obtain ⟨wo, hwo⟩ : ∃ wo, wo = wr := ⟨_, rfl⟩
          subst hwo
          by_cases hiT : i < T
          · have hil : i < tops.length := by rw [← HT.out]; exact hiT
            have hOT : Old wT wo := by obtain ⟨_, _, _, h⟩ := HS.out; exact h
            obtain ⟨bt, ot, ct, et, hct, hcell⟩ := (LT.out.old hOT).form (by omega)
            obtain rfl : tao = some ⟨bt, ot, none⟩ := by cases et; rfl
            obtain rfl : ct = tcap := by cases et; rfl
            have hci : wo.cell? ⟨bt, ot + i, none⟩ = some (.string (str (tops.getD i []))) := hcell i hil
            obtain ⟨ts, hts⟩ : ∃ ts, ts = str (tops.getD i []) := ⟨_, rfl⟩
            rw [← hts] at hci
            have htop := tops_at MT.out hil
            have htl : ts.data.toList = tops.getD i [] := str_of' hts
            have hiT' : (i : Int) < (T : Int) := by omega
            have hic : i ≤ ct := by rw [← HT.out] at hct; omega
            have hwi : wrap64 ((i : Int) + 1) = (i : Int) + 1 := wrap_small (by have := HT10.out; omega)
            have HIL := mkHid hil
            have HOT := mkHid hOT
            have HTOP := mkHid htop
            have HTL := mkHid htl
            have HTS := mkHid hts
            have HII := mkHid hiT
            have HWI := mkHid hwi
            clear hil hOT et hct hcell htop htl hts hwi hiT
            go_wp2
            go_loopw [92] (fun u wz => ∃ j : Nat, j ≤ i ∧ u = .int .i64 (j : Int) ∧ Hid (Old wo wz)) (fun u _ => i - (intOf u).toNat)
            case atStart => exact ⟨0, by omega, rfl, mkHid (Below.refl _ _)⟩
            case round =>
              obtain ⟨j, hj, rfl, HZ⟩ := hrel
              by_cases hji : j < i
              · have hjl : j < tops.length := by have := HIL.out; omega
                obtain ⟨b2, o2, c2, e2, _, hcell2⟩ := (LT.out.old HOT.out).form (by omega)
                have hb2 : b2 = bt ∧ o2 = ot := by cases e2; exact ⟨rfl, rfl⟩
                obtain ⟨rfl, rfl⟩ := hb2
                have hcj : wr.cell? ⟨b2, o2 + j, none⟩ = some (.string (str (tops.getD j []))) := cell_old HZ.out (hcell2 j hjl)
                obtain ⟨us, hus⟩ : ∃ us, us = str (tops.getD j []) := ⟨_, rfl⟩
                rw [← hus] at hcj
                have htj := tops_at MT.out hjl
                have CTU : Hid (∀ w', Old w9 w' → Calls Try.prog 15 #[.slice (some ⟨g, 0, none⟩) N uc, .string ts, .string us] w' fun e w'' => e = .returned (.bool true) ∧ Old w' w'') :=
                  apart_lit HL.out HSM.out HG.out.nodup (by rw [HTS.out]; exact name_size HSM.out HTOP.out.1) (by rw [hus]; exact name_size HSM.out htj.1) (iff_of_true (by rw [HTL.out, str_of' hus]; exact tops_apart HTOP.out htj (tops_ne PT.out hji HIL.out)) rfl)
                have hji' : (j : Int) < (i : Int) := by omega
                have hwj : wrap64 ((j : Int) + 1) = (j : Int) + 1 := wrap_small (by have := HT10.out; have := HII.out; omega)
                have HOZ : Hid (Old w9 wr) := (OT.out.trans (HOT.out.mono OT.out.size)).trans (HZ.out.mono (Nat.le_trans OT.out.size HOT.out.size))
                have HJI := mkHid hji
                have HWJ := mkHid hwj
                clear hwj hjl e2 hcell2 hus htj hji
                go_wp2_with (first
                  | (go_at_call 15; (with_reducible refine (CTU.out _ HOZ.out).mono ?_); rintro e w7 ⟨rfl, o7⟩; have O7 := mkHid o7; clear o7))
                go_roundw
                case rel => exact ⟨j + 1, Nat.succ_le_of_lt HJI.out, by rw [HWJ.out]; rfl, HZ.out.trans (O7.out.mono HZ.out.size)⟩
                case measure => rw [HWJ.out]; exact meas HJI.out
              · have hij : (i : Int) ≤ (j : Int) := by omega
                have hS := HS.out.old HZ.out
                obtain ⟨acc, p1, p2, p3⟩ := hS
                obtain ⟨ao14, c14, hu14⟩ : ∃ ao c, u14 = .slice ao acc.length c := own_shape p1
                subst hu14
                have HP1 := mkHid p1
                have HP2 := mkHid p2
                have HP3 := mkHid p3
                have hsz := p3.size
                have HSZ := mkHid hsz
                have HACC : Hid (acc.length ≤ 1001000) := by
                  show _ ≤ _
                  have h1 := p2.2
                  have h2 := HT10.out
                  have h3 := HII.out
                  have h4 : i * 1001 ≤ 1000 * 1001 := Nat.mul_le_mul_right _ (by omega)
                  omega
                have CALL : Hid (∀ w', Old w9 w' → Calls Try.prog 14 #[.slice (some ⟨g, 0, none⟩) N uc, .string ts] w' (AllP w' hs ts.data.toList)) := fun w' h => all_walk w' _ hs (HL.out.old h) HSM.out HG.out.nodup ts (by rw [HTS.out]; exact name_size HSM.out HTOP.out.1)
                have HT9 : Hid (Old w9 wT) := OT.out
                have KA1 : Hid (∀ (ops : Array Oper) (rest : List Oper) (o : Oper) (a : Act) (Q : Exit → Act → World → Prop), o.guard = none → o.op = .call { callee := .builtin .append, args := #[.tmp 102, .tmp 104], argTypes := #[22, 22] } →
                    a.eval (.tmp 102) = .slice ao14 acc.length c14 → a.eval (.tmp 104) = .slice (some ⟨wr.heap.size, 0, none⟩) 1 1 →
                    (∀ v' w', Hid (w'.ownsRow wT.heap.size 9 1 v' (acc.length + 1) ((acc ++ [ts.data.toList]).map encStr)) → Hid (Old wT w') → wpList Try.prog ops Q rest (a.put o.dst v') w') →
                    wpList Try.prog ops Q (o :: rest) a (wr.alloc (.cells #[.string ts] 9))) := by
                  intro ops rest o a Q g1 g2 g3 g4 g5
                  have hO1 : Old wr (wr.alloc (.cells #[.string ts] 9)) := old1 _ _
                  refine wpList_appS g1 (.tmp 102) (.tmp 104) g2 wT.heap.size _ acc.length acc g3 (own_at HP1.out fun k hk => hO1.block k (HP1.out.lt k hk).2) _ [ts.data.toList] g4 (lies_one wr ts) (by have := HACC.out; simp; omega) (by have := HSZ.out; simp; omega) ?_
                  intro v' w' q1 q2 _
                  exact g5 v' w' q1 ((HP3.out.trans (hO1.mono HP3.out.size)).trans q2)
                have KA2 : Hid (∀ (v1 : Value) (w1 : World) (u : Value) (out : List Txt) (ops : Array Oper) (rest : List Oper) (o : Oper) (a : Act) (Q : Exit → Act → World → Prop), w1.ownsRow wT.heap.size 9 1 v1 (acc.length + 1) ((acc ++ [ts.data.toList]).map encStr) → LiesS w1 u out → IsAll hs ts.data.toList out → Old wT w1 →
                    o.guard = none → o.op = .call { callee := .builtin .append, args := #[.tmp 105, .tmp 108], argTypes := #[22, 22] } → a.eval (.tmp 105) = v1 → a.eval (.tmp 108) = u →
                    (∀ v' w', Hid (TpL wT w' hs tops (i + 1) v') → wpList Try.prog ops Q rest (a.put o.dst v') w') → wpList Try.prog ops Q (o :: rest) a w1) := by
                  intro v1 w1 u out ops rest o a Q s1 s2 s3 s4 g1 g2 g3 g4 g5
                  have hol := Nat.le_trans s3.len HSM.out.len
                  refine wpList_appS g1 (.tmp 105) (.tmp 108) g2 wT.heap.size _ (acc.length + 1) (acc ++ [ts.data.toList]) g3 s1 _ out g4 s2 (by have := HACC.out; omega) s4.size ?_
                  intro v' w' q1 q2 _
                  refine g5 v' w' (mkHid ⟨(acc ++ [ts.data.toList]) ++ out, ?_, ?_, s4.trans q2⟩)
                  · have e : ((acc ++ [ts.data.toList]) ++ out).length = acc.length + 1 + out.length := by rw [List.length_append, List.length_append, List.length_singleton]
                    rw [e]; exact q1
                  · rw [HTL.out] at s3 ⊢
                    exact HP2.out.put s3 hol
                clear p1 p2 p3 hsz HS
                go_wp2_with (first
                  | ((with_reducible refine at_op (.call { callee := .builtin .append, args := #[.tmp 102, .tmp 104], argTypes := #[22, 22] }) ?_)
                     refine KA1.out _ _ _ _ _ rfl rfl rfl rfl (fun v4 w4 P4 O4 => ?_))
                  | (go_at_call 14; (with_reducible refine (CALL.out _ (HT9.out.trans (O4.out.mono HT9.out.size))).mono ?_); rintro e w8 ⟨v8, out8, rfl, l8, i8, o8⟩; have L8 := mkHid l8; have I8 := mkHid i8; have O8 := mkHid o8; clear l8 i8 o8)
                  | ((with_reducible refine at_op (.call { callee := .builtin .append, args := #[.tmp 105, .tmp 108], argTypes := #[22, 22] }) ?_)
                     refine KA2.out _ _ _ _ _ _ _ _ _ (own_at P4.out fun k hk => O8.out.block k (P4.out.lt k hk).2) L8.out I8.out (O4.out.trans (O8.out.mono O4.out.size)) rfl rfl rfl rfl (fun v6 w6 T6 => ?_)))
                go_roundw
                case rel => exact ⟨i + 1, Nat.succ_le_of_lt HII.out, by rw [HWI.out]; rfl, T6⟩
                case measure => rw [HWI.out]; exact meas HII.out
          · obtain rfl : i = T := by omega
            obtain ⟨acc, p1, p2, p3⟩ := HS.out
            have hacc : acc.length ≤ 1000000 := by
              have h1 := p2.2
              have h2 := HT10.out
              have h4 : i * 1001 ≤ 10 * 1001 := Nat.mul_le_mul_right _ h2
              omega
            have CSET : Hid (∀ w', Old wo w' → Calls Try.prog 18 #[u14] w' (SetP w' acc)) := fun w' h => set_walk w' u14 acc ((lies_own rfl p1).old h) hacc
            have HP2 := mkHid p2
            have HO3 : Hid (Old w9 wo) := OT.out.trans (p3.mono OT.out.size)
            have OZ : Hid (Old wo wo) := Below.refl _ _
            have hN2 : N = hs.length := HN.out
            have HWH : Hid (∀ out, SetOf out acc → (out.length : Int) = (N : Int)) := fun out h => by
              have h2 := HP2.out
              rw [HT.out] at h2
              have := h2.whole HG.out MT.out h.1 h.2.1
              rw [hN2, this]
            have HFIN : Hid (Old w wo) := (HO.out.trans (HOV.out.mono HO.out.size)).trans (HO3.out.mono (Nat.le_trans HO.out.size HOV.out.size))
            clear p1 p2 p3 HS hi hiT hacc hN2
            go_wp2_with (first
              | (go_at_call 15; (with_reducible refine (CXY.out _ HO3.out).mono ?_); rintro e wa ⟨rfl, oa⟩; have OA := mkHid (OZ.out.trans (oa.mono OZ.out.size)); clear oa)
              | (go_at_call 15; (with_reducible refine (CYX.out _ (HO3.out.trans (OA.out.mono HO3.out.size))).mono ?_); rintro e wb ⟨rfl, ob⟩; have OB := mkHid (OA.out.trans (ob.mono OA.out.size)); clear ob)
              | (go_at_call 18; (with_reducible refine (CSET.out _ OB.out).mono ?_); rintro e wc ⟨uc, outc, rfl, lc, sc, oc⟩; have OC := mkHid (OB.out.trans (oc.mono OB.out.size)); have hlen := HWH.out _ sc; obtain ⟨aoc, capc, huc, -⟩ := lc; subst huc; clear oc sc)
              | (go_at_call 16; (with_reducible refine (WK.out _).mono ?_); rintro e wd ⟨rfl, od⟩; have OD := mkHid (OC.out.trans (od.mono OC.out.size)); clear od))
            go_ret
            exact ⟨rfl, HFIN.out.trans (OD.out.mono HFIN.out.size)⟩
end Go.Proofs.Ytcogeebfldlpoaa
