/-
  The document's Seal and Open walked.
-/
import Derived.Test.YtnldjcjhhenppaaTa
import Derived.Deep.RegionHeld3
set_option linter.unusedSimpArgs false
set_option linter.unusedVariables false
namespace Go.Proofs.Ytnldjcjhhenppaa
open Go.RowKit

theorem adler_hid (bs : List Nat) (S : Nat) (hS : S = sumOf bs) (hs : Small bs) (hl : bs.length ≤ 281474976710656) : Hid (∀ w v, Lies w v bs → Calls Try.prog 16 #[v] w fun e w' => e = .returned (.int .i64 (S : Nat)) ∧ w' = w) := by
  subst hS
  exact fun w v h => adler_walk w v bs h hs hl

set_option maxRecDepth 100000 in
set_option maxHeartbeats 4000000 in
theorem rseal_walk (w : World) (v : Value) (bs : List Nat) (hv : Lies w v bs) (hs : Small bs) (hl : bs.length ≤ 140737488390000) :
    Calls Try.prog 17 #[v] w fun e w' => ∃ v', e = .returned v' ∧ w'.ownsRow w.heap.size 5 1 v' (sealL bs).length ((sealL bs).map byteV) ∧ Below w.heap.size w w' := by
  obtain ⟨n, hn⟩ : ∃ n, n = bs.length := ⟨_, rfl⟩
  obtain ⟨vo, vc, rfl, hv1, _⟩ := hv.form n hn
  obtain ⟨S, hS⟩ : ∃ S, S = sumOf bs := ⟨_, rfl⟩
  have hSl : S < 4294967296 := by rw [hS]; exact sumOf_lt _
  have k1 := adler_hid bs S hS hs (by omega)
  have HS := mkHid hS
  have HV := mkHid hv1
  have HN := mkHid hn
  have HL := mkHid hl
  clear hS hv hv1 hn hs hl
  go_enter Try.func17, Try.ntmps17
  go_upto_region 2 with (first
    | (go_at_call 16; (with_reducible refine (k1.out _ _ HV.out).mono ?_); rintro e w1 ⟨rfl, rfl⟩))
  have hown : Hid ((w1.alloc (.cells #[.int .u8 ((S : Int) / 16777216), .int .u8 ((S : Int) / 65536 % 256), .int .u8 ((S : Int) / 256 % 256), .int .u8 ((S : Int) % 256)] 5)).ownsRow w1.heap.size 5 1 (.slice (some ⟨w1.heap.size, 0, none⟩) 4 4) 4 ([S / 16777216, S / 65536 % 256, S / 256 % 256, S % 256].map byteV)) :=
    ⟨rfl, .inr ⟨_, _, _, rfl, Nat.le_refl _, heap_alloc_new w1 _, Nat.le_refl _, by unfold maxLen; omega, rfl, rfl⟩⟩
  have hb1 : Hid (Below w1.heap.size w1 (w1.alloc (.cells #[.int .u8 ((S : Int) / 16777216), .int .u8 ((S : Int) / 65536 % 256), .int .u8 ((S : Int) / 256 % 256), .int .u8 ((S : Int) % 256)] 5))) := (Below.refl _ w1).alloc (Nat.le_refl _) _
  go_wp2_with (at_builtin; refine wpList_appL rfl (.tmp 17) (.tmp 18) rfl w1.heap.size _ _ _ rfl hown.out _ bs rfl (HV.out.old hb1.out) (by have := HL.out; omega) hb1.out.size ?_; intro v7 w7 q7 b7 g7)
  go_ret
  refine ⟨v7, rfl, ?_, hb1.out.trans b7⟩
  have e1 : (sealL bs).length = 4 + bs.length := seal_len bs
  have e2 : (sealL bs).map byteV = [S / 16777216, S / 65536 % 256, S / 256 % 256, S % 256].map byteV ++ bs.map byteV := by rw [HS.out]; rfl
  rw [e1, e2]
  exact q7

theorem rseal_hid (bs : List Nat) (m : Nat) (hm : m = (sealL bs).length) (hs : Small bs) (hl : bs.length ≤ 140737488390000) :
    Hid (∀ w v, Lies w v bs → Calls Try.prog 17 #[v] w fun e w' => ∃ g cap, e = .returned (.slice (some ⟨g, 0, none⟩) m cap) ∧ w'.ownsRow w.heap.size 5 1 (.slice (some ⟨g, 0, none⟩) m cap) m ((sealL bs).map byteV) ∧ m ≤ cap ∧ w.heap.size ≤ g ∧ Below w.heap.size w w') := by
  intro w v hv
  subst hm
  refine (rseal_walk w v bs hv hs hl).mono ?_
  rintro e w' ⟨v', rfl, ho, hb⟩
  have ho' := ho
  rcases ho.2 with ⟨rfl, h⟩ | ⟨g, cap, cur, rfl, hg, _, hc, _⟩
  · have := seal_len bs; omega
  · exact ⟨g, cap, rfl, ho', hc, hg, hb⟩

theorem num_small (l : List Nat) (hl : l.length = 4) (hs : Small l) : l = [num l / 16777216, num l / 65536 % 256, num l / 256 % 256, num l % 256] := by
  match l, hl with
  | [a, b, c, d], _ =>
    have ha := hs a (by simp)
    have hb := hs b (by simp)
    have hc := hs c (by simp)
    have hd := hs d (by simp)
    rw [num_lit]
    congr 1
    · omega
    · congr 1
      · omega
      · congr 1
        · omega
        · congr 1
          omega

theorem seal_iff (bs : List Nat) (hs : Small bs) (h4 : 4 ≤ bs.length) : opens bs = decide (sealL (bs.drop 4) = bs) := by
  unfold opens
  rw [decide_eq_decide]
  constructor
  · rintro ⟨_, h⟩
    have e := num_small (bs.take 4) (by rw [List.length_take]; omega) (small_take hs 4)
    rw [← h] at e
    unfold sealL
    rw [← e, List.take_append_drop]
  · intro h
    refine ⟨h4, ?_⟩
    have e := num_seal (sumOf (bs.drop 4))
    rw [← e]
    congr 1
    have h2 := congrArg (List.take 4) h
    rw [seal_take] at h2
    exact h2

set_option maxRecDepth 100000 in
set_option maxHeartbeats 4000000 in
theorem ropen_walk (w : World) (v : Value) (bs : List Nat) (hv : Lies w v bs) (hs : Small bs) (hl : bs.length ≤ 140737488390000) :
    Calls Try.prog 19 #[v] w fun e w' => ∃ v', e = .returned (.tuple #[v', .bool (opens bs)]) ∧ w'.ownsRow w.heap.size 5 1 v' (openL bs).length ((openL bs).map byteV) ∧ Below w.heap.size w w' := by
  by_cases h4 : bs.length < 4
  · obtain ⟨e, e2⟩ := opens_short bs h4
    rw [e, e2]
    obtain ⟨ao, cap, rfl, _⟩ := hv
    have d1 : (bs.length : Int) < 4 := by omega
    clear e e2
    go_enter Try.func19, Try.ntmps19
    go_wp2
    go_quiet (fail)
    go_wp2
    go_ret2
    exact ⟨_, rfl, World.ownsRow_nil _ _ _ _, (below_drewN _ _)⟩
  · obtain ⟨ad, cap, rfl, hc⟩ := hv.at (by omega)
    have hcap : bs.length ≤ cap := by obtain ⟨_, _, h1, h2, _⟩ := hv; cases h1; exact h2
    have hd := hv.drop (by omega)
    have k1 := rseal_hid (bs.drop 4) bs.length (by rw [seal_len, List.length_drop]; omega) (small_drop hs 4) (by rw [List.length_drop]; omega)
    obtain ⟨s1, hs1⟩ : ∃ s1, s1 = strB (sealL (bs.drop 4)) := ⟨_, rfl⟩
    obtain ⟨s2, hs2⟩ : ∃ s2, s2 = strB bs := ⟨_, rfl⟩
    have hop : opens bs = decide (s1 = s2) := by
      rw [seal_iff bs hs (by omega)]
      by_cases h : sealL (bs.drop 4) = bs
      · rw [hs1, hs2, h]; simp
      · have : s1 ≠ s2 := fun e => h (strB_inj (seal_small (small_drop hs 4)) hs (by rw [← hs1, ← hs2]; exact e))
        simp [this, h]
    have hcv : (convert 22 9 (.slice (some ad) bs.length cap)).run Try.prog w = .ok (.string s2) w := by rw [hs2]; exact conv_str hv
    have HCV : Hid (∀ w', Below w.heap.size w w' → (convert 22 9 (.slice (some ad) bs.length cap)).run Try.prog w' = .ok (.string s2) w') := fun w' hb => by rw [hs2]; exact conv_str (hv.old hb)
    have HC1 : Hid (∀ w' B g cp, w'.ownsRow B 5 1 (.slice (some ⟨g, 0, none⟩) bs.length cp) bs.length ((sealL (bs.drop 4)).map byteV) → (convert 22 9 (.slice (some ⟨g, 0, none⟩) bs.length cp)).run Try.prog w' = .ok (.string s1) w') := fun w' B g cp ho => by
      rw [hs1]
      refine conv_str (lies_n ?_ ho)
      rw [seal_len, List.length_drop]; omega
    have HD := mkHid hd
    have HV := mkHid hv
    have HL := mkHid hl
    have hol : Hid (openL bs = if s1 = s2 then bs.drop 4 else []) := by show _ = _; unfold openL; rw [hop]; simp
    rw [hop, hol.out]
    obtain ⟨n, hn⟩ : ∃ n, n = bs.length := ⟨_, rfl⟩
    rw [← hn] at hcap HD hl h4 k1 HCV HC1 hcv HL ⊢
    have HN := mkHid hn
    have hn4 : (4 : Int) ≤ n := by omega
    have hnc : (n : Int) ≤ cap := by omega
    have d4 : decide ((n : Int) < 4) = false := by simp; omega
    have HW : Hid (Below w.heap.size w w.drew) := ⟨rfl, rfl, rfl, Nat.le_refl _, fun _ _ => rfl⟩
    clear hn hd hc hv hs1 hs2 hol hop hs HV
    obtain ⟨sd, hsd⟩ : ∃ sd, sd = (Value.slice (if cap = 4 then some ad else some ⟨ad.block, ad.off + 4, none⟩) (n - 4) (cap - 4)) := ⟨_, rfl⟩
    rw [← hsd] at HD
    have HSD := mkHid hsd
    have hcd : (convert 22 9 (.slice (some ad) n cap)).run Try.prog w.drew = .ok (.string s2) w.drew := HCV.out _ HW.out
    clear hcv hsd
    obtain ⟨t, ht⟩ : ∃ t, t = (!(s1.toList == s2.toList)) := ⟨_, rfl⟩
    have HT := mkHid ht
    have HT2 : Hid (t = true ↔ s1 ≠ s2) := by
      show _ ↔ _
      rw [ht]
      by_cases hq : s1 = s2
      · rw [hq]; simp
      · have hne : s1.toList ≠ s2.toList := fun e => hq (by
          rw [ByteArray.toList_eq, ByteArray.toList_eq] at e
          exact ByteArray.ext (Array.toList_inj.1 e))
        simp [hne, hq]
    clear ht
    go_enter Try.func19, Try.ntmps19
    go_wp2
    go_cut [15] (fun r wx => r = .bool t ∧ Hid (Below w.heap.size w wx))
    case first =>
      by_cases hc4 : cap = 4
      · have hn5 : n = 4 := by omega
        subst hc4
        subst hn5
        have HD2 : Hid (Lies w (.slice (some ad) 0 0) (bs.drop 4)) := by have h := HD.out; rw [HSD.out] at h; exact h
        go_region_with (first
          | (go_at_call 17; (with_reducible refine (k1.out _ _ ?_).mono ?_); (exact HD2.out.old HW.out); rintro e w2 ⟨g2, c2, rfl, o2, hc2, hg2, b2⟩; have e2 := HC1.out _ _ _ _ o2; have e3 := HCV.out _ (HW.out.trans b2); have B2 := mkHid (HW.out.trans b2); clear o2 b2 hcd))
        all_goals go_wp2
        all_goals
          go_meet
          case rel => exact ⟨congrArg Value.bool HT.out.symm, B2.out⟩
      · have HD2 : Hid (Lies w (.slice (some ⟨ad.block, ad.off + 4, none⟩) (n - 4) (cap - 4)) (bs.drop 4)) := by have h := HD.out; rw [HSD.out, if_neg hc4] at h; exact h
        go_region_with (first
          | (go_at_call 17; (with_reducible refine (k1.out _ _ ?_).mono ?_); (exact HD2.out.old HW.out); rintro e w2 ⟨g2, c2, rfl, o2, hc2, hg2, b2⟩; have e2 := HC1.out _ _ _ _ o2; have e3 := HCV.out _ (HW.out.trans b2); have B2 := mkHid (HW.out.trans b2); clear o2 b2 hcd))
        all_goals go_wp2
        all_goals
          go_meet
          case rel => exact ⟨congrArg Value.bool HT.out.symm, B2.out⟩
    case rest =>
      obtain ⟨rfl, HB⟩ := hcut
      clear hcd k1
      cases t
      · have HQ : Hid (s1 = s2) := Classical.byContradiction fun h => absurd (HT2.out.2 h) (by decide)
        have D2 := mkHid (HD.out.old HB.out)
        have hnil : Hid (wc.ownsRow w.heap.size 5 1 (.slice none 0 0) 0 []) := World.ownsRow_nil _ _ _ _
        have hlen : Hid (0 + (bs.drop 4).length ≤ 140737488400000) := by show _ ≤ _; rw [List.length_drop]; have := HN.out; have := HL.out; omega
        have hB := HB.out.size
        clear HW
        by_cases hc4 : cap = 4
        · have hn5 : n = 4 := by omega
          subst hc4
          subst hn5
          have D3 : Hid (Lies wc (.slice (some ad) 0 0) (bs.drop 4)) := by have h := D2.out; rw [HSD.out] at h; exact h
          go_wp2_with (at_builtin; refine wpList_appL rfl (.const (.slice none 0 0)) (.tmp 17) rfl _ _ _ _ rfl hnil.out _ (bs.drop 4) rfl D3.out hlen.out hB ?_; intro v7 w7 q7 b7 g7)
          go_ret2
          first | rw [if_pos HQ.out, decide_eq_true HQ.out] | skip
          exact ⟨_, rfl, by simpa using q7, HB.out.trans b7⟩
        · have D3 : Hid (Lies wc (.slice (some ⟨ad.block, ad.off + 4, none⟩) (n - 4) (cap - 4)) (bs.drop 4)) := by have h := D2.out; rw [HSD.out, if_neg hc4] at h; exact h
          go_wp2_with (at_builtin; refine wpList_appL rfl (.const (.slice none 0 0)) (.tmp 17) rfl _ _ _ _ rfl hnil.out _ (bs.drop 4) rfl D3.out hlen.out hB ?_; intro v7 w7 q7 b7 g7)
          go_ret2
          first | rw [if_pos HQ.out, decide_eq_true HQ.out] | skip
          exact ⟨_, rfl, by simpa using q7, HB.out.trans b7⟩
      · have HQ : Hid (s1 ≠ s2) := HT2.out.1 rfl
        go_wp2
        go_ret2
        first | rw [if_neg HQ.out, decide_eq_false HQ.out] | skip
        exact ⟨_, rfl, World.ownsRow_nil _ _ _ _, HB.out⟩

end Go.Proofs.Ytnldjcjhhenppaa
