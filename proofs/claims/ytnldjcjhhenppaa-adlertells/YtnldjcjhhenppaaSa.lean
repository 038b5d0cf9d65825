/-
  Same, where it is asked in a region that only reads; AdlerSeals: the law's walk.
-/
import Derived.Test.YtnldjcjhhenppaaFb
set_option linter.unusedSimpArgs false
set_option linter.unusedVariables false
namespace Go.Proofs.Ytnldjcjhhenppaa
open Go.RowKit

set_option maxHeartbeats 1000000 in
theorem same_still (w : World) (u v : Value) (xs : List Nat) (hu : Lies w u xs) (hv : Lies w v xs) (hl : xs.length ≤ 281474976710656) :
    Calls Try.prog 12 #[u, v] w fun e w' => e = .returned (.bool true) ∧ ∃ m, w' = w.drewN m := by
  by_cases h0 : xs.length = 0
  · obtain ⟨ao, cap, rfl, _⟩ := hu
    obtain ⟨bo, cap', rfl, _⟩ := hv
    have e1 : xs = [] := List.length_eq_zero_iff.1 h0
    subst e1
    go_enter Try.func12, Try.ntmps12
    go_wp2
    refine wp_loop_rounds 1 ?_
    rw [rounds_succ]
    go_wp2
    go_ret
    exact ⟨rfl, 0, rfl⟩
  obtain ⟨a, ca, rfl, hca⟩ := hu.at (by omega)
  obtain ⟨b, cb, rfl, hcb⟩ := hv.at (by omega)
  obtain ⟨n, hn⟩ : ∃ n, n = xs.length := ⟨_, rfl⟩
  rw [← hn] at hca hcb hl h0 ⊢
  clear hn hu hv
  go_enter Try.func12, Try.ntmps12
  go_wp2
  go_loopw [5] (fun i wr => ∃ k : Nat, k ≤ n ∧ i = .int .i64 k ∧ ∃ m, wr = w.drewN m) (fun i _ => n - (intOf i).toNat)
  case atStart => exact ⟨0, by omega, rfl, 0, rfl⟩
  case round =>
    obtain ⟨k, hk, rfl, m, hwr⟩ := hrel
    by_cases hkn : k < n
    · have ha' : wr.cell? (a.add k) = some (.int .u8 (xs.getD k 0 : Nat)) := by rw [hwr]; exact hca k hkn
      have hb' : wr.cell? (b.add k) = some (.int .u8 (xs.getD k 0 : Nat)) := by rw [hwr]; exact hcb k hkn
      have HW := mkHid hwr
      clear hwr
      obtain ⟨x, hx⟩ : ∃ x, x = xs.getD k 0 := ⟨_, rfl⟩
      rw [← hx] at ha' hb'
      have HX : Hid (x = xs.getD k 0) := hx
      clear hx hca hcb
      have hne : ((x : Int) != (x : Int)) = false := by simp
      go_wp2
      go_quiet (fail)
      go_wp2
      go_roundw
      case rel =>
        exact ⟨k + 1, by omega, by go_num, _, by rw [HW.out, World.drewN_drewN]⟩
      case measure => simp [intOf]; omega
    · have hkk : k = n := by omega
      subst hkk
      go_wp2
      go_ret
      exact ⟨rfl, m, rfl⟩

theorem at_own {w : World} {B g m cap k a : Nat} {L : List Nat} (h : w.ownsRow B 5 1 (.slice (some ⟨g, 0, none⟩) m cap) m (L.map byteV)) (hm : m = L.length) (hk : k < m) (ha : a = L.getD k 0) : w.cell? ⟨g, k, none⟩ = some (.int .u8 (a : Int)) := by
  have hk2 : k < L.length := by omega
  rw [h.cellAt k (by omega), List.getElem?_map, List.getElem?_eq_getElem hk2, ha, List.getD_eq_getElem?_getD, List.getElem?_eq_getElem hk2]
  rfl

/-- Seal, its row told outright. -/
theorem seal_own_hid (bs : List Nat) (m : Nat) (hm : m = (sealL bs).length) (hs : Small bs) (hl : bs.length ≤ 140737488390000) :
    Hid (∀ w v, Lies w v bs → Calls Try.prog 11 #[v] w fun e w' => ∃ g cap, e = .returned (.slice (some ⟨g, 0, none⟩) m cap) ∧ w'.ownsRow w.heap.size 5 1 (.slice (some ⟨g, 0, none⟩) m cap) m ((sealL bs).map byteV) ∧ m ≤ cap ∧ Below w.heap.size w w') := by
  intro w v hv
  subst hm
  refine (seal_walk w v bs hv hs hl).mono ?_
  rintro e w' ⟨v', rfl, ho, hb⟩
  have ho' := ho
  rcases ho.2 with ⟨rfl, h⟩ | ⟨g, cap, cur, rfl, hg, _, hc, _⟩
  · have := seal_len bs; omega
  · exact ⟨g, cap, rfl, ho', hc, hb⟩

theorem or_24 (a b : Nat) (ha : a < 256) (hb : b < 256) : bits .or .i64 ((a : Int) * 16777216) ((b : Int) * 65536) = ((a * 16777216 + b * 65536 : Nat) : Int) := by
  have h := i64_or_nat (a * 16777216) (b * 65536) (by omega) (by omega)
  have e := Nat.two_pow_add_eq_or_of_lt (i := 24) (b := b * 65536) (by omega) a
  rw [show 2 ^ 24 * a = a * 16777216 by omega] at e
  rw [e]
  exact h

theorem or_16b (a c : Nat) (ha : a < 65536) (hc : c < 256) : bits .or .i64 ((a : Int) * 65536) ((c : Int) * 256) = ((a * 65536 + c * 256 : Nat) : Int) := by
  have h := i64_or_nat (a * 65536) (c * 256) (by omega) (by omega)
  have e := Nat.two_pow_add_eq_or_of_lt (i := 16) (b := c * 256) (by omega) a
  rw [show 2 ^ 16 * a = a * 65536 by omega] at e
  rw [e]
  exact h

theorem ors (a b c d S : Nat) (ha : a < 256) (hb : b < 256) (hc : c < 256) (hd : d < 256) (hS : S = ((a * 256 + b) * 256 + c) * 256 + d) :
    bits .or .i64 (bits .or .i64 (bits .or .i64 ((a : Int) * 16777216) ((b : Int) * 65536)) ((c : Int) * 256)) (d : Int) = (S : Int) := by
  have e1 := or_16b (a * 256 + b) c (by omega) hc
  have e2 := or_8 ((a * 256 + b) * 256 + c) d (by omega) hd
  rw [or_24 a b ha hb, show a * 16777216 + b * 65536 = (a * 256 + b) * 65536 by omega]
  have e3 : bits .or .i64 (((a * 256 + b) * 65536 : Nat) : Int) ((c : Int) * 256) = ((((a * 256 + b) * 256 + c) * 256 : Nat) : Int) := by
    rw [show ((a * 256 + b) * 256 + c) * 256 = (a * 256 + b) * 65536 + c * 256 by omega]
    exact e1
  rw [e3, hS]
  exact e2

theorem opens_short (l : List Nat) (h : l.length < 4) : opens l = false ∧ openL l = [] := by
  have e : opens l = false := by
    unfold opens
    rw [decide_eq_false_iff_not]
    omega
  exact ⟨e, by unfold openL; rw [e]; rfl⟩

theorem small_take {bs : List Nat} (h : Small bs) (k : Nat) : Small (bs.take k) := fun b hb => h b (List.mem_of_mem_take hb)

set_option maxRecDepth 100000 in
set_option maxHeartbeats 4000000 in
theorem seals_law (w : World) (v : Value) (bs : List Nat) (cut : Int) (hv : Lies w v bs) (hs : Small bs) (hl : bs.length ≤ 140737488351232) :
    Calls Try.prog 4 #[v, .int .i64 cut] w fun e w' => e = .returned (.bool true) ∧ Below w.heap.size w w' := by
  obtain ⟨n, hn⟩ : ∃ n, n = bs.length := ⟨_, rfl⟩
  obtain ⟨m, hm⟩ : ∃ m, m = (sealL bs).length := ⟨_, rfl⟩
  have hmn : m = n + 4 := by rw [hm, seal_len, hn]; omega
  obtain ⟨S, hS⟩ : ∃ S, S = sumOf bs := ⟨_, rfl⟩
  have hSl : S < 4294967296 := by rw [hS]; exact sumOf_lt _
  obtain ⟨vo, vc, rfl, hv1, _⟩ := hv.form n hn
  obtain ⟨k, hk, kin⟩ := within_nat cut 4 (by omega) (by omega)
  have kin' : Hid (∀ w, Calls Try.prog 14 #[.int .i64 cut, .int .i64 4] w fun e w' => e = .returned (.int .i64 (k : Int)) ∧ w' = w) := kin
  clear kin
  obtain ⟨a, ha⟩ : ∃ a, a = (sealL bs).getD 0 0 := ⟨_, rfl⟩
  obtain ⟨b, hb⟩ : ∃ b, b = (sealL bs).getD 1 0 := ⟨_, rfl⟩
  obtain ⟨c, hc⟩ : ∃ c, c = (sealL bs).getD 2 0 := ⟨_, rfl⟩
  obtain ⟨d, hd⟩ : ∃ d, d = (sealL bs).getD 3 0 := ⟨_, rfl⟩
  have ha2 : a < 256 := by rw [ha]; exact small_at (seal_small hs) _
  have hb2 : b < 256 := by rw [hb]; exact small_at (seal_small hs) _
  have hc2 : c < 256 := by rw [hc]; exact small_at (seal_small hs) _
  have hd2 : d < 256 := by rw [hd]; exact small_at (seal_small hs) _
  have hsum : S = ((a * 256 + b) * 256 + c) * 256 + d := by
    have := num_seal (sumOf bs)
    rw [num_lit] at this
    rw [ha, hb, hc, hd, hS]
    exact this.symm
  have hor := ors a b c d S ha2 hb2 hc2 hd2 hsum
  have k1 := seal_own_hid bs m hm hs (by omega)
  have k2 := of_hid bs S hS hs (by omega)
  have k3 := same_still
  have k4 := seal_hid (sealL bs) (m + 4) (by rw [seal_len, hm]; omega) (seal_small hs) (by omega)
  have k5 := open_hid (sealL (sealL bs)) (sealL bs) true m (opens_seal _).symm (openL_seal _).symm hm (seal_small (seal_small hs)) (by rw [seal_len]; omega)
  have k6 := open_hid (sealL bs) bs true n (opens_seal _).symm (openL_seal _).symm hn (seal_small hs) (by omega)
  have hkl : ((sealL bs).take k).length = k := by rw [List.length_take]; omega
  have k7 := open_hid ((sealL bs).take k) [] false 0 (opens_short _ (by omega)).1.symm (opens_short _ (by omega)).2.symm rfl (small_take (seal_small hs) k) (by omega)
  have k8 := open_hid [0, 0, 0, 1] [] true 0 (by decide) (by decide) rfl (by unfold Small; decide) (by decide)
  have k9 := same_hid (sealL bs) (sealL bs) true (by simp) (by omega)
  have k10 := same_hid bs bs true (by simp) (by omega)
  have kw := wakes_hid
  have HV := mkHid hv1
  have HM := mkHid hm
  have HN := mkHid hn
  have HA := mkHid ha
  have HB := mkHid hb
  have HC := mkHid hc
  have HD := mkHid hd
  have g1 : ((m : Int) != (n : Int) + 4) = false := by simp; omega
  have w0 : IntKind.i64.wrap ((n : Int) + 4) = (n : Int) + 4 := by rw [IntKind.wrap_i64]; omega
  have w1 : IntKind.i64.wrap ((a : Int) * 16777216) = (a : Int) * 16777216 := by rw [IntKind.wrap_i64]; omega
  have w2 : IntKind.i64.wrap ((b : Int) * 65536) = (b : Int) * 65536 := by rw [IntKind.wrap_i64]; omega
  have w3 : IntKind.i64.wrap ((c : Int) * 256) = (c : Int) * 256 := by rw [IntKind.wrap_i64]; omega
  have hnl : n ≤ 140737488351232 := by omega
  have hmn2 : (4 : Int) ≤ (m : Int) := by omega
  have hkm : (k : Int) ≤ (m : Int) := by omega
  have HMN := mkHid hmn
  clear hS hSl hv hs hl hn hm ha hb hc hd hsum hv1 hkl hmn
  go_enter Try.func4, Try.ntmps4
  go_upto_region 3 with (first
    | (go_at_call 11; (with_reducible refine (k1.out _ _ HV.out).mono ?_); rintro e w1 ⟨g, c1, rfl, o1, hc1, b1⟩
       have O1 := mkHid o1
       have V1 := mkHid (HV.out.old b1)
       have B1 := mkHid b1
       clear o1 b1)
    | (go_at_call 8; (with_reducible refine (k2.out _ _ V1.out).mono ?_); rintro e w2 ⟨rfl, rfl⟩))
  have f0 : w2.cell? ⟨g, 0, none⟩ = some (.int .u8 (a : Int)) := at_own O1.out HM.out (by omega) HA.out
  have f1 : w2.cell? ⟨g, 1, none⟩ = some (.int .u8 (b : Int)) := at_own O1.out HM.out (by omega) HB.out
  have f2 : w2.cell? ⟨g, 2, none⟩ = some (.int .u8 (c : Int)) := at_own O1.out HM.out (by omega) HC.out
  have f3 : w2.cell? ⟨g, 3, none⟩ = some (.int .u8 (d : Int)) := at_own O1.out HM.out (by omega) HD.out
  have L1 : Hid (Lies w2 (.slice (some ⟨g, 0, none⟩) m c1) (sealL bs)) := lies_n HM.out.symm O1.out
  have D1 : Hid (Lies w2 (.slice (if c1 = 4 then some ⟨g, 0, none⟩ else some ⟨g, 0 + 4, none⟩) (m - 4) (c1 - 4)) bs) := by
    have h := L1.out
    rw [HM.out] at h
    have h2 := h.drop (by rw [← HM.out]; omega)
    rw [seal_drop, ← HM.out] at h2
    exact h2
  have hnq : ((S : Int) != (S : Int)) = false := by simp
  have hm1 : (0 : Int) < (m : Int) ∧ (1 : Int) < (m : Int) ∧ (2 : Int) < (m : Int) ∧ (3 : Int) < (m : Int) := by omega
  clear O1 HA HB HC HD
  go_cut [57] (fun r wx => r = .bool false ∧ Hid (∃ q, wx = w2.drewN q))
  case first =>
    clear k1 k2 k4 k5 k6 k7 k8 k9 k10 kw kin' HV B1
    by_cases hc4 : c1 = 4
    · have hm4 : m = 4 := by omega
      have g2 : ((4 : Int) != (n : Int) + 4) = false := by have := HMN.out; simp; omega
      subst hc4
      subst hm4
      simp only [if_true, Nat.sub_self] at D1
      go_quiet ((go_at_call 12; exact Calls.quiet_of (same_still _ _ _ bs (D1.out.old (below_drewN _ _)) (V1.out.old (below_drewN _ _)) (by rw [← HN.out]; omega))))
      go_wp2
      go_meet
      case rel => exact ⟨rfl, _, rfl⟩
    · simp only [if_neg hc4, Nat.zero_add] at D1
      go_quiet ((go_at_call 12; exact Calls.quiet_of (same_still _ _ _ bs (D1.out.old (below_drewN _ _)) (V1.out.old (below_drewN _ _)) (by rw [← HN.out]; omega))))
      go_wp2
      go_meet
      case rel => exact ⟨rfl, _, rfl⟩
  case rest =>
    obtain ⟨rfl, HQ⟩ := hcut
    have L3 : Hid (Lies wc (.slice (some ⟨g, 0, none⟩) m c1) (sealL bs)) := by
      obtain ⟨q, rfl⟩ := HQ.out
      exact L1.out.old (below_drewN _ _)
    have V3 : Hid (Lies wc (.slice vo n vc) bs) := by
      obtain ⟨q, rfl⟩ := HQ.out
      exact V1.out.old (below_drewN _ _)
    have B3 : Hid (Below w.heap.size w wc) := by
      obtain ⟨q, rfl⟩ := HQ.out
      exact B1.out.trans ((below_drewN _ _).mono B1.out.size)
    clear HQ L1 V1 B1 D1 f0 f1 f2 f3 hor k1 k2 k3
    go_wp2_with (first
      | (go_at_call 11; (with_reducible refine (k4.out _ _ L3.out).mono ?_); rintro e w4 ⟨ao4, c4, rfl, l4, hc4, b4⟩
         have L4 := mkHid l4
         have M4 := mkHid (L3.out.old b4)
         have V4 := mkHid (V3.out.old b4)
         have B4 := mkHid (B3.out.trans (b4.mono B3.out.size))
         clear l4 b4 k4)
      | (go_at_call 13; (with_reducible refine (k5.out _ _ L4.out).mono ?_); rintro e w5 ⟨ao5, c5, rfl, l5, b5⟩
         have L5 := mkHid l5
         have M5 := mkHid (M4.out.old b5)
         have V5 := mkHid (V4.out.old b5)
         have B5 := mkHid (B4.out.trans (b5.mono B4.out.size))
         clear l5 b5 k5)
      | (go_at_call 13; (with_reducible refine (k6.out _ _ L5.out).mono ?_); rintro e w6 ⟨ao6, c6, rfl, l6, b6⟩
         have L6 := mkHid l6
         have N6 := mkHid (L5.out.old b6)
         have M6 := mkHid (M5.out.old b6)
         have V6 := mkHid (V5.out.old b6)
         have T6 : Hid (Lies w6 (.slice (some ⟨g, 0, none⟩) k c1) ((sealL bs).take k)) := by
           have h := M6.out
           rw [HM.out] at h
           exact h.take k (by rw [← HM.out]; omega)
         have B6 := mkHid (B5.out.trans (b6.mono B5.out.size))
         clear l6 b6 k6)
      | (go_at_call 14; (with_reducible refine (kin'.out _).mono ?_); rintro e w7 ⟨rfl, rfl⟩)
      | (go_at_call 13; (with_reducible refine (k7.out _ _ T6.out).mono ?_); rintro e w8 ⟨ao8, c8, rfl, l8, b8⟩
         have L8 := mkHid (L6.out.old b8)
         have N8 := mkHid (N6.out.old b8)
         have M8 := mkHid (M6.out.old b8)
         have V8 := mkHid (V6.out.old b8)
         have B8 := mkHid (B6.out.trans (b8.mono B6.out.size))
         have Z8 : Hid (Lies (w8.alloc (.cells #[.int .u8 0, .int .u8 0, .int .u8 0, .int .u8 1] 5)) (.slice (some ⟨w8.heap.size, 0, none⟩) 4 4) [0, 0, 0, 1]) := lies_lit w8 [0, 0, 0, 1] _ rfl
         have A8 : Hid (Below w8.heap.size w8 (w8.alloc (.cells #[.int .u8 0, .int .u8 0, .int .u8 0, .int .u8 1] 5))) := (Below.refl _ w8).alloc (Nat.le_refl _) _
         clear l8 b8 k7)
      | (go_at_call 13; (with_reducible refine (k8.out _ _ Z8.out).mono ?_); rintro e w9 ⟨ao9, c9, rfl, l9, b9⟩
         have bb : Below w8.heap.size w8 w9 := A8.out.trans (b9.mono A8.out.size)
         have L9 := mkHid (L8.out.old bb)
         have N9 := mkHid (N8.out.old bb)
         have M9 := mkHid (M8.out.old bb)
         have V9 := mkHid (V8.out.old bb)
         have B9 := mkHid (B8.out.trans (bb.mono B8.out.size))
         clear l9 b9 bb k8)
      | (go_at_call 12; (with_reducible refine (k9.out _ _ _ N9.out M9.out).mono ?_); rintro e w10 ⟨rfl, b10⟩
         have L10 := mkHid (L9.out.old b10)
         have V10 := mkHid (V9.out.old b10)
         have B10 := mkHid (B9.out.trans (b10.mono B9.out.size))
         clear b10 k9)
      | (go_at_call 12; (with_reducible refine (k10.out _ _ _ L10.out V10.out).mono ?_); rintro e w11 ⟨rfl, b11⟩
         have B11 := mkHid (B10.out.trans (b11.mono B10.out.size))
         clear b11 k10)
      | (go_at_call 10; (with_reducible refine (kw.out _).mono ?_); rintro e w12 ⟨rfl, b12⟩))
    go_ret
    exact ⟨rfl, B11.out.trans (b12.mono B11.out.size)⟩

end Go.Proofs.Ytnldjcjhhenppaa
