/-
  AdlerFinds: the law's walk.
-/
import Derived.Test.YtnldjcjhhenppaaFa
set_option linter.unusedSimpArgs false
set_option linter.unusedVariables false
namespace Go.Proofs.Ytnldjcjhhenppaa
open Go.RowKit

theorem Lies.form {w : World} {v : Value} {L : List Nat} (m : Nat) (hm : m = L.length) (h : Lies w v L) : ∃ ao cap, v = .slice ao m cap ∧ Lies w (.slice ao m cap) L ∧ m ≤ cap := by
  have h0 := h
  obtain ⟨ao, cap, rfl, h2, _⟩ := h
  subst hm
  exact ⟨ao, cap, rfl, h0, h2⟩

/-- Seal, of bytes that lie anywhere; m: the seal's length. -/
theorem seal_hid (bs : List Nat) (m : Nat) (hm : m = (sealL bs).length) (hs : Small bs) (hl : bs.length ≤ 140737488390000) :
    Hid (∀ w v, Lies w v bs → Calls Try.prog 11 #[v] w fun e w' => ∃ ao cap, e = .returned (.slice ao m cap) ∧ Lies w' (.slice ao m cap) (sealL bs) ∧ m ≤ cap ∧ Below w.heap.size w w') := by
  intro w v hv
  refine (seal_walk w v bs hv hs hl).mono ?_
  rintro e w' ⟨v', rfl, ho, hb⟩
  obtain ⟨ao, cap, rfl, h, hc⟩ := (lies_own ho).form m hm
  exact ⟨ao, cap, rfl, h, hc, hb⟩

theorem open_hid (bs L : List Nat) (o : Bool) (m : Nat) (ho : o = opens bs) (hL : L = openL bs) (hm : m = L.length) (hs : Small bs) (hl : bs.length ≤ 140737488400000) :
    Hid (∀ w v, Lies w v bs → Calls Try.prog 13 #[v] w fun e w' => ∃ ao cap, e = .returned (.tuple #[.slice ao m cap, .bool o]) ∧ Lies w' (.slice ao m cap) L ∧ Below w.heap.size w w') := by
  intro w v hv
  subst ho hL
  refine (open_walk w v bs hv hs hl).mono ?_
  rintro e w' ⟨v', rfl, ho, hb⟩
  obtain ⟨ao, cap, rfl, h, hc⟩ := (lies_own ho).form m hm
  exact ⟨ao, cap, rfl, h, hb⟩

theorem same_hid (xs ys : List Nat) (b : Bool) (hb : b = decide (xs = ys)) (hl : xs.length ≤ 281474976710656) :
    Hid (∀ w u v, Lies w u xs → Lies w v ys → Calls Try.prog 12 #[u, v] w fun e w' => e = .returned (.bool b) ∧ Below w.heap.size w w') := by
  subst hb
  exact fun w u v hu hv => same_any w u v xs ys hu hv hl

theorem copy_hid (bs : List Nat) (m : Nat) (hm : m = bs.length) (h0 : 0 < m) (hl : bs.length ≤ 140737488400000) :
    Hid (∀ w v, Lies w v bs → Calls Try.prog 9 #[v] w fun e w' => ∃ g cap, e = .returned (.slice (some ⟨g, 0, none⟩) m cap) ∧ w'.ownsRow w.heap.size 5 1 (.slice (some ⟨g, 0, none⟩) m cap) m (bs.map byteV) ∧ w.heap.size ≤ g ∧ Below w.heap.size w w') := by
  intro w v hv
  subst hm
  refine (copy_walk w v bs hv hl).mono ?_
  rintro e w' ⟨v', rfl, ho, hb⟩
  have ho' := ho
  rcases ho.2 with ⟨rfl, h⟩ | ⟨g, cap, cur, rfl, hg, _⟩
  · omega
  · exact ⟨g, cap, rfl, ho', hg, hb⟩

theorem xor_u8 (a b : Nat) (ha : a < 256) (hb : b < 256) : bits .xor .u8 (a : Int) (b : Int) = ((a ^^^ b : Nat) : Int) := by
  have hx := xor_lt a b ha hb
  show IntKind.u8.wrap ((BitVec.ofInt 8 (a : Int) ^^^ BitVec.ofInt 8 (b : Int)).toNat : Int) = _
  have e1 : (BitVec.ofInt 8 (a : Int)).toNat = a := by rw [BitVec.toNat_ofInt]; omega
  have e2 : (BitVec.ofInt 8 (b : Int)).toNat = b := by rw [BitVec.toNat_ofInt]; omega
  rw [BitVec.toNat_xor, e1, e2, IntKind.wrap_u8]
  omega

theorem within_nat (n : Int) (m : Nat) (h0 : 0 < m) (h1 : m < 4611686018427387904) : ∃ k : Nat, k < m ∧ Hid (∀ w, Calls Try.prog 14 #[.int .i64 n, .int .i64 (m : Int)] w fun e w' => e = .returned (.int .i64 (k : Int)) ∧ w' = w) := by
  refine ⟨(n % (m : Int)).toNat, ?_, ?_⟩
  · have := Int.emod_nonneg n (show (m : Int) ≠ 0 by omega)
    have := Int.emod_lt_of_pos n (show (0 : Int) < m by omega)
    omega
  · intro w
    rw [Int.toNat_of_nonneg (Int.emod_nonneg n (by omega))]
    exact within_walk n m (by omega) (by omega) w

theorem set_own {w : World} {B g m cap k : Nat} {L : List Nat} {Y : Nat} (h : w.ownsRow B 5 1 (.slice (some ⟨g, 0, none⟩) m cap) m (L.map byteV)) (hm : m = L.length) : Lies (w.setCell ⟨g, k, none⟩ (.int .u8 (Y : Int))) (.slice (some ⟨g, 0, none⟩) m cap) (L.set k Y) := by
  have o := (h.stored k (.int .u8 (Y : Int))).1
  rw [show (Value.int .u8 (Y : Int)) = byteV Y from rfl, ← List.map_set] at o
  exact lies_n (by rw [List.length_set, hm]) o

set_option maxRecDepth 100000 in
set_option maxHeartbeats 4000000 in
theorem finds_law (w : World) (v : Value) (bs : List Nat) (at_ : Int) (x : Nat) (hx : x < 256) (hv : Lies w v bs) (hs : Small bs) (hl : bs.length ≤ 140737488351232) :
    Calls Try.prog 6 #[v, .int .i64 at_, .int .u8 (x : Int)] w fun e w' => e = .returned (.bool true) ∧ Below w.heap.size w w' := by
  obtain ⟨n, hn⟩ : ∃ n, n = bs.length := ⟨_, rfl⟩
  obtain ⟨m, hm⟩ : ∃ m, m = (sealL bs).length := ⟨_, rfl⟩
  have hmn : m = 4 + n := by rw [hm, seal_len, hn]
  obtain ⟨vo, vc, rfl, hv1, _⟩ := hv.form n hn
  obtain ⟨k, hk, kin⟩ := within_nat at_ m (by omega) (by omega)
  obtain ⟨a, ha⟩ : ∃ a, a = (sealL bs).getD k 0 := ⟨_, rfl⟩
  have ha2 : a < 256 := by rw [ha]; exact small_at (seal_small hs) k
  obtain ⟨Y, hY⟩ : ∃ Y, Y = a ^^^ x := ⟨_, rfl⟩
  have hY2 : Y < 256 := by rw [hY]; exact xor_lt a x ha2 hx
  have hxor : bits .xor .u8 (a : Int) (x : Int) = (Y : Int) := by rw [hY]; exact xor_u8 a x ha2 hx
  obtain ⟨t, ht⟩ : ∃ t, t = (sealL bs).set k Y := ⟨_, rfl⟩
  have hts : Small t := by rw [ht]; exact small_set (seal_small hs) k Y hY2
  have htl : t.length = m := by rw [ht, List.length_set, hm]
  have k1 := seal_hid bs m hm hs (by omega)
  have k2 := open_hid (sealL bs) bs true n (opens_seal bs).symm (openL_seal bs).symm hn (seal_small hs) (by omega)
  have k3 := same_hid bs bs true (by simp) (by omega)
  have k4 := copy_hid (sealL bs) m hm (by omega) (by omega)
  have k5 := wakes_hid
  have hcell : ∀ (W : World) (B g cap : Nat), W.ownsRow B 5 1 (.slice (some ⟨g, 0, none⟩) m cap) m ((sealL bs).map byteV) → W.cell? ⟨g, k, none⟩ = some (.int .u8 (a : Int)) := by
    intro W B g cap ho
    have hk2 : k < (sealL bs).length := by omega
    rw [ho.cellAt k (by omega), List.getElem?_map, List.getElem?_eq_getElem hk2, ha, List.getD_eq_getElem?_getD, List.getElem?_eq_getElem hk2]
    rfl
  have hset : ∀ (W : World) (B g cap : Nat), W.ownsRow B 5 1 (.slice (some ⟨g, 0, none⟩) m cap) m ((sealL bs).map byteV) → Lies (W.setCell ⟨g, k, none⟩ (.int .u8 (Y : Int))) (.slice (some ⟨g, 0, none⟩) m cap) t := by
    intro W B g cap ho
    rw [ht]
    exact set_own ho hm
  have HC := mkHid hcell
  have HT := mkHid hset
  have HV := mkHid hv1
  have hki : (k : Int) < m := by omega
  have g1 : ((m : Int) != (n : Int) + 4) = false := by simp; omega
  have hnl : n ≤ 140737488351232 := by omega
  have key : (x = 0 ∧ opens t = true ∧ openL t = bs) ∨ (x ≠ 0 ∧ opens t = false ∧ openL t = []) := by
    by_cases h0 : x = 0
    · left
      have e : t = sealL bs := by
        have hk2 : k < (sealL bs).length := by omega
        rw [ht, hY, h0, Nat.xor_zero, ha, List.getD_eq_getElem?_getD, List.getElem?_eq_getElem hk2]
        simp
      rw [e]
      exact ⟨h0, opens_seal bs, openL_seal bs⟩
    · right
      have e : opens t = false := by
        rw [ht]
        refine opens_set bs k Y hs (by omega) hY2 ?_
        rw [← ha, hY]
        exact xor_ne a x h0
      exact ⟨h0, e, by unfold openL; rw [e]; rfl⟩
  have htl2 : t.length ≤ 140737488400000 := by omega
  have HTS := mkHid hts
  have HTL := mkHid htl2
  have HN := mkHid hn
  have HM := mkHid hmn
  clear hmn hcell hset hv hv1 hs hl hn hm ha hY ht hts htl htl2
  rcases key with ⟨h0, hop, hol⟩ | ⟨h0, hop, hol⟩
  · have k6 := open_hid t bs true n hop.symm hol.symm HN.out HTS.out HTL.out
    have g2 : ((x : Int) == 0) = true := by simp; omega
    clear h0 hop hol HTS HTL
    go_enter Try.func6, Try.ntmps6
    go_wp2_with (first
      | (go_at_call 11; (with_reducible refine (k1.out _ _ HV.out).mono ?_); rintro e w1 ⟨ao1, c1, rfl, l1, hc1, b1⟩
         have L1 := mkHid l1
         have V1 := mkHid (HV.out.old b1)
         have B1 := mkHid b1
         clear l1 b1)
      | (go_at_call 13; (with_reducible refine (k2.out _ _ L1.out).mono ?_); rintro e w2 ⟨ao2, c2, rfl, l2, b2⟩
         have L2 := mkHid l2
         have M2 := mkHid (L1.out.old b2)
         have V2 := mkHid (V1.out.old b2)
         have B2 := mkHid (B1.out.trans (b2.mono B1.out.size))
         clear l2 b2 k2)
      | (go_at_call 12; (with_reducible refine (k3.out _ _ _ L2.out V2.out).mono ?_); rintro e w3 ⟨rfl, b3⟩
         have M3 := mkHid (M2.out.old b3)
         have B3 := mkHid (B2.out.trans (b3.mono B2.out.size))
         clear b3)
      | (go_at_call 14; (with_reducible refine (kin.out _).mono ?_); rintro e w4 ⟨rfl, rfl⟩)
      | (go_at_call 9; (with_reducible refine (k4.out _ _ M3.out).mono ?_); rintro e w5 ⟨g5, c5, rfl, o5, hg5, b5⟩
         have cc := HC.out _ _ _ _ o5
         have ff := o5.frozenAt k
         have L5 := mkHid (HT.out _ _ _ _ o5)
         have B5 := mkHid (B3.out.trans (b5.mono B3.out.size))
         have G5 : Hid (w.heap.size ≤ g5) := Nat.le_trans B3.out.size hg5
         clear o5 b5 hg5)
      | (go_at_call 13; (with_reducible refine (k6.out _ _ L5.out).mono ?_); rintro e w6 ⟨ao6, c6, rfl, l6, b6⟩
         have B6 := mkHid ((B5.out.setCell (p := ⟨g5, k, none⟩) G5.out _).trans (b6.mono (by have := B5.out.size; simpa using this)))
         clear l6 b6)
      | (go_at_call 10; (with_reducible refine (k5.out _).mono ?_); rintro e w7 ⟨rfl, b7⟩))
    go_ret
    exact ⟨rfl, B6.out.trans (b7.mono B6.out.size)⟩
  · have k6 := open_hid t [] false 0 hop.symm hol.symm rfl HTS.out HTL.out
    have g2 : ((x : Int) == 0) = false := by simp; omega
    clear h0 hop hol HTS HTL
    go_enter Try.func6, Try.ntmps6
    go_wp2_with (first
      | (go_at_call 11; (with_reducible refine (k1.out _ _ HV.out).mono ?_); rintro e w1 ⟨ao1, c1, rfl, l1, hc1, b1⟩
         have L1 := mkHid l1
         have V1 := mkHid (HV.out.old b1)
         have B1 := mkHid b1
         clear l1 b1)
      | (go_at_call 13; (with_reducible refine (k2.out _ _ L1.out).mono ?_); rintro e w2 ⟨ao2, c2, rfl, l2, b2⟩
         have L2 := mkHid l2
         have M2 := mkHid (L1.out.old b2)
         have V2 := mkHid (V1.out.old b2)
         have B2 := mkHid (B1.out.trans (b2.mono B1.out.size))
         clear l2 b2 k2)
      | (go_at_call 12; (with_reducible refine (k3.out _ _ _ L2.out V2.out).mono ?_); rintro e w3 ⟨rfl, b3⟩
         have M3 := mkHid (M2.out.old b3)
         have B3 := mkHid (B2.out.trans (b3.mono B2.out.size))
         clear b3)
      | (go_at_call 14; (with_reducible refine (kin.out _).mono ?_); rintro e w4 ⟨rfl, rfl⟩)
      | (go_at_call 9; (with_reducible refine (k4.out _ _ M3.out).mono ?_); rintro e w5 ⟨g5, c5, rfl, o5, hg5, b5⟩
         have cc := HC.out _ _ _ _ o5
         have ff := o5.frozenAt k
         have L5 := mkHid (HT.out _ _ _ _ o5)
         have B5 := mkHid (B3.out.trans (b5.mono B3.out.size))
         have G5 : Hid (w.heap.size ≤ g5) := Nat.le_trans B3.out.size hg5
         clear o5 b5 hg5)
      | (go_at_call 13; (with_reducible refine (k6.out _ _ L5.out).mono ?_); rintro e w6 ⟨ao6, c6, rfl, l6, b6⟩
         have B6 := mkHid ((B5.out.setCell (p := ⟨g5, k, none⟩) G5.out _).trans (b6.mono (by have := B5.out.size; simpa using this)))
         clear l6 b6)
      | (go_at_call 10; (with_reducible refine (k5.out _).mono ?_); rintro e w7 ⟨rfl, b7⟩))
    go_ret
    exact ⟨rfl, B6.out.trans (b7.mono B6.out.size)⟩

theorem finds_any (w : World) (v : Value) (bs : List Nat) (k x : Int) (hx : 0 ≤ x ∧ x < 256) (hv : Lies w v bs) (hs : Small bs) (hl : bs.length ≤ 140737488351232) :
    Calls Try.prog 6 #[v, .int .i64 k, .int .u8 x] w fun e w' => e = .returned (.bool true) ∧ Below w.heap.size w w' := by
  have h := finds_law w v bs k x.toNat (by omega) hv hs hl
  rwa [Int.toNat_of_nonneg hx.1] at h

end Go.Proofs.Ytnldjcjhhenppaa
