/-
  AdlerTells: the law's walk.
-/
import Derived.Test.YtnldjcjhhenppaaTb
import Derived.Test.YtnldjcjhhenppaaLe
set_option linter.unusedSimpArgs false
set_option linter.unusedVariables false
namespace Go.Proofs.Ytnldjcjhhenppaa
open Go.RowKit

theorem small_zeros {l : List Nat} (h : Small l) (m : Nat) : Small (l ++ List.replicate m 0) := by
  intro b hb
  rcases List.mem_append.1 hb with hb | hb
  · exact h b hb
  · rw [(List.mem_replicate.1 hb).2]; decide

theorem owns_take {w : World} {B g cap n : Nat} {xs : List Value} (h : w.ownsRow B 5 1 (.slice (some ⟨g, 0, none⟩) n cap) n xs) (k : Nat) (hk : k ≤ n) : w.ownsRow B 5 1 (.slice (some ⟨g, 0, none⟩) k cap) k (xs.take k) := by
  obtain ⟨h1, h2⟩ := h
  rcases h2 with ⟨h, _⟩ | ⟨g', cap', cur, h, hbg, hg, hnc, hcm, hcs, htake⟩
  · simp at h
  simp only [Value.slice.injEq, Option.some.injEq, Addr.mk.injEq, and_true, true_and] at h
  obtain ⟨rfl, rfl⟩ := h
  refine ⟨by rw [List.length_take, h1]; omega, .inr ⟨g, cap, cur, rfl, hbg, hg, by omega, hcm, hcs, ?_⟩⟩
  rw [← htake, List.take_take]
  congr 1
  omega

/-- A row of bytes of the call's own, whatever lies in it. -/
def Row (w : World) (B : Nat) (v : Value) (n : Nat) : Prop := ∃ L : List Nat, L.length = n ∧ Small L ∧ w.ownsRow B 5 1 v n (L.map byteV)

theorem copy_own (bs : List Nat) (m : Nat) (hm : m = bs.length) (hl : bs.length ≤ 140737488400000) :
    Hid (∀ w v, Lies w v bs → Calls Try.prog 9 #[v] w fun e w' => ∃ v', e = .returned v' ∧ w'.ownsRow w.heap.size 5 1 v' m (bs.map byteV) ∧ Below w.heap.size w w') := by
  intro w v hv
  subst hm
  exact copy_walk w v bs hv hl

theorem row_form {w : World} {B n : Nat} {v : Value} (h : Row w B v n) : ∃ ao cap, v = .slice ao n cap ∧ (0 < n → ∃ g, ao = some ⟨g, 0, none⟩ ∧ B ≤ g) := by
  obtain ⟨L, h1, h2, h3⟩ := h
  rcases h3.2 with ⟨rfl, h⟩ | ⟨g, cap, cur, rfl, hg, _⟩
  · exact ⟨_, _, by rw [h], fun h' => by omega⟩
  · exact ⟨_, cap, rfl, fun _ => ⟨g, rfl, hg⟩⟩

theorem xor255 (a : Nat) (ha : a < 256) : ∃ y : Nat, y < 256 ∧ bits .xor .u8 (a : Int) 255 = (y : Int) := ⟨a ^^^ 255, xor_lt a 255 ha (by decide), xor_u8 a 255 ha (by decide)⟩

theorem Row.cell {w : World} {B n g cap : Nat} (h : Row w B (.slice (some ⟨g, 0, none⟩) n cap) n) (k : Nat) (hk : k < n) : ∃ a : Nat, a < 256 ∧ w.cell? ⟨g, k, none⟩ = some (.int .u8 (a : Int)) ∧ w.frozen? ⟨g, k, none⟩ = false := by
  obtain ⟨L, h1, h2, h3⟩ := h
  exact ⟨_, small_at h2 k, at_own h3 h1.symm hk rfl, h3.frozenAt k⟩

theorem Row.set {w : World} {B n g cap : Nat} (h : Row w B (.slice (some ⟨g, 0, none⟩) n cap) n) (k y : Nat) (hy : y < 256) : Row (w.setCell ⟨g, k, none⟩ (.int .u8 (y : Int))) B (.slice (some ⟨g, 0, none⟩) n cap) n := by
  obtain ⟨L, h1, h2, h3⟩ := h
  have o := (h3.stored k (.int .u8 (y : Int))).1
  rw [show (Value.int .u8 (y : Int)) = byteV y from rfl, ← List.map_set] at o
  exact ⟨L.set k y, by rw [List.length_set, h1], small_set h2 k y hy, o⟩

theorem Row.lies {w : World} {B n : Nat} {v : Value} (h : Row w B v n) : ∃ L : List Nat, L.length = n ∧ Small L ∧ Lies w v L := by
  obtain ⟨L, h1, h2, h3⟩ := h
  exact ⟨L, h1, h2, lies_n h1 h3⟩

theorem owns_below {w w' : World} {B e sz : Nat} {v : Value} {n : Nat} {xs : List Value} (h : w.ownsRow B e sz v n xs) (hb : Below w.heap.size w w') : w'.ownsRow B e sz v n xs := by
  refine ⟨h.1, ?_⟩
  rcases h.2 with h2 | ⟨g, cap, cur, rfl, hB, hg, r⟩
  · exact .inl h2
  · have hlt : g < w.heap.size := by
      rcases Nat.lt_or_ge g w.heap.size with h' | h'
      · exact h'
      · rw [Array.getElem?_eq_none h'] at hg; cases hg
    exact .inr ⟨g, cap, cur, rfl, hB, by rw [hb.block g hlt]; exact hg, r⟩

theorem lend_hid (bs : List Nat) (n : Nat) (hn : n = bs.length) (hl : bs.length ≤ 140737488400000) : Hid (∀ w v, Lies w v bs → Calls Try.prog 15 #[v] w fun e w' => ∃ g, e = .returned (.slice (some ⟨g, 0, none⟩) n (n + 3)) ∧ Lent w' g bs ∧ Below w.heap.size w w' ∧ w.heap.size ≤ g) := by
  subst hn
  exact fun w v hv => lend_walk w v bs hv hl

theorem intact_hid (bs : List Nat) (n : Nat) (hn : n = bs.length) (hl : bs.length ≤ 140737488400000) : Hid (∀ w g v, Lent w g bs → Lies w v bs → Calls Try.prog 18 #[.slice (some ⟨g, 0, none⟩) n (n + 3), v] w fun e w' => e = .returned (.bool true) ∧ Below w.heap.size w w') := by
  subst hn
  exact fun w g v h hv => intact_walk w g v bs h hv hl

/-- The document's Open. -/
theorem ropen_hid (bs L : List Nat) (o : Bool) (m : Nat) (ho : o = opens bs) (hL : L = openL bs) (hm : m = L.length) (hs : Small bs) (hl : bs.length ≤ 140737488390000) :
    Hid (∀ w v, Lies w v bs → Calls Try.prog 19 #[v] w fun e w' => ∃ ao cap, e = .returned (.tuple #[.slice ao m cap, .bool o]) ∧ Lies w' (.slice ao m cap) L ∧ Below w.heap.size w w') := by
  intro w v hv
  subst ho hL
  refine (ropen_walk w v bs hv hs hl).mono ?_
  rintro e w' ⟨v', rfl, ho, hb⟩
  obtain ⟨ao, cap, rfl, h, hc⟩ := (lies_own ho).form m hm
  exact ⟨ao, cap, rfl, h, hb⟩

theorem measB {k n : Nat} (h : k < n) : n - (intOf (.int .i64 ((k : Int) + 1))).toNat < n - (intOf (.int .i64 (k : Int))).toNat := meas h

set_option maxRecDepth 100000 in
set_option maxHeartbeats 8000000 in
theorem tells_law (w : World) (v : Value) (bs : List Nat) (cut flip long : Int) (hv : Lies w v bs) (hs : Small bs) (hl : bs.length ≤ 140737488351232) :
    Calls Try.prog 5 #[v, .int .i64 cut, .int .i64 flip, .int .i64 long] w fun e w' => e = .returned (.bool true) ∧ Below w.heap.size w w' := by
  obtain ⟨n, hn⟩ : ∃ n, n = bs.length := ⟨_, rfl⟩
  obtain ⟨vo, vc, rfl, hv1, _⟩ := hv.form n hn
  have k1 := copy_own bs n hn (by omega)
  obtain ⟨m, hm, kin⟩ := within_nat long 9000 (by omega) (by omega)
  have kin' : Hid (∀ w, Calls Try.prog 14 #[.int .i64 long, .int .i64 9000] w fun e w' => e = .returned (.int .i64 (m : Int)) ∧ w' = w) := kin
  clear kin
  have kw := wakes_hid
  have HV := mkHid hv1
  have HN := mkHid hn
  have HS := mkHid hs
  have HL : Hid (n ≤ 140737488351232) := by show _ ≤ _; omega
  have HM := mkHid hm
  clear hv hv1 hn hs hl hm
  go_enter Try.func5, Try.ntmps5
  go_upto_if 23 with fail
  go_cut [0] (fun b wx => ∃ L : List Nat, Hid (Lies wx b L ∧ Small L ∧ L.length ≤ 140737488360232 ∧ Below w.heap.size w wx))
  case first =>
    by_cases h7 : long.tmod 7 = 6
    · have d7 : (long.tmod 7 == 6) = true := by simp [h7]
      clear h7
      go_wp2_with (first
        | (go_at_call 9; (with_reducible refine (k1.out _ _ HV.out).mono ?_); rintro e w1 ⟨v1, rfl, o1, b1⟩; have O1 := mkHid o1; have B1 := mkHid b1; have hz1 := b1.size; clear o1 b1)
        | (go_at_call 14; (with_reducible refine (kin'.out _).mono ?_); rintro e w2 ⟨rfl, rfl⟩)
        | (at_builtin; refine wpList_zerosB rfl (.tmp 25) (.tmp 27) rfl w.heap.size n m _ _ rfl rfl O1.out (by have := HL.out; omega) HM.out hz1 ?_; intro v3 w3 o3 b3
           have R3 : Hid (Row w3 w.heap.size v3 (n + m)) := ⟨bs ++ List.replicate m 0, by rw [List.length_append, List.length_replicate, ← HN.out], small_zeros HS.out m, by simpa using o3⟩
           have B3 := mkHid (B1.out.trans b3)
           clear o3 b3
           obtain ⟨ao3, c3, hv3, hf3⟩ := row_form R3.out
           subst hv3
           have hN : Hid (n + m ≤ 140737488360232) := by show _ ≤ _; have := HL.out; have := HM.out; omega
           obtain ⟨N, hNe⟩ : ∃ N, N = n + m := ⟨_, rfl⟩
           rw [← hNe] at R3 hN hf3 ⊢
           clear hNe))
      clear d7 k1 kin' HV HM HL HN HS kw O1 hz1
      go_loopw [31] (fun i wr => ∃ k : Nat, k ≤ N ∧ i = .int .i64 k ∧ Hid (Row wr w.heap.size (.slice ao3 N c3) N) ∧ Hid (Below w.heap.size w wr)) (fun i _ => N - (intOf i).toNat)
      case atStart => exact ⟨0, by omega, rfl, R3, B3⟩
      case round =>
        obtain ⟨k, hk, rfl, RR, BR⟩ := hrel
        by_cases hkn : k < N
        · obtain ⟨g, rfl, hg⟩ := hf3 (by omega)
          obtain ⟨a, ha, c1, f1⟩ := RR.out.cell k hkn
          obtain ⟨y, hy, hxy⟩ := xor255 a ha
          have hki : (k : Int) < N := by omega
          have hw : wrap64 ((k : Int) + 1) = k + 1 := by have := hN.out; unfold wrap64; omega
          have R4 := mkHid (RR.out.set k y hy)
          have B4 := mkHid (BR.out.setCell (p := ⟨g, k, none⟩) hg (.int .u8 (y : Int)))
          clear R3 B3 hf3 RR BR
          go_wp2
          go_roundw
          case rel => exact ⟨k + 1, by omega, by go_num, R4, B4⟩
          case measure => first | exact meas hkn | (rw [hw]; exact meas hkn)
        · have hkk : k = N := by omega
          subst hkk
          go_wp2
          go_meet
          case rel =>
            obtain ⟨L, h1, h2, h3⟩ := RR.out.lies
            exact ⟨L, h3, h2, by rw [h1]; exact hN.out, BR.out⟩
    · have d7 : (long.tmod 7 == 6) = false := by simp [h7]
      clear h7
      go_wp2
      go_meet
      case rel => exact ⟨bs, HV.out, HS.out, by have := HL.out; have := HN.out; omega, Below.refl _ _⟩
  case rest =>
    obtain ⟨L, HH⟩ := hcut
    obtain ⟨hL1, hL2, hL3, hL4⟩ := HH.out
    clear HH HV k1 kin' HN HS HL HM
    obtain ⟨N, hN⟩ : ∃ N, N = L.length := ⟨_, rfl⟩
    obtain ⟨M, hM⟩ : ∃ M, M = (sealL L).length := ⟨_, rfl⟩
    obtain ⟨S, hS⟩ : ∃ S, S = sumOf L := ⟨_, rfl⟩
    have hMN : M = 4 + N := by rw [hM, seal_len, hN]
    have kl := lend_hid L N hN (by omega)
    have ks := seal_hid L M hM hL2 (by omega)
    have ko := of_hid L S hS hL2 (by omega)
    have ka := adler_hid L S hS hL2 (by omega)
    have kr := rseal_hid L M hM hL2 (by omega)
    have km := same_hid (sealL L) (sealL L) true (by simp) (by omega)
    have ki := intact_hid L N hN (by omega)
    have k2 : ∃ k : Nat, k < 2 * M + 1 ∧ Hid (∀ w, Calls Try.prog 14 #[.int .i64 cut, .int .i64 (2 * (M : Int) + 1)] w fun e w' => e = .returned (.int .i64 (k : Int)) ∧ w' = w) := by
      obtain ⟨k, h1, h2⟩ := within_nat cut (2 * M + 1) (by omega) (by omega)
      refine ⟨k, h1, fun w => ?_⟩
      have := h2.out w
      rw [show ((2 * M + 1 : Nat) : Int) = 2 * (M : Int) + 1 by omega] at this
      exact this
    obtain ⟨k, hk, kk⟩ := k2
    obtain ⟨ao, cap, e, hL1, _⟩ := hL1.form N hN
    subst e
    have V0 := mkHid hL1
    have B0 := mkHid hL4
    have HS := mkHid hL2
    have HN := mkHid hN
    have HM := mkHid hM
    have HMN := mkHid hMN
    have HL3 : Hid (N ≤ 140737488360232) := by show _ ≤ _; omega
    have w2m : IntKind.i64.wrap (2 * (M : Int)) = 2 * (M : Int) := by rw [IntKind.wrap_i64]; omega
    have w2m1 : IntKind.i64.wrap (2 * (M : Int) + 1) = 2 * (M : Int) + 1 := by rw [IntKind.wrap_i64]; omega
    have w2n : wrap64 (2 * (M : Int)) = 2 * (M : Int) := by unfold wrap64; omega
    have w2n1 : wrap64 (2 * (M : Int) + 1) = 2 * (M : Int) + 1 := by unfold wrap64; omega
    clear hL1 hL2 hL3 hL4 hN hM hMN hS
    go_upto_if 74 with (first
      | (go_at_call 15; (with_reducible refine (kl.out _ _ V0.out).mono ?_); rintro e w1 ⟨g1, rfl, t1, b1, hg1⟩
         have T1 := mkHid t1
         have V1 := mkHid (V0.out.old b1)
         have B1 := mkHid (B0.out.trans (b1.mono B0.out.size))
         have L1 : Hid (Lies w1 (.slice (some ⟨g1, 0, none⟩) N (N + 3)) L) := by have h := t1.lies; rw [← HN.out] at h; exact h
         clear t1 b1 hg1)
      | (go_at_call 11; (with_reducible refine (ks.out _ _ L1.out).mono ?_); rintro e w2 ⟨ao2, c2, rfl, l2, hc2, b2⟩
         have S2 := mkHid l2
         have T2 := mkHid (show Lent w2 g1 L from owns_below T1.out b2)
         have V2 := mkHid (V1.out.old b2)
         have L2 := mkHid (L1.out.old b2)
         have B2 := mkHid (B1.out.trans (b2.mono B1.out.size))
         clear l2 b2 hc2)
      | (go_at_call 8; (with_reducible refine (ko.out _ _ L2.out).mono ?_); rintro e w3 ⟨rfl, rfl⟩)
      | (go_at_call 16; (with_reducible refine (ka.out _ _ V2.out).mono ?_); rintro e w4 ⟨rfl, rfl⟩)
      | (go_at_call 17; (with_reducible refine (kr.out _ _ V2.out).mono ?_); rintro e w5 ⟨g5, c5, rfl, o5, hc5, hg5, b5⟩
         have R5 : Hid (Lies w5 (.slice (some ⟨g5, 0, none⟩) M c5) (sealL L)) := lies_n HM.out.symm o5
         have S5 := mkHid (S2.out.old b5)
         have T5 := mkHid (show Lent w5 g1 L from owns_below T2.out b5)
         have V5 := mkHid (V2.out.old b5)
         have B5 := mkHid (B2.out.trans (b5.mono B2.out.size))
         clear o5 hc5 hg5 b5 S2 T2 V2 L2 B2)
      | (go_at_call 12; (with_reducible refine (km.out _ _ _ S5.out R5.out).mono ?_); rintro e w6 ⟨rfl, b6⟩
         have T6 := mkHid (show Lent w6 g1 L from owns_below T5.out b6)
         have V6 := mkHid (V5.out.old b6)
         have B6 := mkHid (B5.out.trans (b6.mono B5.out.size))
         clear b6 S5 R5 T5 V5 B5)
      | (go_at_call 18; (with_reducible refine (ki.out _ _ _ T6.out V6.out).mono ?_); rintro e w7 ⟨rfl, b7⟩
         have V7 := mkHid (V6.out.old b7)
         have B7 := mkHid (B6.out.trans (b7.mono B6.out.size))
         clear b7 T6 V6 B6)
      | (go_at_call 17; (with_reducible refine (kr.out _ _ V7.out).mono ?_); rintro e w8 ⟨g8, c8, rfl, o8, hc8, hg8, b8⟩
         have R8 : Hid (Row w8 w7.heap.size (.slice (some ⟨g8, 0, none⟩) M c8) M) := ⟨sealL L, HM.out.symm, seal_small HS.out, o8⟩
         have D8 : Hid (Below w7.heap.size w7 w8) := b8
         have G8 : Hid (w7.heap.size ≤ g8) := hg8
         clear o8 hg8 b8)
      | (go_at_call 14; (with_reducible refine (kk.out _).mono ?_); rintro e w9 ⟨rfl, rfl⟩))
    obtain ⟨q7, hq7⟩ : ∃ q, q = w7.heap.size := ⟨_, rfl⟩
    have hkM : ((k : Int) < (M : Int)) ∨ ¬ ((k : Int) < (M : Int)) := Classical.em _
    clear kl ks ko ka kr km ki kk w2m w2m1 w2n w2n1 L1 T1 V1 B1 hq7
    go_cut [12] (fun c wx => (∃ K : Nat, c = .slice (some ⟨g8, 0, none⟩) K c8 ∧ Hid (Row wx w7.heap.size (.slice (some ⟨g8, 0, none⟩) K c8) K ∧ K ≤ M)) ∧ Hid (Below w7.heap.size w7 wx))
    case first =>
      rcases hkM with h | h
      · have d : decide ((k : Int) < (M : Int)) = true := by simp; omega
        have hcap8 : (k : Int) ≤ (c8 : Int) := by omega
        go_wp2
        go_meet
        case rel =>
          refine ⟨⟨k, rfl, ?_, by omega⟩, D8⟩
          obtain ⟨l, h1, h2, h3⟩ := R8.out
          exact ⟨l.take k, by rw [List.length_take, h1]; omega, small_take h2 k, by rw [List.map_take]; exact owns_take h3 k (by omega)⟩
      · have d : decide ((k : Int) < (M : Int)) = false := by simp; omega
        go_wp2
        go_meet
        case rel => exact ⟨⟨M, rfl, R8.out, Nat.le_refl _⟩, D8⟩
    case rest =>
      obtain ⟨⟨K, rfl, HK⟩, DC⟩ := hcut
      clear R8 D8 hkM
      obtain ⟨RK, hKM⟩ := HK.out
      have R9 := mkHid RK
      have hKl : K ≤ 140737488360300 := by have := HMN.out; have := HL3.out; omega
      clear RK HK
      obtain ⟨q, hq, kq⟩ : ∃ q : Nat, q < 16 * K + 1 ∧ Hid (∀ w, Calls Try.prog 14 #[.int .i64 flip, .int .i64 (16 * (K : Int) + 1)] w fun e w' => e = .returned (.int .i64 (q : Int)) ∧ w' = w) := by
        obtain ⟨q, h1, h2⟩ := within_nat flip (16 * K + 1) (by omega) (by omega)
        refine ⟨q, h1, fun w => ?_⟩
        have := h2.out w
        rw [show ((16 * K + 1 : Nat) : Int) = 16 * (K : Int) + 1 by omega] at this
        exact this
      have HKL := mkHid hKl
      have w1 : wrap64 (16 * (K : Int)) = 16 * (K : Int) := by unfold wrap64; omega
      have w2 : wrap64 (16 * (K : Int) + 1) = 16 * (K : Int) + 1 := by unfold wrap64; omega
      have w3 : wrap64 (8 * (K : Int)) = 8 * (K : Int) := by unfold wrap64; omega
      clear hKl
      go_upto_if 88 with (first
        | (go_at_call 14; (with_reducible refine (kq.out _).mono ?_); rintro e w9 ⟨rfl, rfl⟩))
      have hq8 : q < 8 * K ∨ ¬ q < 8 * K := Classical.em _
      clear kq w1 w2 w3
      go_cut [] (fun wx => Hid (Row wx w7.heap.size (.slice (some ⟨g8, 0, none⟩) K c8) K) ∧ Hid (Below w7.heap.size w7 wx))
      case first =>
        rcases hq8 with h | h
        · have d : decide ((q : Int) < 8 * (K : Int)) = true := by simp; omega
          obtain ⟨i, hi⟩ : ∃ i, i = q / 8 := ⟨_, rfl⟩
          obtain ⟨j, hj⟩ : ∃ j, j = q % 8 := ⟨_, rfl⟩
          have e1 : (q : Int).tdiv 8 = (i : Int) := by rw [Int.tdiv_eq_ediv_of_nonneg (by omega)]; omega
          have e2 : (q : Int).tmod 8 = (j : Int) := by rw [Int.tmod_eq_emod_of_nonneg (by omega)]; omega
          have hiK : i < K := by omega
          have hiK2 : (i : Int) < (K : Int) := by omega
          have hj8 : j < 8 := by omega
          have wi : wrap64 (i : Int) = (i : Int) := by have := HKL.out; unfold wrap64; omega
          obtain ⟨a, ha, c1, f1⟩ := R9.out.cell i hiK
          have hx : ∀ y : Nat, y < 256 → ∃ z : Nat, z < 256 ∧ bits .xor .u8 (a : Int) (y : Int) = (z : Int) := fun y hy => ⟨a ^^^ y, xor_lt a y ha hy, xor_u8 a y ha hy⟩
          have HR : Hid (∀ z : Nat, z < 256 → Row (w9.setCell ⟨g8, i, none⟩ (.int .u8 (z : Int))) w7.heap.size (.slice (some ⟨g8, 0, none⟩) K c8) K) := fun z hz => R9.out.set i z hz
          have HD : Hid (∀ z : Nat, Below w7.heap.size w7 (w9.setCell ⟨g8, i, none⟩ (.int .u8 (z : Int)))) := fun z => DC.out.setCell (p := ⟨g8, i, none⟩) G8.out _
          clear hi hj R9 DC
          rcases (show j = 0 ∨ j = 1 ∨ j = 2 ∨ j = 3 ∨ j = 4 ∨ j = 5 ∨ j = 6 ∨ j = 7 by omega) with rfl | rfl | rfl | rfl | rfl | rfl | rfl | rfl
          · obtain ⟨z, hz, hxz⟩ := hx 1 (by decide)
            have hxz' : bits .xor .u8 (a : Int) 1 = (z : Int) := hxz
            have e2' : (q : Int).tmod 8 = 0 := e2
            clear hx hxz e2
            go_wp2
            go_meet
            case rel => exact ⟨HR.out z hz, HD.out z⟩
          · obtain ⟨z, hz, hxz⟩ := hx 2 (by decide)
            have hxz' : bits .xor .u8 (a : Int) 2 = (z : Int) := hxz
            have e2' : (q : Int).tmod 8 = 1 := e2
            clear hx hxz e2
            go_wp2
            go_meet
            case rel => exact ⟨HR.out z hz, HD.out z⟩
          · obtain ⟨z, hz, hxz⟩ := hx 4 (by decide)
            have hxz' : bits .xor .u8 (a : Int) 4 = (z : Int) := hxz
            have e2' : (q : Int).tmod 8 = 2 := e2
            clear hx hxz e2
            go_wp2
            go_meet
            case rel => exact ⟨HR.out z hz, HD.out z⟩
          · obtain ⟨z, hz, hxz⟩ := hx 8 (by decide)
            have hxz' : bits .xor .u8 (a : Int) 8 = (z : Int) := hxz
            have e2' : (q : Int).tmod 8 = 3 := e2
            clear hx hxz e2
            go_wp2
            go_meet
            case rel => exact ⟨HR.out z hz, HD.out z⟩
          · obtain ⟨z, hz, hxz⟩ := hx 16 (by decide)
            have hxz' : bits .xor .u8 (a : Int) 16 = (z : Int) := hxz
            have e2' : (q : Int).tmod 8 = 4 := e2
            clear hx hxz e2
            go_wp2
            go_meet
            case rel => exact ⟨HR.out z hz, HD.out z⟩
          · obtain ⟨z, hz, hxz⟩ := hx 32 (by decide)
            have hxz' : bits .xor .u8 (a : Int) 32 = (z : Int) := hxz
            have e2' : (q : Int).tmod 8 = 5 := e2
            clear hx hxz e2
            go_wp2
            go_meet
            case rel => exact ⟨HR.out z hz, HD.out z⟩
          · obtain ⟨z, hz, hxz⟩ := hx 64 (by decide)
            have hxz' : bits .xor .u8 (a : Int) 64 = (z : Int) := hxz
            have e2' : (q : Int).tmod 8 = 6 := e2
            clear hx hxz e2
            go_wp2
            go_meet
            case rel => exact ⟨HR.out z hz, HD.out z⟩
          · obtain ⟨z, hz, hxz⟩ := hx 128 (by decide)
            have hxz' : bits .xor .u8 (a : Int) 128 = (z : Int) := hxz
            have e2' : (q : Int).tmod 8 = 7 := e2
            clear hx hxz e2
            go_wp2
            go_meet
            case rel => exact ⟨HR.out z hz, HD.out z⟩
        · have d : decide ((q : Int) < 8 * (K : Int)) = false := by simp; omega
          go_wp2
          go_meet
          case rel => exact ⟨R9, DC⟩
      case rest =>
        obtain ⟨RF, DF⟩ := hcut
        obtain ⟨C, hC1, hC2, hC3⟩ := RF.out.lies
        have V9 := mkHid (V7.out.old DF.out)
        have B9 : Hid (Below w.heap.size w wc) := B7.out.trans (DF.out.mono B7.out.size)
        have C9 := mkHid hC3
        have HKl := HKL.out
        have HN1 := HN.out
        have HNl := HL3.out
        obtain ⟨o1, ho1⟩ : ∃ o, o = opens L := ⟨_, rfl⟩
        obtain ⟨l1, hl1⟩ : ∃ l, l = openL L := ⟨_, rfl⟩
        obtain ⟨m1, hm1⟩ : ∃ m, m = l1.length := ⟨_, rfl⟩
        obtain ⟨o2, ho2⟩ : ∃ o, o = opens C := ⟨_, rfl⟩
        obtain ⟨l2, hl2⟩ : ∃ l, l = openL C := ⟨_, rfl⟩
        obtain ⟨m2, hm2⟩ : ∃ m, m = l2.length := ⟨_, rfl⟩
        have hle : ∀ l : List Nat, (openL l).length ≤ l.length := by
          intro l
          unfold openL
          split
          · rw [List.length_drop]; omega
          · simp
        have hle1 := hle L
        have hle2 := hle C
        rw [← hl1] at hle1
        rw [← hl2] at hle2
        have ka := open_hid L l1 o1 m1 ho1 hl1 hm1 HS.out (by omega)
        have kb := ropen_hid L l1 o1 m1 ho1 hl1 hm1 HS.out (by omega)
        have kc := same_hid l1 l1 true (by simp) (by omega)
        have kd := open_hid C l2 o2 m2 ho2 hl2 hm2 hC2 (by omega)
        have ke := ropen_hid C l2 o2 m2 ho2 hl2 hm2 hC2 (by omega)
        have kf := same_hid l2 l2 true (by simp) (by omega)
        have A9 : Below wc.heap.size wc (wc.alloc (.cells #[.slice ao N cap, .slice (some ⟨g8, 0, none⟩) K c8] 22)) := (Below.refl _ wc).alloc (Nat.le_refl _) _
        have F0 : (wc.alloc (.cells #[.slice ao N cap, .slice (some ⟨g8, 0, none⟩) K c8] 22)).cell? ⟨wc.heap.size, 0, none⟩ = some (.slice ao N cap) := by rw [cell_of_row _ _ 0 _ 22 (0, 0) (heap_alloc_new wc _)]; rfl
        have F1 : (wc.alloc (.cells #[.slice ao N cap, .slice (some ⟨g8, 0, none⟩) K c8] 22)).cell? ⟨wc.heap.size, 1, none⟩ = some (.slice (some ⟨g8, 0, none⟩) K c8) := by rw [cell_of_row _ _ 1 _ 22 (0, 0) (heap_alloc_new wc _)]; rfl
        clear RF DF V7 B7 G8 HKL HKl HN1 HNl HMN HM HN HL3 hq8 hq hC1 hC2 hC3 ho1 ho2 hl1 hl2 hm1 hm2 hle hle1 hle2 HS
        go_wp2
        generalize wc.alloc (.cells #[.slice ao N cap, .slice (some ⟨g8, 0, none⟩) K c8] 22) = wA at *
        have VA := mkHid (V9.out.old A9)
        have CA := mkHid (C9.out.old A9)
        have BA := mkHid (B9.out.trans (A9.mono B9.out.size))
        clear V9 C9 B9 A9
        refine wp_loop_rounds 3 ?_
        rw [rounds_succ]
        go_wp2_with (first
          | (go_at_call 13; (with_reducible refine (ka.out _ _ VA.out).mono ?_); rintro e y1 ⟨p1, q1, rfl, t1, b1⟩
             have P1 := mkHid t1
             have V1 := mkHid (VA.out.old b1)
             have C1 := mkHid (CA.out.old b1)
             have G1 := cell_old b1 F1
             have B1 := mkHid (BA.out.trans (b1.mono BA.out.size))
             clear t1 b1 F0 F1)
          | (go_at_call 19; (with_reducible refine (kb.out _ _ V1.out).mono ?_); rintro e y2 ⟨p2, q2, rfl, t2, b2⟩
             have P2 := mkHid t2
             have O2 := mkHid (P1.out.old b2)
             have C2 := mkHid (C1.out.old b2)
             have G2 := cell_old b2 G1
             have B2 := mkHid (B1.out.trans (b2.mono B1.out.size))
             clear t2 b2 G1)
          | (go_at_call 12; (with_reducible refine (kc.out _ _ _ O2.out P2.out).mono ?_); rintro e y3 ⟨rfl, b3⟩
             have C3 := mkHid (C2.out.old b3)
             have G3 := cell_old b3 G2
             have B3 := mkHid (B2.out.trans (b3.mono B2.out.size))
             clear b3 G2))
        rw [rounds_succ]
        go_wp2_with (first
          | (go_at_call 13; (with_reducible refine (kd.out _ _ C3.out).mono ?_); rintro e y4 ⟨p4, q4, rfl, t4, b4⟩
             have P4 := mkHid t4
             have C4 := mkHid (C3.out.old b4)
             have B4 := mkHid (B3.out.trans (b4.mono B3.out.size))
             clear t4 b4 G3)
          | (go_at_call 19; (with_reducible refine (ke.out _ _ C4.out).mono ?_); rintro e y5 ⟨p5, q5, rfl, t5, b5⟩
             have P5 := mkHid t5
             have O5 := mkHid (P4.out.old b5)
             have B5 := mkHid (B4.out.trans (b5.mono B4.out.size))
             clear t5 b5)
          | (go_at_call 12; (with_reducible refine (kf.out _ _ _ O5.out P5.out).mono ?_); rintro e y6 ⟨rfl, b6⟩
             have B6 := mkHid (B5.out.trans (b6.mono B5.out.size))
             clear b6))
        rw [rounds_succ]
        go_wp2_with (go_at_call 10; (with_reducible refine (kw.out _).mono ?_); rintro e y7 ⟨rfl, b7⟩)
        go_ret
        exact ⟨rfl, B6.out.trans (b7.mono B6.out.size)⟩

end Go.Proofs.Ytnldjcjhhenppaa
