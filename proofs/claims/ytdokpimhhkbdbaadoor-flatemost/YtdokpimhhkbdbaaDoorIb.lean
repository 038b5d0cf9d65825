/-
  FlateMost: the law's walk.
-/
import Derived.Test.YtdokpimhhkbdbaaDoorIa
import Derived.Deep.DeepCutAuto
set_option linter.unusedSimpArgs false
set_option linter.unusedVariables false
namespace Go.Proofs.YtdokpimhhkbdbaaDoor
open Go.RowKit

theorem measN {k n : Nat} (h : k < n) : n - (intOf (.int .i64 ((k : Int) + 1))).toNat < n - (intOf (.int .i64 (k : Int))).toNat := by
  simp [intOf]; omega

theorem sto2_len (x : List Nat) (h1 : 65535 < x.length) : (sto2 x).length = x.length + 10 := by
  unfold sto2
  rw [if_neg (by omega)]
  simp only [List.length_append, head_len, List.length_take, List.length_drop]
  omega

theorem sto2_small (x : List Nat) (hs : Small x) (h1 : 65535 < x.length) (h2 : x.length ≤ 131070) : Small (sto2 x) := by
  unfold sto2
  rw [if_neg (by omega)]
  intro b hb
  simp only [List.mem_append] at hb
  rcases hb with ((hb | hb) | hb) | hb
  · exact head_small 65535 false (by decide) b hb
  · exact hs b (List.mem_of_mem_take hb)
  · exact head_small _ true (by omega) b hb
  · exact hs b (List.mem_of_mem_drop hb)

theorem lies_slice {w : World} {v : Value} {L : List Nat} (m : Nat) (hm : m = L.length) (h : Lies w v L) : ∃ ao cap, v = .slice ao m cap ∧ Lies w (.slice ao m cap) L := by
  have h0 := h
  obtain ⟨ao, cap, rfl, _⟩ := h
  subst hm
  exact ⟨ao, cap, rfl, h0⟩

theorem sto2_hid (Z : List Nat) (m : Nat) (hm : m = (sto2 Z).length) (hl : Z.length ≤ 131070) :
    Hid (∀ w v, Lies w v Z → Calls Tryd.prog 21 #[v] w fun e w' => ∃ ao cap, e = .returned (.slice ao m cap) ∧ Hid (w'.ownsRow w.heap.size 5 1 (.slice ao m cap) m ((sto2 Z).map byteV)) ∧ Hid (Below w.heap.size w w')) := by
  intro w v hv
  subst hm
  refine (stored_any w v Z hv hl).mono ?_
  rintro e w' ⟨v', rfl, ho, hb⟩
  obtain ⟨ao, cap, rfl, _⟩ := lies_own ho.out
  exact ⟨ao, cap, rfl, ho, hb⟩

/-- A sign written where other bytes lie that are younger than the writer's. -/
theorem Ms.sigL {p : Nat} {w wr y : World} {S : Nat × Nat} {g1 g2 g3 : Nat} (h : Ms p w wr S g1 g2 g3) (hb : Below wr.heap.size wr y) (t : List Nat) (s : Nat) (hc : nth t s ≤ 16) (hT : S.2 < 900000) {sv : Value} {m : Nat} {bs : List Nat} (hm : m = bs.length) (hs : y.ownsRow wr.heap.size 5 1 sv m (bs.map byteV)) :
    Calls Tryd.prog 17 #[.pointer (some ⟨p, 0, none⟩), .int .i64 (code t s : Nat), .int .i64 (nth t s : Nat)] y.drew fun e w' => e = .returned (.tuple #[]) ∧ Hid (Ms p w w' (wadd S (sigP t s)) g1 g2 g3) ∧ Hid (Lies w' sv bs) := by
  subst hm
  have hd : Below y.heap.size y y.drew := ⟨rfl, rfl, rfl, Nat.le_refl _, fun _ _ => rfl⟩
  have h1 : Ms p w y.drew S g1 g2 g3 := (h.old hb).old hd
  obtain ⟨v, hv, hj⟩ := h.gx.wr
  have hv1 : Dv p y.drew v S.1 S.2 := (hv.old hb).old hd
  refine (doccode_walk p y.drew v S.1 S.2 (code t s : Nat) (nth t s) hv1 hc hT).mono ?_
  rintro e w' ⟨rfl, v', hv', hkin, hf⟩
  obtain ⟨hg, hk⟩ := h1.gx.turn (S' := wadd S (sigP t s)) hv1 hj hv' hkin hf
  refine ⟨rfl, h1.go hg hk, ?_⟩
  show Lies w' sv bs
  obtain ⟨bs0, _, hown, _⟩ := id hv
  refine lies_own (B := wr.heap.size) ⟨hs.1, ?_⟩
  rcases hs.2 with h2 | ⟨g, cap, cur, rfl, hB, hgg, r⟩
  · exact .inl h2
  · refine .inr ⟨g, cap, cur, rfl, hB, ?_, r⟩
    rw [hf.block g (lt_of_block (w := y) hgg) ?_ ?_]
    · exact hgg
    · intro e
      have := h.gx.lt
      cases e
      omega
    · intro e
      have := (hown.lt g e.symm).2
      omega

theorem own_mono {y : World} {B B' : Nat} {v : Value} {m : Nat} {L : List Value} (h : B' ≤ B) (hs : y.ownsRow B 5 1 v m L) : y.ownsRow B' 5 1 v m L :=
  ⟨hs.1, hs.2.imp id fun ⟨g, cap, cur, e, hB, r⟩ => ⟨g, cap, cur, e, Nat.le_trans h hB, r⟩⟩

theorem two_cells (w : World) (x y : Value) : (w.alloc (.cells #[x, y] 22)).cell? ⟨w.heap.size, 0, none⟩ = some x ∧ (w.alloc (.cells #[x, y] 22)).cell? ⟨w.heap.size, 1, none⟩ = some y :=
  ⟨by rw [cell_of_row _ _ 0 _ 22 (0, 0) (heap_alloc_new w _)]; rfl, by rw [cell_of_row _ _ 1 _ 22 (0, 0) (heap_alloc_new w _)]; rfl⟩

set_option maxRecDepth 100000 in
set_option maxHeartbeats 8000000 in
theorem most_law (w : World) (c : Nat) (hc : c < 256) (more : Bool) :
    Calls Tryd.prog 5 #[.int .u8 (c : Int), .bool more] w fun e w' => e = .returned (.bool true) ∧ Below w.heap.size w w' := by
  obtain ⟨N, hN⟩ : ∃ N, N = 65536 := ⟨_, rfl⟩
  have hmk : ∀ wx, (Instr.makeSlice 22 (.int .i64 65536) (.int .i64 65536)).run Tryd.prog wx = .ok (.slice (some ⟨wx.heap.size, 0, none⟩) N N) (wx.alloc (.cells (Array.replicate N (byteV 0)) 5)) :=
    fun wx => made_zero2 N (by omega) 65536 (by omega) wx
  have hci : (c : Int) < 256 := by omega
  have k14 := docfix_hid
  have k15 := codes_hid litsL 288 lits_len.symm (by decide) (by decide) lits_ok
  have HC := Q.mkHid hc
  have HN := Q.mkHid hN
  have O0 : Hid ((w.alloc (.cells (Array.replicate N (byteV 0)) 5)).ownsRow w.heap.size 5 1 (.slice (some ⟨w.heap.size, 0, none⟩) N N) N ((halfL N c 0).map byteV)) := by
    show World.ownsRow _ _ _ _ _ _ _
    rw [half_zero]
    exact ⟨by simp, .inr ⟨w.heap.size, N, _, rfl, Nat.le_refl _, heap_alloc_new w _, Nat.le_refl _, by unfold maxLen; omega, by simp, by simp⟩⟩
  have B0 : Hid (Below w.heap.size w (w.alloc (.cells (Array.replicate N (byteV 0)) 5))) := (Below.refl _ _).alloc (Nat.le_refl _) _
  have hnI : (N : Int) ≤ 100000 := by omega
  clear hN
  go_enter Tryd.func5, Tryd.ntmps5
  go_wp2
  clear hmk
  go_loopw [24] (fun i wr => ∃ k : Nat, k ≤ N ∧ i = .int .i64 k ∧ Hid (wr.ownsRow w.heap.size 5 1 (.slice (some ⟨w.heap.size, 0, none⟩) N N) N ((halfL N c k).map byteV)) ∧ Hid (Below w.heap.size w wr)) (fun i _ => N - (intOf i).toNat)
  case atStart => exact ⟨0, by omega, rfl, O0, B0⟩
  case round =>
    obtain ⟨k, hk, rfl, OK, BK⟩ := hrel
    clear O0 B0
    by_cases hk2 : k < N
    · have hlen : (halfL N c k).length = N := half_len N c k hk
      have hcell := OK.out.cellAt k (by omega)
      obtain ⟨u, hu⟩ : ∃ u, ((halfL N c k).map byteV)[k]? = some u := ⟨_, List.getElem?_eq_getElem (by simp; omega)⟩
      rw [hu] at hcell
      have hfz := OK.out.frozenAt k
      have HO2 := Q.mkHid ((OK.out.stored k (byteV c)).1)
      rw [half_set N c k hk2] at HO2
      have HB2 := Q.mkHid (BK.out.setCell (p := ⟨w.heap.size, k, none⟩) (Nat.le_refl _) (byteV c))
      have hki : (k : Int) < (N : Int) := by omega
      have hw : wrap64 ((k : Int) + 1) = k + 1 := by unfold wrap64; omega
      clear hlen hu k14 k15
      go_wp2
      go_roundw
      case rel => exact ⟨k + 1, by omega, by go_num, HO2, HB2⟩
      case measure => first | exact measN hk2 | (rw [hw]; exact measN hk2)
    · obtain rfl : k = N := by omega
      rw [half_full] at OK
      obtain ⟨X, hX⟩ : ∃ X, X = List.replicate k c := ⟨_, rfl⟩
      have hXl : X.length = k := by rw [hX, List.length_replicate]
      rw [← hX] at OK
      have LX : Hid (Lies wr (.slice (some ⟨w.heap.size, 0, none⟩) k k) X) := lies_n hXl OK.out
      have HX := Q.mkHid hX
      have HXL := Q.mkHid hXl
      have HSm : Hid (Small X) := by show Small X; rw [hX]; intro b hb; rw [List.eq_of_mem_replicate hb]; exact hc
      have G0 := Q.mkHid (Gx.first wr)
      clear hX hXl OK hk
      obtain ⟨w3, hw3⟩ : ∃ w3, w3 = wr := ⟨_, rfl⟩
      subst hw3
      have BK2 : Hid (Below w.heap.size w w3) := BK
      clear BK
      have HGX : Hid (w.heap.size ≤ w3.heap.size) := BK2.out.size
      generalize hgx : w.heap.size = gx at LX BK2 HGX ⊢
      have HG0 := Q.mkHid hgx
      clear hgx
      have hp1 : Hid (∀ p wx g1 g2 g3, Ms p w3 wx (0, 0) g1 g2 g3 → Calls Tryd.prog 12 #[.pointer (some ⟨p, 0, none⟩), .int .i64 1, .int .i64 1] wx fun e w' => e = .returned (.tuple #[]) ∧ Hid (Ms p w3 w' (wadd (0, 0) (lowP 1 1)) g1 g2 g3)) := fun p wx g1 g2 g3 h => h.put 1 1 (by decide) (by decide)
      have hp2 : Hid (∀ p wx g1 g2 g3, Ms p w3 wx (wadd (0, 0) (lowP 1 1)) g1 g2 g3 → Calls Tryd.prog 12 #[.pointer (some ⟨p, 0, none⟩), .int .i64 1, .int .i64 2] wx fun e w' => e = .returned (.tuple #[]) ∧ Hid (Ms p w3 w' fixS g1 g2 g3)) := fun p wx g1 g2 g3 h => h.put 1 2 (by decide) (by decide)
      go_upto_region 12 with (first
        | (go_at_call 14
           generalize w3.alloc (.cells #[.slice none 0 0, .int .i64 0, .bool false] 35) = w4 at *
           (with_reducible refine (k14.out _).mono ?_); rintro e w5 ⟨g1, g2, rfl, T5⟩
           have G5 := Q.mkHid (G0.out.old T5.out.below)
           have E1 := Q.mkHid (tb_own T5.out.o1 lits_len)
           have E2 := Q.mkHid (tb_own T5.out.o2 dists_len)
           have O1 : Hid (w5.ownsRow 0 3 1 (.slice (some ⟨g1, 0, none⟩) 288 288) 288 (litsL.map natV)) := Q.mkHid (owns_low T5.out.o1))
        | (go_at_call 15; (with_reducible refine (k15.out _ _ _ O1.out).mono ?_); rintro e w6 ⟨g3, c3, rfl, T6, B6⟩
           have M6 : Hid (Ms w3.heap.size w3 w6 (0, 0) g1 g2 g3) := ⟨G5.out.old B6.out, E1.out.keep (Kp.ofBelow B6.out), E2.out.keep (Kp.ofBelow B6.out), T6.out.1⟩
           clear G5 E1 E2 O1 T5 B6)
        | (go_at_call 12; (with_reducible refine (hp1.out _ _ _ _ _ M6.out).mono ?_); rintro e w7 ⟨rfl, M7⟩)
        | (go_at_call 12; (with_reducible refine (hp2.out _ _ _ _ _ M7.out).mono ?_); rintro e w8 ⟨rfl, M8⟩))
      have hc3 : 288 ≤ c3 := T6.out.2
      clear M6 M7 hp1 hp2 k14 k15 G0 T6
      obtain ⟨p, hp⟩ : ∃ p, p = w3.heap.size := ⟨_, rfl⟩
      rw [← hp] at M8 ⊢
      have HP := Q.mkHid hp
      clear hp
      have L8 := M8.out.drew
      obtain ⟨y1, y2⟩ := L8.lit c (by omega)
      have hl9 := lits_pos c (by omega)
      have hcode : Hid (Calls Tryd.prog 17 #[.pointer (some ⟨p, 0, none⟩), .int .i64 (code litsL c : Nat), .int .i64 (nth litsL c : Nat)] w8.drew fun e w' => e = .returned (.tuple #[]) ∧ Hid (Ms p w3 w' (mostJ c 0) g1 g2 g3)) := L8.sig litsL c (by omega) (by decide)
      generalize nth litsL c = N1 at y1 hcode
      generalize code litsL c = C1 at y2 hcode
      have hc288 : (c : Int) < 288 := by omega
      clear L8 hl9
      go_cut [] (fun wx => Hid (Ms p w3 wx (mostJ c 0) g1 g2 g3))
      case first =>
        clear M8
        go_region_with (first
          | (go_at_call 17; (with_reducible refine hcode.out.mono ?_); rintro e w9 ⟨rfl, L9⟩))
        all_goals go_wp2
        all_goals
          go_meet
          case rel => exact L9
      case rest =>
        have M9 := hcut
        clear y1 y2 hcode M8 hcut
        go_wp2
        go_loopw [12] (fun i wy => ∃ j : Nat, j ≤ 257 ∧ i = .int .i64 j ∧ Hid (Ms p w3 wy (mostJ c j) g1 g2 g3)) (fun i _ => 257 - (intOf i).toNat)
        case atStart => exact ⟨0, by omega, rfl, M9⟩
        case round =>
          obtain ⟨j, hj, rfl, MJ⟩ := hrel
          clear M9
          by_cases hj2 : j < 257
          · have klen : Hid (∀ w, Calls Tryd.prog 16 #[.int .i64 255] w fun e w' => e = .returned (.tuple #[.int .i64 (257 + lenC 255 : Nat), .int .i64 (255 - Lz.lenB (lenC 255) : Nat), .int .i64 (Lz.lenN (lenC 255) : Nat)]) ∧ w' = w) := Lz.lenCodeR 255 (by omega) (by omega)
            obtain ⟨a1, a2, a3⟩ := Lz.len_code 255 (by omega) (by omega)
            change lenC 255 ≤ 28 at a1
            have m1 := lenN_le (lenC 255) a1
            have m3 := lits_pos (257 + lenC 255) (by omega)
            have m4 := dists_pos 0 (by omega)
            have m5 : code distsL 0 = 0 := by decide +kernel
            have hTB : (mostJ c j).2 < 20000 := by have := mostJ_len c j HC.out; omega
            have HT : Hid (mostJ c (j + 1) = wadd (wadd (wadd (mostJ c j) (sigP litsL (257 + lenC 255))) (lowP (255 - Lz.lenB (lenC 255)) (Lz.lenN (lenC 255)))) (sigP distsL 0)) := by
              show _ = _
              rw [mostJ_succ, put_row]
            generalize mostJ c j = S at MJ HT hTB
            obtain ⟨S3, hS3⟩ : ∃ S3, S3 = mostJ c (j + 1) := ⟨_, rfl⟩
            rw [← hS3] at HT
            have HS3 := Q.mkHid hS3
            clear hS3 a2 a3
            generalize 255 - Lz.lenB (lenC 255) = e1 at klen HT
            generalize Lz.lenN (lenC 255) = n1 at klen HT m1
            generalize hs1 : 257 + lenC 255 = s1 at klen HT m3
            have hs1b : s1 < 288 := by omega
            have hs1i : (s1 : Int) < 288 := by omega
            clear a1 hs1
            have T1 : (wadd S (sigP litsL s1)).2 < 20100 := by show S.2 + nth litsL s1 < _; omega
            have T2 : (wadd (wadd S (sigP litsL s1)) (lowP e1 n1)).2 < 20200 := by show (wadd S (sigP litsL s1)).2 + n1 < _; omega
            have hsg1 : Hid (∀ wx, Ms p w3 wx S g1 g2 g3 → Calls Tryd.prog 17 #[.pointer (some ⟨p, 0, none⟩), .int .i64 (code litsL s1 : Nat), .int .i64 (nth litsL s1 : Nat)] wx fun e w' => e = .returned (.tuple #[]) ∧ Hid (Ms p w3 w' (wadd S (sigP litsL s1)) g1 g2 g3)) := fun wx h => h.sig litsL s1 (by omega) (by omega)
            have hpt1 : Hid (∀ wx, Ms p w3 wx (wadd S (sigP litsL s1)) g1 g2 g3 → Calls Tryd.prog 12 #[.pointer (some ⟨p, 0, none⟩), .int .i64 (e1 : Int), .int .i64 (n1 : Int)] wx fun e w' => e = .returned (.tuple #[]) ∧ Hid (Ms p w3 w' (wadd (wadd S (sigP litsL s1)) (lowP e1 n1)) g1 g2 g3)) := fun wx h => h.put e1 n1 (by omega) (by omega)
            have hsg2 : Hid (∀ wx, Ms p w3 wx (wadd (wadd S (sigP litsL s1)) (lowP e1 n1)) g1 g2 g3 → Calls Tryd.prog 17 #[.pointer (some ⟨p, 0, none⟩), .int .i64 0, .int .i64 5] wx fun e w' => e = .returned (.tuple #[]) ∧ Hid (Ms p w3 w' S3 g1 g2 g3)) := fun wx h => by
              have := h.sig distsL 0 (by omega) (by omega)
              rw [m4, m5, ← HT.out] at this
              exact this
            generalize wadd (wadd S (sigP litsL s1)) (lowP e1 n1) = S2 at hpt1 hsg2
            generalize wadd S (sigP litsL s1) = S1 at hsg1 hpt1
            have HY : Hid (∀ wx, Ms p w3 wx S g1 g2 g3 → wx.cell? ⟨g1, s1, none⟩ = some (.int .i64 (nth litsL s1 : Nat)) ∧ wx.cell? ⟨g3, s1, none⟩ = some (.int .i64 (code litsL s1 : Nat))) := fun wx h => h.lit s1 hs1b
            have HZ : Hid (∀ wx, Ms p w3 wx S2 g1 g2 g3 → wx.cell? ⟨g2, 0, none⟩ = some (.int .i64 5)) := fun wx h => by
              have := h.t2.2 0 (by omega)
              rw [m4] at this
              exact this
            generalize nth litsL s1 = N1 at hsg1 HY
            generalize code litsL s1 = C1 at hsg1 HY
            clear T1 T2 HT hTB m1 m3 m4 m5
            have hjI : (j : Int) < 257 := by omega
            have hw : wrap64 ((j : Int) + 1) = j + 1 := by unfold wrap64; omega
            go_upto_region 17 with (first
              | (go_at_call 16; (with_reducible refine (klen.out _).mono ?_); rintro e wx ⟨rfl, hx⟩; have hx := hx.symm; subst hx))
            have L1 := MJ.out.drew
            obtain ⟨y1, y2⟩ := HY.out _ L1
            go_cut [] (fun wx => Hid (Ms p w3 wx S1 g1 g2 g3))
            case first =>
              have L1' := Q.mkHid L1
              clear MJ L1
              go_region_with (first
                | (go_at_call 17; (with_reducible refine (hsg1.out _ L1'.out).mono ?_); rintro e w9 ⟨rfl, L9⟩))
              all_goals go_wp2
              all_goals
                go_meet
                case rel => exact L9
            case rest =>
              clear y1 y2 L1 MJ
              go_upto_region 19 with (first
                | (go_at_call 12; (with_reducible refine (hpt1.out _ hcut.out).mono ?_); rintro e w9 ⟨rfl, L9⟩))
              have z1 := HZ.out _ L9.out
              go_wp2_with (first
                | (go_at_call 17; (with_reducible refine (hsg2.out _ L9.out).mono ?_); rintro e w10 ⟨rfl, L10⟩))
              go_roundw
              case rel => exact ⟨j + 1, by omega, by go_num, by rw [← HS3.out]; exact L10⟩
              case measure => first | exact measN hj2 | (rw [hw]; exact measN hj2)
          · obtain rfl : j = 257 := by omega
            have LXr : Hid (Lies wr (.slice (some ⟨gx, 0, none⟩) k k) X) := LX.out.old (by rw [← HP.out]; exact MJ.out.gx.below)
            have hk6 : k = 65536 := HN.out
            have hXl := HXL.out
            have hTB : (mostJ c 257).2 < 20000 := by have := mostJ_len c 257 HC.out; omega
            obtain ⟨m, hm⟩ : ∃ m, m = (sto2 X).length := ⟨_, rfl⟩
            have hm2 : m ≤ 200000 := by rw [hm, sto2_len X (by omega)]; omega
            have k21 := sto2_hid X m hm (by omega)
            have KM := Q.mkHid (most_unp c HC.out)
            have h256 : nth litsL 256 = 7 := lits_256.1
            have kw := Q.wakes_hid
            cases more
            · have kU2 := Q.unp_ok (sto2 X) X (by rw [sto2_unp X HSm.out (by omega) (by omega), if_neg (by omega)]) (sto2_small X HSm.out (by omega) (by omega)) (by rw [← hm]; omega)
              have kSm := Q.sameB_hid X (by omega)
              have hTB2 := Q.mkHid hTB
              have HXk : Hid (List.replicate 65536 c = X) := by show _ = _; rw [HX.out, hk6]
              have HMm := Q.mkHid hm
              clear hk6 hXl hm hTB
              go_upto_region 24 with (first
                | (go_at_call 21; (with_reducible refine (k21.out _ _ LXr.out).mono ?_); rintro e y1 ⟨sa, sc, rfl, LS, B1⟩))
              have L1 := (MJ.out.old B1.out).drew
              obtain ⟨z1, z2⟩ := L1.lit 256 (by decide)
              have hcode : Hid (Calls Tryd.prog 17 #[.pointer (some ⟨p, 0, none⟩), .int .i64 (code litsL 256 : Nat), .int .i64 (nth litsL 256 : Nat)] y1.drew fun e w' => e = .returned (.tuple #[]) ∧ Hid (Ms p w3 w' (wadd (mostJ c 257) (sigP litsL 256)) g1 g2 g3) ∧ Hid (Lies w' (.slice sa m sc) (sto2 X))) :=
                MJ.out.sigL B1.out litsL 256 (by omega) (by have := hTB2.out; omega) HMm.out LS.out
              generalize nth litsL 256 = N1 at z1 hcode
              generalize code litsL 256 = C1 at z2 hcode
              clear L1 h256
              go_cut [] (fun wx => Hid (Ms p w3 wx (wadd (mostJ c 257) (sigP litsL 256)) g1 g2 g3) ∧ Hid (Lies wx (.slice sa m sc) (sto2 X)))
              case first =>
                clear MJ LXr LS B1 LX HX HXL HSm kU2 kSm k21 KM kw HXk
                go_region_with (first
                  | (go_at_call 17; (with_reducible refine hcode.out.mono ?_); rintro e w9 ⟨rfl, L9, L9'⟩))
                all_goals go_wp2
                all_goals
                  go_meet
                  case rel => exact ⟨L9, L9'⟩
              case rest =>
                obtain ⟨M9, S9⟩ := hcut
                clear z1 z2 hcode LS B1 k21 MJ LXr
                have LX9 : Hid (Lies wc (.slice (some ⟨gx, 0, none⟩) k k) X) := LX.out.old (by rw [← HP.out]; exact M9.out.gx.below)
                have hsum := most_sum c false _ rfl
                obtain ⟨ab, nb, cb, bs, f0, lb, hW⟩ := M9.out.gx.writ hsum
                have hbl : bs.length ≤ 140737488355328 := by
                  have h1 := hW.2.2
                  have h2 : (wadd (mostJ c 257) (sigP litsL 256)).2 ≤ 20400 := by show (mostJ c 257).2 + nth litsL 256 ≤ _; rw [lits_256.1]; have := hTB2.out; omega
                  have h3 := hsum.2
                  have h4 : (wadd (if false = true then wadd (mostJ c 257) (sigP litsL c) else mostJ c 257) (sigP litsL 256)).2 = (wadd (mostJ c 257) (sigP litsL 256)).2 := rfl
                  omega
                have kU1 := Q.unp_ok bs X (by rw [KM.out false bs hW, if_neg (by decide), HXk.out]) hW.1 hbl
                have BW : Hid (Below gx w wc) := BK2.out.trans (M9.out.gx.below.mono (by rw [HP.out]; exact HGX.out))
                have A9 : Below wc.heap.size wc (wc.alloc (.cells #[.slice ab nb cb, .slice sa m sc] 22)) := (Below.refl _ _).alloc (Nat.le_refl _) _
                obtain ⟨F0, F1⟩ := two_cells wc (.slice ab nb cb) (.slice sa m sc)
                have LB := Q.mkHid (lb.old A9)
                have LSA := Q.mkHid (S9.out.old A9)
                have LXA := Q.mkHid (LX9.out.old A9)
                have BA : Hid (Below gx w (wc.alloc (.cells #[.slice ab nb cb, .slice sa m sc] 22))) := BW.out.alloc (Nat.le_trans HGX.out (by rw [← HP.out]; exact Nat.le_of_lt M9.out.gx.lt)) _
                clear lb S9 LX9 BW hW hsum hbl KM HXk HX hTB2 HMm HSm
                have hmI : (m : Int) ≤ 200000 := by omega
                have HGA : Hid (gx ≤ (wc.alloc (.cells #[.slice ab nb cb, .slice sa m sc] 22)).heap.size) := by
                  have h1 := HGX.out
                  have h2 := HP.out
                  have h4 := M9.out.gx.lt
                  have h3 := A9.size
                  exact Nat.le_trans (by omega) h3
                clear M9 A9
                go_wp2
                generalize wc.alloc (.cells #[.slice ab nb cb, .slice sa m sc] 22) = wA at *
                generalize wc.heap.size = h at *
                refine wp_loop_rounds 3 ?_
                rw [rounds_succ]
                go_wp2_with (first
                  | (go_at_call 8; (with_reducible refine (kU1.out _ _ LB.out).mono ?_); rintro e x1 ⟨v1, rfl, O1, b1⟩
                     have L1 := Q.mkHid (lies_own O1.out)
                     have X1 := Q.mkHid (LXA.out.old b1.out)
                     have S1 := Q.mkHid (LSA.out.old b1.out)
                     have F01 := cell_old b1.out F1
                     have H1 := Q.mkHid (Nat.le_trans HGA.out b1.out.size)
                     have B1 := Q.mkHid (BA.out.trans (b1.out.mono HGA.out))
                     clear O1 F1)
                  | (go_at_call 20; (with_reducible refine (kSm.out _ _ _ L1.out X1.out).mono ?_); rintro e x2 ⟨rfl, b2⟩
                     have X2 := Q.mkHid (X1.out.old b2.out)
                     have S2 := Q.mkHid (S1.out.old b2.out)
                     have F2 := cell_old b2.out F01
                     have H2 := Q.mkHid (Nat.le_trans H1.out b2.out.size)
                     have B2 := Q.mkHid (B1.out.trans (b2.out.mono H1.out))
                     clear F01))
                rw [rounds_succ]
                go_wp2_with (first
                  | (go_at_call 8; (with_reducible refine (kU2.out _ _ S2.out).mono ?_); rintro e x3 ⟨v3, rfl, O3, b3⟩
                     have L3 := Q.mkHid (lies_own O3.out)
                     have X3 := Q.mkHid (X2.out.old b3.out)
                     have S3 := Q.mkHid (S2.out.old b3.out)
                     have F3 := cell_old b3.out F2
                     have H3 := Q.mkHid (Nat.le_trans H2.out b3.out.size)
                     have B3 := Q.mkHid (B2.out.trans (b3.out.mono H2.out))
                     clear O3 F2)
                  | (go_at_call 20; (with_reducible refine (kSm.out _ _ _ L3.out X3.out).mono ?_); rintro e x4 ⟨rfl, b4⟩
                     have X4 := Q.mkHid (X3.out.old b4.out)
                     have S4 := Q.mkHid (S3.out.old b4.out)
                     have F4 := cell_old b4.out F3
                     have H4 := Q.mkHid (Nat.le_trans H3.out b4.out.size)
                     have B4 := Q.mkHid (B3.out.trans (b4.out.mono H3.out))
                     clear F3))
                rw [rounds_succ]
                go_wp2_with (first
                  | (go_at_call 10; (with_reducible refine (kw.out _).mono ?_); rintro e x5 ⟨rfl, b5⟩
                     have B5 := B4.out.trans (b5.out.mono H4.out)))
                go_ret
                exact ⟨rfl, by rw [HG0.out]; exact B5⟩
            · obtain ⟨m', hm'⟩ : ∃ m', m' = (sto2 (X ++ [c])).length := ⟨_, rfl⟩
              have HSm2 : Small (X ++ [c]) := by
                intro b hb
                rcases List.mem_append.1 hb with hb | hb
                · exact HSm.out b hb
                · simp at hb; omega
              have hX1 : (X ++ [c]).length = 65537 := by simp; omega
              have hm3 : m' ≤ 200000 := by rw [hm', sto2_len (X ++ [c]) (by omega)]; omega
              have k22 := sto2_hid (X ++ [c]) m' hm' (by omega)
              have k19 := Q.copyB_hid X k hXl.symm (by omega)
              have kU2 := unp_lim (sto2 (X ++ [c])) (by rw [sto2_unp (X ++ [c]) HSm2 (by simp; omega) (by simp; omega), if_pos (by simp; omega)]) (sto2_small (X ++ [c]) HSm2 (by simp; omega) (by simp; omega)) (by rw [← hm']; omega)
              have hTB2 := Q.mkHid hTB
              have HMm := Q.mkHid hm'
              have hXl2 := Q.mkHid hXl
              have HX2 := Q.mkHid HSm2
              clear hk6 hXl hm hm' hTB HSm2
              go_upto_region 22 with (first
                | (go_at_call 21; (with_reducible refine (k21.out _ _ LXr.out).mono ?_); rintro e y1 ⟨sa1, sc1, rfl, LS1, B1⟩))
              have hl9 := lits_pos c (by omega)
              have MY := Q.mkHid (MJ.out.old B1.out)
              have L1 := MY.out.drew
              obtain ⟨z1, z2⟩ := L1.lit c (by omega)
              have hcode : Hid (Calls Tryd.prog 17 #[.pointer (some ⟨p, 0, none⟩), .int .i64 (code litsL c : Nat), .int .i64 (nth litsL c : Nat)] y1.drew fun e w' => e = .returned (.tuple #[]) ∧ Hid (Ms p w3 w' (wadd (mostJ c 257) (sigP litsL c)) g1 g2 g3)) := L1.sig litsL c (by omega) (by have := hTB2.out; omega)
              generalize nth litsL c = N1 at z1 hcode hl9
              generalize code litsL c = C1 at z2 hcode
              have hl10 := Q.mkHid hl9
              clear L1 hl9
              go_cut [] (fun wx => Hid (Ms p w3 wx (wadd (mostJ c 257) (sigP litsL c)) g1 g2 g3))
              case first =>
                clear MJ LXr LS1 B1 LX HX HXL HSm kU2 k21 KM kw MY k22 k19 HX2 h256
                go_region_with (first
                  | (go_at_call 17; (with_reducible refine hcode.out.mono ?_); rintro e w9 ⟨rfl, L9⟩))
                all_goals go_wp2
                all_goals
                  go_meet
                  case rel => exact L9
              case rest =>
                have M9 := hcut
                clear z1 z2 hcode LS1 B1 k21 MJ LXr MY hcut
                have LX9 : Hid (Lies wc (.slice (some ⟨gx, 0, none⟩) k k) X) := LX.out.old (by rw [← HP.out]; exact M9.out.gx.below)
                go_upto_region 24 with (first
                  | (go_at_call 19; (with_reducible refine (k19.out _ _ LX9.out).mono ?_); rintro e y5 ⟨v5, rfl, o5, b5⟩
                     have O5 := Q.mkHid o5
                     have hz5 := b5.size
                     have B5 := Q.mkHid b5
                     clear o5 b5)
                  | (at_builtin; refine Lz.wpList_pushB rfl (.tmp 99) (.tmp 101) rfl wc.heap.size _ k _ rfl O5.out (c : Int) y5.heap.size rfl rfl (by omega) hz5 ?_
                     intro g6 c6 y6 o6 _ _ b6
                     have L6 : Hid (Lies y6 (.slice (some ⟨g6, 0, none⟩) (k + 1) c6) (X ++ [c])) := lies_n (by rw [List.length_append, hXl2.out]) (by rw [List.map_append]; exact o6)
                     have B6 := Q.mkHid (B5.out.trans (b6.mono (Nat.le_refl _)))
                     clear o6 b6 O5)
                  | (go_at_call 21; (with_reducible refine (k22.out _ _ L6.out).mono ?_); rintro e y7 ⟨sa, sc, rfl, LS, B7⟩))
                have BB : Hid (Below wc.heap.size wc y7) := B6.out.trans (B7.out.mono B6.out.size)
                have LS2 := Q.mkHid (own_mono B6.out.size LS.out)
                have L1 := (M9.out.old BB.out).drew
                obtain ⟨z1, z2⟩ := L1.lit 256 (by decide)
                have hT3 : Hid ((wadd (mostJ c 257) (sigP litsL c)).2 < 20100) := by
                  show (mostJ c 257).2 + nth litsL c < _
                  have h1 := hTB2.out
                  have h2 := lits_pos c (by omega)
                  omega
                have hcode : Hid (Calls Tryd.prog 17 #[.pointer (some ⟨p, 0, none⟩), .int .i64 (code litsL 256 : Nat), .int .i64 (nth litsL 256 : Nat)] y7.drew fun e w' => e = .returned (.tuple #[]) ∧ Hid (Ms p w3 w' (wadd (wadd (mostJ c 257) (sigP litsL c)) (sigP litsL 256)) g1 g2 g3) ∧ Hid (Lies w' (.slice sa m' sc) (sto2 (X ++ [c])))) :=
                  M9.out.sigL BB.out litsL 256 (by omega) (by have := hT3.out; omega) HMm.out LS2.out
                generalize nth litsL 256 = N1 at z1 hcode
                generalize code litsL 256 = C1 at z2 hcode
                clear L1 h256
                go_cut [] (fun wx => Hid (Ms p w3 wx (wadd (wadd (mostJ c 257) (sigP litsL c)) (sigP litsL 256)) g1 g2 g3) ∧ Hid (Lies wx (.slice sa m' sc) (sto2 (X ++ [c]))))
                case first =>
                  clear LX HX HXL HSm kU2 KM kw k22 k19 HX2 LS LS2 BB B6 B7 L6 M9 LX9
                  go_region_with (first
                    | (go_at_call 17; (with_reducible refine hcode.out.mono ?_); rintro e w9 ⟨rfl, L9, L9'⟩))
                  all_goals go_wp2
                  all_goals
                    go_meet
                    case rel => exact ⟨L9, L9'⟩
                case rest =>
                  obtain ⟨M9b, S9⟩ := hcut
                  clear z1 z2 hcode LS LS2 BB B6 B7 k22 k19 L6 M9 LX9
                  have hsum := most_sum c true _ rfl
                  obtain ⟨ab, nb, cb, bs, f0, lb, hW⟩ := M9b.out.gx.writ hsum
                  have hbl : bs.length ≤ 140737488355328 := by
                    have h1 := hW.2.2
                    have h2 : (wadd (wadd (mostJ c 257) (sigP litsL c)) (sigP litsL 256)).2 ≤ 20400 := by show (wadd (mostJ c 257) (sigP litsL c)).2 + nth litsL 256 ≤ _; rw [lits_256.1]; have := hT3.out; omega
                    have h3 := hsum.2
                    have h4 : (wadd (if true = true then wadd (mostJ c 257) (sigP litsL c) else mostJ c 257) (sigP litsL 256)).2 = (wadd (wadd (mostJ c 257) (sigP litsL c)) (sigP litsL 256)).2 := rfl
                    omega
                  have kU1 := unp_lim bs (by rw [KM.out true bs hW, if_pos rfl]) hW.1 hbl
                  have BW : Hid (Below gx w wc) := BK2.out.trans (M9b.out.gx.below.mono (by rw [HP.out]; exact HGX.out))
                  have A9 : Below wc.heap.size wc (wc.alloc (.cells #[.slice ab nb cb, .slice sa m' sc] 22)) := (Below.refl _ _).alloc (Nat.le_refl _) _
                  obtain ⟨F0, F1⟩ := two_cells wc (.slice ab nb cb) (.slice sa m' sc)
                  have LB := Q.mkHid (lb.old A9)
                  have LSA := Q.mkHid (S9.out.old A9)
                  have BA : Hid (Below gx w (wc.alloc (.cells #[.slice ab nb cb, .slice sa m' sc] 22))) := BW.out.alloc (Nat.le_trans HGX.out (by rw [← HP.out]; exact Nat.le_of_lt M9b.out.gx.lt)) _
                  clear lb S9 BW hW hsum hbl KM HX hTB2 HMm HSm
                  have hmI : (m' : Int) ≤ 200000 := by omega
                  have HGA : Hid (gx ≤ (wc.alloc (.cells #[.slice ab nb cb, .slice sa m' sc] 22)).heap.size) := by
                    have h1 := HGX.out
                    have h2 := HP.out
                    have h4 := M9b.out.gx.lt
                    have h3 := A9.size
                    exact Nat.le_trans (by omega) h3
                  clear M9b A9
                  go_wp2
                  generalize wc.alloc (.cells #[.slice ab nb cb, .slice sa m' sc] 22) = wA at *
                  generalize wc.heap.size = h at *
                  refine wp_loop_rounds 3 ?_
                  rw [rounds_succ]
                  go_wp2_with (first
                    | (go_at_call 8; (with_reducible refine (kU1.out _ _ LB.out).mono ?_); rintro e x1 ⟨rfl, b1⟩
                       have S1 := Q.mkHid (LSA.out.old b1.out)
                       have F01 := cell_old b1.out F1
                       have H1 := Q.mkHid (Nat.le_trans HGA.out b1.out.size)
                       have B1 := Q.mkHid (BA.out.trans (b1.out.mono HGA.out))
                       clear F1))
                  rw [rounds_succ]
                  go_wp2_with (first
                    | (go_at_call 8; (with_reducible refine (kU2.out _ _ S1.out).mono ?_); rintro e x2 ⟨rfl, b2⟩
                       have F2 := cell_old b2.out F01
                       have H2 := Q.mkHid (Nat.le_trans H1.out b2.out.size)
                       have B2 := Q.mkHid (B1.out.trans (b2.out.mono H1.out))
                       clear F01))
                  rw [rounds_succ]
                  go_wp2_with (first
                    | (go_at_call 10; (with_reducible refine (kw.out _).mono ?_); rintro e x3 ⟨rfl, b3⟩
                       have B3 := B2.out.trans (b3.out.mono H2.out)))
                  go_ret
                  exact ⟨rfl, by rw [HG0.out]; exact B3⟩

theorem most_any (w : World) (x : Int) (hx : 0 ≤ x ∧ x < 256) (more : Bool) :
    Calls Tryd.prog 5 #[.int .u8 x, .bool more] w fun e w' => e = .returned (.bool true) ∧ Below w.heap.size w w' := by
  have h := most_law w x.toNat (by omega) more
  rwa [Int.toNat_of_nonneg hx.1] at h

end Go.Proofs.YtdokpimhhkbdbaaDoor
