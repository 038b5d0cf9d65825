/-
  LzForms: its walk.
-/
import Derived.Test.YthjnkoagmjcjfaaFma
import Derived.Deep.DeepCutAuto
set_option linter.unusedSimpArgs false
set_option linter.unusedVariables false
namespace Go.Proofs.Ythjnkoagmjcjfaa
open Go.RowKit

theorem Hid.mk1 {p : Prop} (h : p) : Hid p := h

theorem set_byte (t : List Nat) (k x : Nat) : (t.map byteV).set k (.int .u8 (x : Int)) = (t.set k x).map byteV := by
  rw [List.map_set]
  rfl

theorem fill_step (k N c : Nat) (h : k < N) : (List.replicate k c ++ List.replicate (N - k) 0).set k c = List.replicate (k + 1) c ++ List.replicate (N - (k + 1)) 0 := by
  have e : N - k = (N - (k + 1)) + 1 := by omega
  rw [List.set_append_right _ _ (by simp)]
  simp only [List.length_replicate, Nat.sub_self]
  rw [e, List.replicate_succ, List.set_cons_zero, List.replicate_succ', List.append_assoc]
  rfl

theorem below_set {B g : Nat} {w w' : World} (h : Below B w w') (o : Nat) (u : Value) (hg : B ≤ g) : Below B w (w'.setCell ⟨g, o, none⟩ u) := h.setCell (p := ⟨g, o, none⟩) hg u

theorem tells_drop {w : World} {g o cap : Nat} {l : List St} (k : Nat) (hk : k ≤ l.length) (h : ∀ j u, (cellsL l)[j]? = some u → w.cell? ⟨g, o + j, none⟩ = some u) : Tells w (.slice (some ⟨g, o + k * 3, none⟩) (l.length - k) cap) (l.drop k) := by
  refine .inr ⟨g, o + k * 3, cap, by rw [List.length_drop], fun j u hu => ?_⟩
  have e : cellsL (l.drop k) = (cellsL l).drop (k * 3) := by
    have : cellsL l = cellsL (l.take k) ++ cellsL (l.drop k) := by rw [← cellsL_append, List.take_append_drop]
    rw [this, List.drop_append_of_le_length (by rw [cellsL_len, List.length_take]; omega)]
    have hz : (cellsL (l.take k)).drop (k * 3) = [] := List.drop_of_length_le (by rw [cellsL_len, List.length_take]; omega)
    rw [hz, List.nil_append]
  rw [e, List.getElem?_drop] at hu
  have := h _ _ hu
  rw [Nat.add_assoc]
  exact this

/-- Split, of bytes that lie anywhere: where its steps lie. -/
theorem split_cells (b : List Nat) (l : List St) (n : Nat) (hl : splitL b = l) (hn : l.length = n) (h0 : 0 < n) (hb : b.length ≤ 5864062014000) : Hid (∀ w v, Lies w v b → Calls Try.prog 9 #[v] w fun e w' => ∃ g cap, e = .returned (.slice (some ⟨g, 0, none⟩) n cap) ∧ n ≤ cap ∧ (∀ j u, (cellsL l)[j]? = some u → w'.cell? ⟨g, 0 + j, none⟩ = some u) ∧ Below w.heap.size w w') := by
  intro w v hv
  refine (split_walk w v b hv hb).mono ?_
  rintro e w' ⟨v', rfl, h, hbl⟩
  rw [hl] at h
  have h' : w'.ownsRow w.heap.size 27 3 v' l.length (cellsL l) := h
  rw [hn] at h'
  rcases h'.2 with ⟨_, hz⟩ | ⟨g, cap, cur, rfl, _, _, hc, _⟩
  · omega
  · refine ⟨g, cap, rfl, hc, fun j u hu => ?_, hbl⟩
    have := h'.cells (g := g) rfl j u hu
    rw [Addr.add_mid] at this
    exact this

abbrev L10 : List St := [⟨97, 0, 0⟩, ⟨98, 0, 0⟩, ⟨99, 0, 0⟩, ⟨100, 0, 0⟩, ⟨88, 0, 0⟩, ⟨0, 3, 5⟩, ⟨89, 0, 0⟩, ⟨0, 4, 9⟩, ⟨90, 0, 0⟩, ⟨0, 3, 5⟩]
abbrev L6 : List St := [⟨88, 0, 0⟩, ⟨0, 3, 5⟩, ⟨89, 0, 0⟩, ⟨0, 4, 9⟩, ⟨90, 0, 0⟩, ⟨0, 3, 5⟩]

theorem str_cells (t : List Nat) : t.map byteV ++ Lib.strCells { data := #[113, 114, 115] } = (t ++ [113, 114, 115]).map byteV := by
  rw [List.map_append]
  rfl

set_option maxRecDepth 100000 in
set_option maxHeartbeats 8000000 in
theorem forms_law (w : World) (n : Int) (c : Nat) :
    Calls Try.prog 3 #[.int .i64 n, .int .u8 (c : Int)] w fun e w' => e = .returned (.bool true) ∧ Below w.heap.size w w' := by
  obtain ⟨r, hr, hwi⟩ := within_lit2 n 300 300 (by decide) rfl (by decide)
  have hwk := wakes_hid
  obtain ⟨P, hP⟩ : ∃ P, P = w.heap.size := ⟨_, rfl⟩
  obtain ⟨N, hN⟩ : ∃ N, N = 4 + r := ⟨_, rfl⟩
  have hr3 : (r : Int) ≤ 300 := by omega
  have hmk : ∀ wx, (Instr.makeSlice 23 (.int .i64 (4 + (r : Int))) (.int .i64 (4 + (r : Int)))).run Try.prog wx = .ok (.slice (some ⟨wx.heap.size, 0, none⟩) N N) (wx.alloc (.cells (Array.replicate N (byteV 0)) 5)) := fun wx => by
    have h := make_b N (by omega) wx
    have e : ((N : Nat) : Int) = 4 + (r : Int) := by omega
    rwa [e] at h
  have HN : Hid (N = 4 + r) := hN
  have hNs : (N : Int) ≤ 400 := by omega
  have HR : Hid (r < 300) := hr
  clear hN hr
  have hmo := made_own w N (by omega) P (by omega)
  rw [← hP] at hmo ⊢
  have HP : Hid (P = w.heap.size) := hP
  have HB1 : Hid (Below P w (w.alloc (.cells (Array.replicate N (byteV 0)) 5))) := (Below.refl _ _).alloc (by omega) _
  have HMO : Hid ((w.alloc (.cells (Array.replicate N (byteV 0)) 5)).ownsRow P 5 1 (.slice (some ⟨w.heap.size, 0, none⟩) N N) N ((List.replicate N 0).map byteV)) := hP ▸ hmo
  have HPS : Hid (∀ wx, Below P w wx → P ≤ wx.heap.size) := fun wx h => by have := h.size; omega
  clear hP hmo
  go_enter Try.func3, Try.ntmps3
  go_wp2_with (go_at_call 8; (with_reducible refine (hwi.out _).mono ?_); rintro e wx ⟨rfl, hx⟩; have hx := hx.symm; subst hx)
  generalize w.alloc (.cells (Array.replicate N (byteV 0)) 5) = w1 at *
  have hPe := HP.out
  generalize w.heap.size = g at *
  have HPG : Hid (P ≤ g) := Nat.le_of_eq hPe
  clear hmk hwi hPe HP
  go_loopw [23] (fun i wr => ∃ (k : Nat), k ≤ N ∧ i = .int .i64 k ∧ wr.ownsRow P 5 1 (.slice (some ⟨g, 0, none⟩) N N) N ((List.replicate k c ++ List.replicate (N - k) 0).map byteV) ∧ Hid (Below P w wr)) (fun i _ => N - (intOf i).toNat)
  case atStart => exact ⟨0, by omega, rfl, HMO.out, HB1⟩
  case round =>
    obtain ⟨k, hk, rfl, hown, HB⟩ := hrel
    by_cases hkN : k < N
    · have hc := hown.cellAt k (by simp; omega)
      have hf := hown.frozenAt k
      have hst := (hown.stored k (.int .u8 (c : Int))).1
      rw [set_byte, fill_step k N c hkN] at hst
      rw [List.getElem?_eq_getElem (by simp; omega)] at hc
      generalize (((List.replicate k c ++ List.replicate (N - k) 0).map byteV)[k]'(by simp; omega)) = old at hc
      have HST := hst
      clear hown hst HMO HB1
      go_wp2
      go_roundw
      case rel => exact ⟨k + 1, by omega, by go_num, HST, below_set HB.out _ _ HPG.out⟩
      case measure => simp [intOf]; omega
    · have hkk : k = N := by omega
      subst hkk
      have hl1 : Lies wr (.slice (some ⟨g, 0, none⟩) k k) (List.replicate k c) := lies_n (B := P) (n := k) (by simp) (by simpa using hown)
      have HL1 := Hid.mk1 hl1
      have hsp := split_hid (List.replicate k c) (⟨c, 0, 0⟩ :: wantL c (3 + r) (3 + r)) (by rw [HN.out]; exact rep_split r c) (by simp; omega)
      have hsp2 := split_cells _ L10 10 split17 rfl (by decide) (by decide)
      have hs6 := sameS_hid L6 L6 (by decide) rfl
      have kc := conv_const
      have hlw : ((⟨c, 0, 0⟩ : St) :: wantL c (3 + r) (3 + r)).length ≤ 281474976710656 := by
        rw [← rep_split r c]
        have h1 := runL_len (List.replicate (4 + r) c) (List.replicate (4 + r) c).length 0
        have h2 : (List.replicate (4 + r) c).length = 4 + r := by simp
        have h3 := HR.out
        show (runL (List.replicate (4 + r) c) (List.replicate (4 + r) c).length 0).length ≤ _
        omega
      have hsw := sameS_hid _ _ hlw rfl
      clear hl1 hown HMO HB1 hk hkN hlw
      go_upto_region 9 with (first
        | (go_at_call 9; (with_reducible refine (hsp.out _ _ HL1.out).mono ?_); rintro e w2 ⟨v2, rfl, ht2, hb2⟩
           have HT2 := Hid.mk1 ht2
           have HB2 : Hid (Below P w w2) := HB.out.trans (hb2.mono (HPS.out _ HB.out))
           clear ht2 hb2))
      have hP2 := HPS.out _ HB2.out
      obtain ⟨Q, hQ⟩ : ∃ Q, Q = w2.heap.size := ⟨_, rfl⟩
      have hst : (w2.alloc (.cells #[.int .u8 (c : Int), .int .i64 0, .int .i64 0] 27)).ownsRow Q 27 3 (.slice (some ⟨Q, 0, none⟩) 1 1) 1 (cellsL [⟨c, 0, 0⟩]) := by
        rw [hQ]
        exact ⟨rfl, .inr ⟨w2.heap.size, 1, _, rfl, Nat.le_refl _, heap_alloc_new w2 _, Nat.le_refl _, by decide, rfl, rfl⟩⟩
      have hsb : Below Q w2 (w2.alloc (.cells #[.int .u8 (c : Int), .int .i64 0, .int .i64 0] 27)) := by
        rw [hQ]; exact (Below.refl _ _).alloc (Nat.le_refl _) _
      have HQ : Hid (Q = w2.heap.size) := hQ
      have HST := Hid.mk1 hst
      have HSB := Hid.mk1 hsb
      clear hst hsb hQ hsp HL1 HB
      go_upto_region 10 with fail
      rw [← HQ.out]
      generalize w2.alloc (.cells #[.int .u8 (c : Int), .int .i64 0, .int .i64 0] 27) = W3 at HST HSB ⊢
      have HB3 : Hid (Below P w W3) := HB2.out.trans (HSB.out.mono (by have := HQ.out; omega))
      have HPQ : Hid (P ≤ Q) := by show _ ≤ _; have := HQ.out; omega
      have HQ3 : Hid (Q ≤ W3.heap.size) := by show _ ≤ _; have := HQ.out; have := HSB.out.size; omega
      have HT3 : Hid (Below Q w2 W3) := HSB
      clear HSB hP2 HB2
      go_wp2
      have hst := HST.out
      go_loopw [8, 9] (fun lv i wz => ∃ (L f m : Nat) (l : List St), i = .int .i64 L ∧ (L : Int) ≤ 400 ∧ Hid (L ≤ f) ∧ Hid (m + L ≤ 304) ∧ Hid (l.length = m) ∧ Hid (l ++ wantL c f L = ⟨c, 0, 0⟩ :: wantL c (3 + r) (3 + r)) ∧ wz.ownsRow Q 27 3 lv m (cellsL l) ∧ Hid (Below P w wz) ∧ Hid (Below Q w2 wz) ∧ Hid (Q ≤ wz.heap.size)) (fun _ i _ => (intOf i).toNat)
      case atStart => exact ⟨3 + r, 3 + r, 1, [⟨c, 0, 0⟩], by congr 1, by omega, Nat.le_refl _, (by have := HR.out; omega : 1 + (3 + r) ≤ 304), rfl, rfl, hst, HB3, HT3, HQ3⟩
      case round =>
        obtain ⟨L, f, m, l, rfl, hL4, HLf, HmL, HLL, HLW, hown, HBz, HTz, HQz⟩ := hrel
        clear hst HST HB3 HT3 HQ3
        have hm5 : m + 1 ≤ 5864062014805 := by have := HmL.out; omega
        by_cases hL0 : L = 0
        · subst hL0
          have hw : l = ⟨c, 0, 0⟩ :: wantL c (3 + r) (3 + r) := by have := HLW.out; rw [wantL_nil, List.append_nil] at this; exact this
          have hll := HLL.out
          have HTW : Hid (Tells wr u8 (⟨c, 0, 0⟩ :: wantL c (3 + r) (3 + r))) := tells_own (T := 27) (B := Q) (by rw [← hw]; show wr.ownsRow _ _ _ _ _ _; rw [hll]; exact hown)
          have HTV : Hid (Tells wr v2 (⟨c, 0, 0⟩ :: wantL c (3 + r) (3 + r))) := HT2.out.old (HQ.out ▸ HTz.out)
          clear hw hll hown HLW HLL HmL HLf hm5
          obtain ⟨b2, hb2, hrem⟩ : ∃ b2 : Nat, b2 ≤ 1 ∧ (r : Int).tmod 2 = (b2 : Int) := ⟨r % 2, by omega, rfl⟩
          obtain ⟨K, hK, hKe⟩ : ∃ K : Nat, K = 1021 + b2 ∧ 1021 + (b2 : Int) = (K : Int) := ⟨1021 + b2, rfl, rfl⟩
          have HK : Hid (K = 1021 + b2 ∧ b2 ≤ 1) := ⟨hK, hb2⟩
          have hb2s : (b2 : Int) ≤ 1 := by omega
          clear hK hb2
          go_upto_region 24 with (first
            | (go_at_call 10; (with_reducible refine (hsw.out _ _ _ HTV.out HTW.out).mono ?_); rintro e w6 ⟨rfl, hb6⟩
               have HB6 : Hid (Below P w w6) := HBz.out.trans (hb6.mono (HPS.out _ HBz.out))
               have HI : Hid (Lies (w6.alloc (.cells #[.int .u8 97, .int .u8 98, .int .u8 99, .int .u8 100, .int .u8 88, .int .u8 97, .int .u8 98, .int .u8 99, .int .u8 89, .int .u8 97, .int .u8 98, .int .u8 99, .int .u8 100, .int .u8 90, .int .u8 97, .int .u8 98, .int .u8 99] 5 (17, 18))) (.slice (some ⟨w6.heap.size, 0, none⟩) 17 17) [97, 98, 99, 100, 88, 97, 98, 99, 89, 97, 98, 99, 100, 90, 97, 98, 99]) := lies_const w6 [97, 98, 99, 100, 88, 97, 98, 99, 89, 97, 98, 99, 100, 90, 97, 98, 99] _ rfl _
               have HB6' : Hid (Below P w (w6.alloc (.cells #[.int .u8 97, .int .u8 98, .int .u8 99, .int .u8 100, .int .u8 88, .int .u8 97, .int .u8 98, .int .u8 99, .int .u8 89, .int .u8 97, .int .u8 98, .int .u8 99, .int .u8 100, .int .u8 90, .int .u8 97, .int .u8 98, .int .u8 99] 5 (17, 18)))) := HB6.out.alloc (HPS.out _ HB6.out) _
               clear hb6 HTV HTW)
            | (go_at_call 9; (with_reducible refine (hsp2.out _ _ HI.out).mono ?_); rintro e w7 ⟨g7, cap7, rfl, hc7, ht7, hb7⟩
               have HB7 : Hid (Below P w w7) := HB6'.out.trans (hb7.mono (HPS.out _ HB6'.out))
               have HD7 : Hid (Tells w7 (.slice (some ⟨g7, 12, none⟩) 6 (cap7 - 4)) L6) := tells_drop (l := L10) 4 (by decide) ht7
               have hq7 := (Below.refl w7.heap.size w7).alloc (Nat.le_refl _) (.cells #[.int .u8 88, .int .i64 0, .int .i64 0, .int .u8 0, .int .i64 3, .int .i64 5, .int .u8 89, .int .i64 0, .int .i64 0, .int .u8 0, .int .i64 4, .int .i64 9, .int .u8 90, .int .i64 0, .int .i64 0, .int .u8 0, .int .i64 3, .int .i64 5] 27)
               have HE7 := Hid.mk1 (HD7.out.old hq7)
               have HF7 := Hid.mk1 (tells_lit w7 L6 #[.int .u8 88, .int .i64 0, .int .i64 0, .int .u8 0, .int .i64 3, .int .i64 5, .int .u8 89, .int .i64 0, .int .i64 0, .int .u8 0, .int .i64 4, .int .i64 9, .int .u8 90, .int .i64 0, .int .i64 0, .int .u8 0, .int .i64 3, .int .i64 5] 27 6 rfl rfl)
               have HG7 : Hid (Below P w (w7.alloc (.cells #[.int .u8 88, .int .i64 0, .int .i64 0, .int .u8 0, .int .i64 3, .int .i64 5, .int .u8 89, .int .i64 0, .int .i64 0, .int .u8 0, .int .i64 4, .int .i64 9, .int .u8 90, .int .i64 0, .int .i64 0, .int .u8 0, .int .i64 3, .int .i64 5] 27))) := HB7.out.alloc (HPS.out _ HB7.out) _
               have hc7' : (10 : Int) ≤ cap7 := by omega
               clear ht7 hb7 hq7)
            | (go_at_call 10; (with_reducible refine (hs6.out _ _ _ HE7.out HF7.out).mono ?_); rintro e w8 ⟨rfl, hb8⟩
               have HB8 : Hid (Below P w w8) := HG7.out.trans (hb8.mono (HPS.out _ HG7.out))
               have HJ : Hid (Lies (w8.alloc (.cells #[.int .u8 113, .int .u8 114, .int .u8 115] 5 (3, 4))) (.slice (some ⟨w8.heap.size, 0, none⟩) 3 3) [113, 114, 115]) := lies_const w8 [113, 114, 115] _ rfl _
               have HB8' : Hid (Below P w (w8.alloc (.cells #[.int .u8 113, .int .u8 114, .int .u8 115] 5 (3, 4)))) := HB8.out.alloc (HPS.out _ HB8.out) _
               obtain ⟨g9, cap9, w9, hr9, ho9, hb9⟩ := append_zeros (w8.alloc (.cells #[.int .u8 113, .int .u8 114, .int .u8 115] 5 (3, 4))) w8.heap.size 3 K 23 [113, 114, 115] rfl (fun j u hu => by obtain ⟨ao, cap, h1, _, _, h4⟩ := HJ.out; cases h1; exact h4 _ rfl j u hu) (by decide) (by have := HK.out; omega) (by have := HK.out; omega) P (HPS.out _ HB8'.out)
               have HR9 := Hid.mk1 hr9
               have HO9 := Hid.mk1 ho9
               have HB9 : Hid (Below P w w9) := HB8'.out.trans hb9
               clear hb8 hr9 ho9 hb9)
            | (at_builtin; refine Lib.wpList_append_run _ rfl (.tmp 83) (.tmp 86) 23 3 rfl _ _ rfl rfl _ _ HR9.out ?_))
          obtain ⟨F, hF⟩ : ∃ F, F = 3 + K := ⟨_, rfl⟩
          have HF : Hid (F ≤ 1025) := by show _ ≤ _; have := HK.out; omega
          have HFL : Hid (([113, 114, 115] ++ List.replicate K 0 : List Nat).length = F ∧ 3 ≤ F) := ⟨by rw [hF]; simp; omega, by omega⟩
          have hFs : (F : Int) ≤ 2000 := by have := HK.out; omega
          rw [← hF] at HO9 ⊢
          have HPg : Hid (P ≤ g9) := (HO9.out.lt g9 rfl).1
          clear hF HB6 HI HB6' HB7 HD7 HE7 HF7 HG7 HB8 HJ HB8' HR9 hrem hKe hsp2 hs6 hsw kc HTz HBz HQz hc7 hc7'
          go_wp2
          go_loopw [13] (fun i wz => ∃ (k : Nat) (t : List Nat), k ≤ F ∧ i = .int .i64 k ∧ Hid (t.length = F) ∧ wz.ownsRow P 5 1 (.slice (some ⟨g9, 0, none⟩) F cap9) F (t.map byteV) ∧ Hid (Below P w wz)) (fun i _ => F - (intOf i).toNat)
          case atStart => exact ⟨3, [113, 114, 115] ++ List.replicate K 0, HFL.out.2, rfl, HFL.out.1, HO9.out, HB9⟩
          case round =>
            obtain ⟨k, t, hkF, rfl, HTL, hown, HBz⟩ := hrel
            clear HO9 HB9
            by_cases hk : k < F
            · obtain ⟨ka, hka, hk1⟩ : ∃ ka : Nat, (ka : Int) ≤ 6 ∧ (k : Int).tmod 7 = (ka : Int) := ⟨k % 7, by omega, rfl⟩
              obtain ⟨kd, hkd, hk2⟩ : ∃ kd : Nat, (kd : Int) ≤ 1000 ∧ (k : Int).tdiv 7 = (kd : Int) := ⟨k / 7, by omega, rfl⟩
              obtain ⟨ke, hke, hk3⟩ : ∃ ke : Nat, (ke : Int) ≤ 10 ∧ (kd : Int).tmod 11 = (ke : Int) := ⟨kd % 11, by omega, rfl⟩
              obtain ⟨kx, HKX⟩ : ∃ kx : Nat, Hid ((kx : Int) = (ka : Int) + (ke : Int) * 8) := ⟨ka + ke * 8, by show _ = _; omega⟩
              have hc := hown.cellAt k (by simp [HTL.out]; omega)
              have hf := hown.frozenAt k
              have hst := (hown.stored k (.int .u8 (kx : Int))).1
              rw [set_byte, HKX.out] at hst
              rw [List.getElem?_eq_getElem (by simp [HTL.out]; omega)] at hc
              generalize ((t.map byteV)[k]'(by simp [HTL.out]; omega)) = old at hc
              have HST := Hid.mk1 hst
              clear hown hst
              go_wp2
              go_roundw
              case rel => exact ⟨k + 1, t.set k kx, by omega, by go_num, (by show _ = _; rw [List.length_set]; exact HTL.out), HST.out, below_set HBz.out _ _ HPg.out⟩
              case measure => simp [intOf]; omega
            · have hkk : k = F := by omega
              subst hkk
              obtain ⟨i, hi, hz0, hz1, hz2⟩ := info_parts Try.info5
              have HI5 : Hid (Try.prog.info? 5 = some i ∧ i.zero = some (.int .u8 0) ∧ i.size = 1 ∧ i.bytes = 1) := ⟨hi, hz0, hz1, hz2⟩
              have hPz := HPS.out _ HBz.out
              have hsz : k + (ByteArray.mk #[113, 114, 115]).size = k + 3 := rfl
              have HLL : Hid ((t ++ [113, 114, 115]).length = k + 3) := by show _ = _; rw [List.length_append, HTL.out]; rfl
              have hsp3 := split_hid (t ++ [113, 114, 115]) _ rfl (by rw [HLL.out]; omega)
              have hjo3 := join_hid (splitL (t ++ [113, 114, 115])) (t ++ [113, 114, 115]) (by have h1 := runL_len (t ++ [113, 114, 115]) (t ++ [113, 114, 115]).length 0; have h2 := HLL.out; have h3 : (splitL (t ++ [113, 114, 115])).length ≤ (t ++ [113, 114, 115]).length := h1; omega) (join_split _ (by rw [HLL.out]; omega))
              have hsb3 := sameB_hid (t ++ [113, 114, 115]) (by rw [HLL.out]; omega)
              clear hi hz0 hz1 hz2 hk
              go_wp2_with (first
                | (at_builtin; refine Lib.wpList_append_own_string _ rfl (.tmp 105) (.const (.string (ByteArray.mk #[113, 114, 115]))) 23 9 rfl P 5 i Try.underlying23 Try.under9 HI5.out.1 HI5.out.2.1 HI5.out.2.2.1 HI5.out.2.2.2 _ k _ rfl hown (ByteArray.mk #[113, 114, 115]) rfl (by rw [hsz]; unfold maxLen; omega) (by rw [hsz]; omega) hPz ?_
                   intro v9 w10 ho10 hg10 _
                   have HB10 : Hid (Below P w w10) := HBz.out.trans ((Fr.ofGrown (x := none) hg10).below hPz (fun j hj => by cases hj) (fun j hj => (hown.lt j hj).1))
                   have HL10 : Hid (Lies w10 v9 (t ++ [113, 114, 115])) := lies_n (B := P) (n := k + 3) HLL.out (by rw [← str_cells]; exact ho10)
                   clear ho10 hg10 hown)
                | (go_at_call 9; (with_reducible refine (hsp3.out _ _ HL10.out).mono ?_); rintro e w11 ⟨v11, rfl, ht11, hb11⟩
                   have HT11 := Hid.mk1 ht11
                   have HL11 := Hid.mk1 (HL10.out.old hb11)
                   have HB11 : Hid (Below P w w11) := HB10.out.trans (hb11.mono (HPS.out _ HB10.out))
                   clear ht11 hb11)
                | (go_at_call 11; (with_reducible refine (hjo3.out _ _ HT11.out).mono ?_); rintro e w12 ⟨v12, rfl, hl12, hb12⟩
                   have HL12 := Hid.mk1 hl12
                   have HL13 := Hid.mk1 (HL11.out.old hb12)
                   have HB12 : Hid (Below P w w12) := HB11.out.trans (hb12.mono (HPS.out _ HB11.out))
                   clear hl12 hb12)
                | (go_at_call 12; (with_reducible refine (hsb3.out _ _ _ HL12.out HL13.out).mono ?_); rintro e w13 ⟨rfl, hb13⟩
                   have HB13 : Hid (Below P w w13) := HB12.out.trans (hb13.mono (HPS.out _ HB12.out))
                   clear hb13)
                | (go_at_call 13; (with_reducible refine (hwk.out _).mono ?_); rintro e w14 ⟨rfl, hb14⟩))
              go_ret
              exact ⟨rfl, HB13.out.trans (hb14.mono (HPS.out _ HB13.out))⟩
        · have hL1 : 0 < L := by omega
          clear hL0
          by_cases h3 : L < 3
          · have HW : Hid (wantL c f L = ⟨c, 0, 0⟩ :: wantL c (f - 1) (L - 1)) := wantL_byte c f L hL1 HLf.out (by omega)
            have hmn : min (L : Int) 258 = L := by omega
            have hle : (L : Int) ≤ 258 := by omega
            go_wp2_with (first
              | (at_builtin; refine wpList_pushSt rfl 24 27 (.tmp 44) (.tmp 47) rfl Try.underlying24 Try.info27 Q _ m _ rfl hown _ _ _ ⟨rfl, rfl, rfl⟩ wr.heap.size rfl rfl hm5 HQz.out ?_
                 intro g2 cap2 w5 ho5 hf5 hat5 hb5
                 clear hf5 hat5))
            go_roundw
            case rel =>
              refine ⟨L - 1, f - 1, m + 1, l ++ [⟨c, 0, 0⟩], by congr 1; omega, by omega, ?_, ?_, ?_, ?_, ?_, HBz.out.trans (hb5.mono HPQ.out), HTz.out.trans hb5, ?_⟩
              · show _ ≤ _; have := HLf.out; omega
              · show _ ≤ _; have := HmL.out; omega
              · show _ = _; rw [List.length_append, HLL.out]; rfl
              · show _ = _; rw [List.append_assoc, ← HLW.out, HW.out]; rfl
              · rw [cellsL_append, cellsL_one]; exact ho5
              · show _ ≤ _; have := hb5.size; have := HQz.out; omega
            case measure => simp [intOf]; omega
          · by_cases h4 : (258 : Int) < L
            · have HW : Hid (wantL c f L = ⟨0, (258 : Int), 1⟩ :: wantL c (f - 1) (L - 258)) := by
                have h := wantL_row c f L hL1 HLf.out (by omega)
                have e : min L 258 = 258 := by omega
                rw [e] at h
                exact h
              go_wp2_with (first
                | (at_builtin; refine wpList_pushSt rfl 24 27 (.tmp 51) (.tmp 54) rfl Try.underlying24 Try.info27 Q _ m _ rfl hown _ _ _ ⟨rfl, rfl, rfl⟩ wr.heap.size rfl rfl hm5 HQz.out ?_
                   intro g2 cap2 w5 ho5 hf5 hat5 hb5
                   clear hf5 hat5))
              go_roundw
              case rel =>
                refine ⟨L - 258, f - 1, m + 1, l ++ [⟨0, (258 : Int), 1⟩], by go_num, by omega, ?_, ?_, ?_, ?_, ?_, HBz.out.trans (hb5.mono HPQ.out), HTz.out.trans hb5, ?_⟩
                · show _ ≤ _; have := HLf.out; omega
                · show _ ≤ _; have := HmL.out; omega
                · show _ = _; rw [List.length_append, HLL.out]; rfl
                · show _ = _; rw [List.append_assoc, ← HLW.out, HW.out]; rfl
                · rw [cellsL_append, cellsL_one]; exact ho5
                · show _ ≤ _; have := hb5.size; have := HQz.out; omega
              case measure => simp [intOf]; omega
            · have HW : Hid (wantL c f L = ⟨0, (L : Int), 1⟩ :: wantL c (f - 1) 0) := by
                have h := wantL_row c f L hL1 HLf.out (by omega)
                have e : min L 258 = L := by omega
                rw [e, Nat.sub_self] at h
                exact h
              have h5 : (L : Int) ≤ 258 := by omega
              go_wp2_with (first
                | (at_builtin; refine wpList_pushSt rfl 24 27 (.tmp 51) (.tmp 54) rfl Try.underlying24 Try.info27 Q _ m _ rfl hown _ _ _ ⟨rfl, rfl, rfl⟩ wr.heap.size rfl rfl hm5 HQz.out ?_
                   intro g2 cap2 w5 ho5 hf5 hat5 hb5
                   clear hf5 hat5))
              go_roundw
              case rel =>
                refine ⟨0, f - 1, m + 1, l ++ [⟨0, (L : Int), 1⟩], by go_num, by omega, ?_, ?_, ?_, ?_, ?_, HBz.out.trans (hb5.mono HPQ.out), HTz.out.trans hb5, ?_⟩
                · show _ ≤ _; have := HLf.out; omega
                · show _ ≤ _; have := HmL.out; omega
                · show _ = _; rw [List.length_append, HLL.out]; rfl
                · show _ = _; rw [List.append_assoc, ← HLW.out, HW.out]; rfl
                · rw [cellsL_append, cellsL_one]; exact ho5
                · show _ ≤ _; have := hb5.size; have := HQz.out; omega
              case measure => simp [intOf]; omega

theorem forms_any (w : World) (n c : Int) (h : 0 ≤ c ∧ c < 256) : Calls Try.prog 3 #[.int .i64 n, .int .u8 c] w fun e w' => e = .returned (.bool true) ∧ Below w.heap.size w w' := by
  obtain ⟨k, rfl⟩ := Int.eq_ofNat_of_zero_le h.1
  exact forms_law w n k
end Go.Proofs.Ythjnkoagmjcjfaa
