/-
  NeedsAll walked.
-/
import Derived.Test.YtcogeebfldlpoaaAl
import Derived.Test.YtcogeebfldlpoaaHe
set_option linter.unusedSimpArgs false
set_option linter.unusedVariables false
namespace Go.Proofs.Ytcogeebfldlpoaa
open Go.RowKit
open Go.Proofs.NeedsPlain (Hd names getD_set ordM IsAll isTop)

theorem wrap_pred {k : Nat} (h : k ≤ 10) : wrap64 ((k : Int) + 1 - 1) = (k : Int) := by unfold wrap64; omega

theorem wrap_lt3 {m M : Nat} (h : m < M) (h3 : M ≤ 3) : wrap64 ((m : Int) + 1) = (m : Int) + 1 := wrap_small (by omega)

theorem strA_of {x : ByteArray} {t : Txt} (h : x = str t) : x.data.toList = t := by rw [h]; rfl

set_option maxRecDepth 20000 in
set_option maxHeartbeats 8000000 in
theorem allLaw_walk (w : World) (v : Value) (n : Nat) (za : Int) (hv : Rows2 w v n) : Calls Try.prog 8 #[v, .int .i64 za] w fun e w' => e = .returned (.bool true) ∧ Old w w' := by
  have KH := mkHid (heads_walk w v n hv)
  have WK := mkHid (fun w1 => wakes_walk w1)
  clear hv
  go_enter Try.func8, Try.ntmps8
  go_upto_region 2 with (first
    | (go_at_call 17; (with_reducible refine KH.out.mono ?_); rintro e w1 ⟨vh, hs, cs, rfl, hb, hg, ho⟩))
  obtain ⟨uo, uc, rfl⟩ := hb.shape
  have HO := mkHid ho
  by_cases h0 : hs.length = 0
  · have hnil : hs = [] := List.eq_nil_of_length_eq_zero h0
    subst hnil
    clear hb hg ho h0
    go_wp2_with (first
      | (go_at_call 16; (with_reducible refine (WK.out _).mono ?_); rintro e w4 ⟨rfl, o4⟩; have O4 := mkHid o4; clear o4))
    go_ret
    exact ⟨rfl, HO.out.trans (O4.out.mono HO.out.size)⟩
  · have hn0 : 0 < hs.length := by omega
    have hl10 := hg.len
    obtain ⟨N, hN⟩ : ∃ N, N = hs.length := ⟨_, rfl⟩
    have KA0 := fun w1 => within_walk za hs.length (by omega) (by omega) w1
    obtain ⟨ra, hra⟩ : ∃ r : Nat, za % (hs.length : Int) = (r : Int) := ⟨(za % (hs.length : Int)).toNat, by have := Int.emod_nonneg za (show (hs.length : Int) ≠ 0 by omega); omega⟩
    have hra1 : ra < hs.length := by have := Int.emod_lt_of_pos za (show 0 < (hs.length : Int) by omega); omega
    rw [hra] at KA0
    have hlies := hb.lies
    obtain ⟨g, uc', hu, huc, _, hrow⟩ := hb.hrow hn0
    obtain rfl : uo = some ⟨g, 0, none⟩ := by cases hu; rfl
    obtain ⟨tg1, nv1, hrg1, _, _⟩ := hrow.at' ra hra1
    obtain ⟨x, hx⟩ : ∃ x, x = str (hs.getD ra hd0).1 := ⟨_, rfl⟩
    have hcx : w1.cell? ⟨g, ra * 3, none⟩ = some (.string x) := by
      have := hrg1 0 (.string (str (hs.getD ra hd0).1)) rfl
      rw [← hx] at this
      simpa using this
    have hxn : x.data.toList ∈ names hs := by
      rw [hx]
      show (hs.getD ra hd0).1 ∈ _
      rw [hg.nm ra hra1]; exact hg.name_at hra1
    have hxs : x.size ≤ maxLen := by
      rw [hx, str_size, hg.nm ra hra1]
      have := n10_len ra
      unfold maxLen; omega
    have KA := mkHid KA0
    have hsm := hg.small
    have hnd := hg.nodup
    have CALL : Hid (Calls Try.prog 14 #[.slice (some ⟨g, 0, none⟩) hs.length uc, .string x] w1 (AllP w1 hs x.data.toList)) := all_walk w1 _ hs hlies hsm hnd x hxs
    have CT : Hid (∀ w', Old w1 w' → Calls Try.prog 13 #[.slice (some ⟨g, 0, none⟩) hs.length uc] w' (TopsPF w' hs)) := fun w' h => tops_walkF w' _ hs (hlies.old h) hsm
    rw [← hN] at hn0 hra1 hl10 h0 KA CALL CT ⊢
    have hra2 : (ra : Int) < (N : Int) := by omega
    have hN0 : ¬ (N : Int) = 0 := by omega
    have HN := mkHid hN
    have HL10 := mkHid hl10
    have HB := mkHid hb
    have HG := mkHid hg
    have HROW := mkHid hrow
    have HN0 := mkHid hn0
    clear KA0 hra hra1 hlies hu huc hrow hrg1 hx hxn hxs hN h0 hn0 hl10 hb ho hg hsm hnd
    go_wp2_with (first
      | (go_at_call 9; (with_reducible refine (KA.out _).mono ?_); rintro e w8 ⟨rfl, rfl⟩)
      | (go_at_call 14; (with_reducible refine CALL.out.mono ?_); rintro e w2 ⟨v7, out, rfl, l2, i2, o2⟩; have hlen2 := Nat.le_trans i2.len HG.out.len; have fn : decide (x.data.toList ∈ out) = false := decide_eq_false (fun k => ((i2.2 _).1 k).2 rfl); have L2 := mkHid l2; have I2 := mkHid i2; have O2 := mkHid o2; have HLEN2 := mkHid hlen2; clear l2 i2 o2 hlen2)
      | (go_at_call 24; (with_reducible refine (din_walk w2 v7 out x L2.out (by have := HLEN2.out; omega)).mono ?_); rintro e w3 ⟨rfl, rfl⟩; rw [fn])
      | (go_at_call 18; (with_reducible refine (set_walk w3 v7 out L2.out (by have := HLEN2.out; omega)).mono ?_); rintro e w4 ⟨v38, out38, rfl, l38, s38, o4⟩; have hee : out38 = out := rising_eq s38.1 I2.out.1 s38.2.1; subst hee; have L38 := mkHid l38; have O4 := mkHid o4; clear l38 s38 o4)
      | (go_at_call 11; (with_reducible refine (eqK_walk w4 v7 v38 out38 out38 (L2.out.old O4.out) L38.out (by have := HLEN2.out; omega) (by have := HLEN2.out; omega)).mono ?_); rintro e w5 ⟨rfl, m5, hw5⟩; have O5 : Hid (Old w4 w5) := (by rw [hw5]; exact below_drewN _ _); clear hw5; rw [decide_eq_true (rfl : out38 = out38)]))
    have hOB : Old w8 w5 := (O2.out.trans (O4.out.mono O2.out.size)).trans (O5.out.mono (Nat.le_trans O2.out.size O4.out.size))
    have hL5 : LiesS w5 v7 out38 := (L2.out.old O4.out).old O5.out
    obtain ⟨out, hout⟩ : ∃ out, out = out38 := ⟨_, rfl⟩
    subst hout
    have HOB := mkHid hOB
    have L5 := mkHid hL5
    clear hOB hL5 O2 O4 O5 L2 L38 fn CALL
    go_loopw [44] (fun u wr => ∃ k : Nat, k ≤ N ∧ u = .int .i64 (k : Int) ∧ Hid (Old w5 wr)) (fun u _ => N - (intOf u).toNat)
    case atStart => exact ⟨0, by omega, rfl, mkHid (Below.refl _ _)⟩
    case round =>
      obtain ⟨k, hk, rfl, HS⟩ := hrel
      by_cases hkN : k < N
      · have hkl : k < hs.length := by rw [← HN.out]; exact hkN
        obtain ⟨tg, nv, hrg, hnv, _⟩ := HROW.out.at' k hkl
        rw [Nat.zero_add] at hrg
        have hO8 : Old w8 wr := HOB.out.trans (HS.out.mono HOB.out.size)
        have hr := range_old hrg hO8
        obtain ⟨s, hse⟩ : ∃ s, s = str (hs.getD k hd0).1 := ⟨_, rfl⟩
        rw [← hse] at hr
        obtain ⟨nd, hnd⟩ : ∃ nd, nd = (hs.getD k hd0).2 := ⟨_, rfl⟩
        rw [← hnd] at hnv
        have hgm : (s.data.toList, nd) ∈ hs := by
          have : hs.getD k hd0 ∈ hs := getD_mem hkl
          rw [hse, hnd]; exact this
        have hone := one_cell (nm := s) (tg := tg) hnv
        have hndl : nd.length ≤ 3 := by rw [hnd]; exact HG.out.nl k hkl
        have hnv2 := hnv
        obtain ⟨no, nc, hnve, _, _, _⟩ := hnv2
        subst hnve
        obtain ⟨M, hM⟩ : ∃ M, M = nd.length := ⟨_, rfl⟩
        rw [← hM] at hnv hr hone hndl
        have hk0 : (k : Int) < (N : Int) := by omega
        have hwk : wrap64 ((k : Int) + 1) = (k : Int) + 1 := wrap_small (by have := HL10.out; omega)
        obtain ⟨fs, hfs⟩ := under24
        have HWK := mkHid hwk
        have HO8 := mkHid hO8
        have HR := mkHid hr
        have HONE := mkHid hone
        have HGM := mkHid hgm
        have HNV := mkHid hnv
        have HM := mkHid hM
        have HNDL := mkHid hndl
        have HKN := mkHid hkN
        clear hkl hrg hnv hO8 hr hse hgm hone hndl hM hwk hnd hkN
        go_upto_region 11 with (first
          | ((with_reducible refine at_op (.load 24 (.tmp 46)) ?_); refine wpList_load_mid rfl 24 (.tmp 46) rfl g (k * 3) rfl _ _ HR.out hfs rfl size24 ?_)
          | ((with_reducible refine at_op (.store 24 (.tmp 9) (.tmp 47)) ?_)
             refine wpList_store_row rfl 24 (.tmp 9) (.tmp 47) rfl wr.heap.size _ rfl rfl 24 hd0A (h10 _ _) size24 rfl HONE.out ?_
             rw [World.setRow_alloc_new]
             obtain ⟨X1, hX1⟩ : ∃ X1, X1 = wr.alloc (.cells #[.string s, .bool tg, .slice no M nc] 24) := ⟨_, rfl⟩
             have b1 : Old wr X1 := by rw [hX1]; exact old1 _ _
             have HB1 := mkHid b1
             have G6 : Hid (X1.heap[wr.heap.size]? = some (.cells #[.string s, .bool tg, .slice no M nc] 24 (0, 0))) := by show _ = _; rw [hX1]; exact h10 _ _
             rw [← hX1]
             obtain ⟨r0, r1, r2⟩ := cell3 G6.out
             clear b1 hX1))
        have hLX : LiesS X1 v7 out := (L5.out.old HS.out).old HB1.out
        have HLX := mkHid hLX
        have hEND : Old w5 X1 := HS.out.trans (HB1.out.mono HS.out.size)
        have HEND := mkHid hEND
        obtain ⟨q, hq⟩ : ∃ q, q = decide (s.data.toList ∈ out) := ⟨_, rfl⟩
        have KIN := mkHid (din_walk X1 v7 out s hLX (by have := HLEN2.out; omega))
        rw [← hq] at KIN
        obtain ⟨o, ho⟩ := HG.out.ord
        have hcl : s.data.toList = x.data.toList ∨ s.data.toList ∈ out → ∀ y ∈ nd, y ∈ out := fun hp y hy => NeedsPlain.all_closed ho I2.out HGM.out hp hy (HG.out.need HGM.out hy)
        have HCL := mkHid hcl
        have HQ := mkHid hq
        clear hLX hEND hq ho hcl
        by_cases hsx : s.toList = x.toList
        · have HSUB : Hid (∀ y ∈ nd, y ∈ out) := HCL.out (.inl (by rw [← ByteArray.toList_eq, ← ByteArray.toList_eq]; exact hsx))
          have f2 : (s.toList == x.toList) = true := beq_iff_eq.2 hsx
          go_wp2_with (fail)
          go_loopw [62] (fun u wz => ∃ m : Nat, m ≤ M ∧ u = .int .i64 (m : Int) ∧ wz = X1) (fun u _ => M - (intOf u).toNat)
          case atStart => exact ⟨0, Nat.zero_le _, rfl, rfl⟩
          case round =>
            obtain ⟨m, hm, rfl, hwz⟩ := hrel
            subst hwz
            by_cases hmM : m < M
            · have hml : m < nd.length := by rw [← HM.out]; exact hmM
              obtain ⟨b2, o2, c2, e2, _, hc2⟩ := (((HNV.out).old HO8.out).old HB1.out).form (Nat.lt_of_le_of_lt (Nat.zero_le m) hml)
              rw [← HM.out] at e2
              obtain rfl : no = some ⟨b2, o2, none⟩ := by cases e2; rfl
              have hcm := hc2 m hml
              obtain ⟨ms, hms⟩ : ∃ ms, ms = str (nd.getD m []) := ⟨_, rfl⟩
              have hcm2 : wr.cell? ⟨b2, o2 + m, none⟩ = some (.string ms) := by rw [hms]; exact hcm
              have hmo : ms.data.toList ∈ out := by
                rw [strA_of hms]
                refine HSUB.out _ ?_
                rw [List.getD_eq_getElem?_getD, List.getElem?_eq_getElem hml]; exact List.getElem_mem hml
              have hwm : wrap64 ((m : Int) + 1) = (m : Int) + 1 := wrap_lt3 hmM HNDL.out
              have hmM1 : (m : Int) < (M : Int) := Int.ofNat_lt.2 hmM
              have KI2 := mkHid (din_walk wr v7 out ms HLX.out (Nat.le_trans HLEN2.out (by decide)))
              rw [decide_eq_true hmo] at KI2
              have HWM := mkHid hwm
              have HMM := mkHid hmM
              clear hml e2 hc2 hcm hms hmo hwm hmM
              go_wp2_with (first
                | (go_at_call 24; (with_reducible refine KI2.out.mono ?_); rintro e w9 ⟨rfl, hw9⟩; have hw9 := hw9.symm; subst hw9))
              go_roundw
              case rel => exact ⟨m + 1, Nat.succ_le_of_lt HMM.out, by rw [HWM.out]; rfl, trivial⟩
              case measure => rw [HWM.out]; exact meas HMM.out
            · have hmM1 : (M : Int) ≤ (m : Int) := Int.ofNat_le.2 (Nat.le_of_not_lt hmM)
              go_wp2
              go_roundw
              case rel => exact ⟨k + 1, Nat.succ_le_of_lt HKN.out, by rw [HWK.out]; rfl, HEND.out⟩
              case measure => rw [HWK.out]; exact meas HKN.out
        · have f2 : (s.toList == x.toList) = false := beq_eq_false_iff_ne.2 hsx
          clear hsx
          cases q
          · go_wp2_with (first
              | (go_at_call 24; (with_reducible refine KIN.out.mono ?_); rintro e w9 ⟨rfl, hw9⟩; have hw9 := hw9.symm; subst hw9))
            go_roundw
            case rel => exact ⟨k + 1, Nat.succ_le_of_lt HKN.out, by rw [HWK.out]; rfl, HEND.out⟩
            case measure => rw [HWK.out]; exact meas HKN.out
          · have HSUB : Hid (∀ y ∈ nd, y ∈ out) := HCL.out (.inr (of_decide_eq_true HQ.out.symm))
            go_wp2_with (first
              | (go_at_call 24; (with_reducible refine KIN.out.mono ?_); rintro e w9 ⟨rfl, hw9⟩; have hw9 := hw9.symm; subst hw9))
            go_loopw [62] (fun u wz => ∃ m : Nat, m ≤ M ∧ u = .int .i64 (m : Int) ∧ wz = X1) (fun u _ => M - (intOf u).toNat)
            case atStart => exact ⟨0, Nat.zero_le _, rfl, rfl⟩
            case round =>
              obtain ⟨m, hm, rfl, hwz⟩ := hrel
              subst hwz
              by_cases hmM : m < M
              · have hml : m < nd.length := by rw [← HM.out]; exact hmM
                obtain ⟨b2, o2, c2, e2, _, hc2⟩ := (((HNV.out).old HO8.out).old HB1.out).form (Nat.lt_of_le_of_lt (Nat.zero_le m) hml)
                rw [← HM.out] at e2
                obtain rfl : no = some ⟨b2, o2, none⟩ := by cases e2; rfl
                have hcm := hc2 m hml
                obtain ⟨ms, hms⟩ : ∃ ms, ms = str (nd.getD m []) := ⟨_, rfl⟩
                have hcm2 : wr.cell? ⟨b2, o2 + m, none⟩ = some (.string ms) := by rw [hms]; exact hcm
                have hmo : ms.data.toList ∈ out := by
                  rw [strA_of hms]
                  refine HSUB.out _ ?_
                  rw [List.getD_eq_getElem?_getD, List.getElem?_eq_getElem hml]; exact List.getElem_mem hml
                have hwm : wrap64 ((m : Int) + 1) = (m : Int) + 1 := wrap_lt3 hmM HNDL.out
                have hmM1 : (m : Int) < (M : Int) := Int.ofNat_lt.2 hmM
                have KI2 := mkHid (din_walk wr v7 out ms HLX.out (Nat.le_trans HLEN2.out (by decide)))
                rw [decide_eq_true hmo] at KI2
                have HWM := mkHid hwm
                have HMM := mkHid hmM
                clear hml e2 hc2 hcm hms hmo hwm hmM
                go_wp2_with (first
                  | (go_at_call 24; (with_reducible refine KI2.out.mono ?_); rintro e w9 ⟨rfl, hw9⟩; have hw9 := hw9.symm; subst hw9))
                go_roundw
                case rel => exact ⟨m + 1, Nat.succ_le_of_lt HMM.out, by rw [HWM.out]; rfl, trivial⟩
                case measure => rw [HWM.out]; exact meas HMM.out
              · have hmM1 : (M : Int) ≤ (m : Int) := Int.ofNat_le.2 (Nat.le_of_not_lt hmM)
                go_wp2
                go_roundw
                case rel => exact ⟨k + 1, Nat.succ_le_of_lt HKN.out, by rw [HWK.out]; rfl, HEND.out⟩
                case measure => rw [HWK.out]; exact meas HKN.out
      · obtain rfl : k = N := by omega
        have hO8 : Old w8 wr := HOB.out.trans (HS.out.mono HOB.out.size)
        have hkl : k = hs.length := HN.out
        obtain ⟨T1, hT1⟩ : ∃ T1, T1 = k + 1 := ⟨_, rfl⟩
        have HT1 := mkHid hT1
        have HKL := mkHid hkl
        have HO8 := mkHid hO8
        have HCT : Hid (∀ w', Old wr w' → Calls Try.prog 13 #[.slice (some ⟨g, 0, none⟩) k uc] w' (TopsPF w' hs)) := fun w' h => CT.out w' (HO8.out.trans (h.mono HO8.out.size))
        have KC : Hid (∀ (ops : Array Oper) (rest : List Oper) (o : Oper) (a : Act) (Q : Exit → Act → World → Prop), o.guard = none → o.op = .call { callee := .builtin .append, args := #[.const (.slice none 0 0), .tmp 72], argTypes := #[25, 25] } →
            a.eval (.tmp 72) = .slice (some ⟨g, 0, none⟩) k uc → (∀ v' w', Hid (HBag wr.heap.size w' v' hs cs) → Hid (Old wr w') → wpList Try.prog ops Q rest (a.put o.dst v') w') → wpList Try.prog ops Q (o :: rest) a wr) := by
          intro ops rest o a Q g1 g2 g3 g4
          exact wpList_copyH g1 _ (.tmp 72) g2 w.heap.size _ hs cs rfl (g3.trans (by rw [HKL.out])) (HB.out.old HO8.out) (by rw [← HKL.out]; exact HN0.out) (Nat.le_trans HG.out.len (by decide)) (fun v' w' q1 q2 => g4 v' w' q1 q2)
        have KA2 : Hid (∀ (v9 : Value) (w9 : World) (vt : Value) (tops : List Txt) (w10 : World) (ops : Array Oper) (rest : List Oper) (o : Oper) (a : Act) (Q : Exit → Act → World → Prop), HBag wr.heap.size w9 v9 hs cs → Old wr w9 → Old w9 w10 → LiesS w10 vt tops → NewIn w9.heap.size w10 vt →
            o.guard = none → o.op = .call { callee := .builtin .append, args := #[.tmp 73, .tmp 77], argTypes := #[25, 25] } → a.eval (.tmp 73) = v9 → a.eval (.tmp 77) = .slice (some ⟨w10.heap.size, 0, none⟩) 1 1 →
            (∀ ao' c' w', Hid (LiesH w' (.slice ao' T1 c') (tagH hs tops)) → Hid (Old wr w') → wpList Try.prog ops Q rest (a.put o.dst (.slice ao' T1 c')) w') →
            wpList Try.prog ops Q (o :: rest) a (w10.alloc (.cells #[.string ⟨#[116]⟩, .bool true, vt] 24))) := by
          intro v9 w9 vt tops w10 ops rest o a Q s1 s2 s3 s4 s5 g1 g2 g3 g4 g5
          have hsz : wr.heap.size ≤ w10.heap.size := Nat.le_trans s2.size s3.size
          refine wpList_appH g1 (.tmp 73) (.tmp 77) g2 wr.heap.size _ hs cs g3 (s1.old s3) hsz (Nat.le_trans HG.out.len (by decide)) ⟨#[116]⟩ true vt tops w10.heap.size rfl g4 s4 (fun b n' c' e => ?_) (fun v' w' cs' q1 q2 => ?_)
          · have e2 : vt.ownBlock = some b.block := by rw [e]; rfl
            obtain ⟨h1, h2⟩ := s5 _ e2
            refine ⟨h2, fun e3 => ?_⟩
            have h3 := (s1.row.lt _ e3).2
            omega
          · obtain ⟨ao', c', rfl⟩ := q1.shape
            have e : (hs ++ [((⟨#[116]⟩ : ByteArray).data.toList, tops)]).length = T1 := by rw [List.length_append, List.length_singleton, HT1.out, HKL.out]
            have hl := q1.lies
            rw [e] at hl ⊢
            exact g5 ao' c' w' hl ((s2.trans (s3.mono s2.size)).trans q2)
        clear hO8 hkl hT1 hk hkN
        go_upto_region 20 with (first
          | ((with_reducible refine at_op (.call { callee := .builtin .append, args := #[.const (.slice none 0 0), .tmp 72], argTypes := #[25, 25] }) ?_)
             refine KC.out _ _ _ _ _ rfl rfl rfl (fun v9 w9 P9 O9 => ?_))
          | (go_at_call 13; (with_reducible refine (HCT.out _ O9.out).mono ?_); rintro e w10 ⟨vt, tops, rfl, lt, pt, mt, ot, nt⟩; have LT := mkHid lt; have PT := mkHid pt; have MT := mkHid mt; have OT := mkHid ot; have NT := mkHid nt; obtain ⟨tao, tcap, hvt, -⟩ := lt; subst hvt; clear pt mt ot nt)
          | ((with_reducible refine at_op (.call { callee := .builtin .append, args := #[.tmp 73, .tmp 77], argTypes := #[25, 25] }) ?_)
             refine KA2.out _ _ _ _ _ _ _ _ _ _ P9.out O9.out OT.out LT.out NT.out rfl rfl rfl rfl (fun ao11 c11 w11 L11 O11 => ?_)))
        obtain ⟨o, ho⟩ := tag_ord HG.out MT.out
        obtain ⟨hol, hoe⟩ := tag_last HG.out MT.out ho
        rw [← HKL.out] at hol hoe
        rw [← HT1.out] at hol
        have hsm := tag_small HG.out PT.out MT.out
        have CO := order_lit L11.out hsm ho
        have CAT : Hid (∀ w', Old w11 w' → Calls Try.prog 14 #[.slice ao11 T1 c11, .string ⟨#[116]⟩] w' (AllP w' (tagH hs tops) [116])) := fun w' h => all_walk w' _ _ (L11.out.old h) hsm (tag_nodup HG.out tops) ⟨#[116]⟩ (by decide)
        have CTT := tops_lit (o := [[116]]) L11.out hsm (fun out h1 h2 => tag_tops HG.out MT.out h1 h2)
        have CS : Hid (∀ (w1 : World) (v : Value), LiesS w1 v [[116]] → Calls Try.prog 11 #[v, .slice (some ⟨w1.heap.size, 0, none⟩) 1 1] (w1.alloc (.cells #[.string ⟨#[116]⟩] 9)) fun e w' => e = .returned (.bool true) ∧ Old w1 w') := same_lit [[116]] 1 rfl (by decide)
        have CAL : Hid (∀ out, IsAll (tagH hs tops) [116] out → out.length = k) := fun out h => (tag_all HG.out MT.out h).trans HKL.out.symm
        have hT1i : (T1 : Int) = (k : Int) + 1 := by rw [HT1.out]; rfl
        have hidx : wrap64 ((T1 : Int) - 1) = (k : Int) := by
          rw [hT1i]
          exact wrap_pred HL10.out
        have hkT : (k : Int) < (T1 : Int) := by omega
        have HOL := mkHid hol
        have HOE := mkHid hoe
        have OO : Hid (Old w11 w11) := Below.refl _ _
        have HFIN : Hid (Old w w11) := (HO.out.trans (HO8.out.mono HO.out.size)).trans (O11.out.mono (Nat.le_trans HO.out.size HO8.out.size))
        clear hsm hol hoe ho hT1i
        have KO : Hid (∀ (u : Value) (w' : World), LiesS w' u o → ∃ b off c, u = .slice (some ⟨b, off, none⟩) T1 c ∧ w'.cell? ⟨b, off + k, none⟩ = some (.string ⟨#[116]⟩)) := fun u w' l => by
          have hpos : 0 < o.length := by rw [HOL.out, HT1.out]; exact Nat.succ_pos k
          obtain ⟨b, off, c, h1, _, h2⟩ := l.form hpos
          have h3 := h2 k (by rw [HOL.out, HT1.out]; exact Nat.lt_succ_self k)
          rw [HOE.out] at h3
          exact ⟨b, off, c, by rw [h1, HOL.out], h3⟩
        go_wp2_with (first
          | (go_at_call 10; (with_reducible refine (CO.out _ OO.out).mono ?_); rintro e w12 ⟨u12, rfl, l12, o12⟩; have O12 := mkHid (OO.out.trans (o12.mono OO.out.size)); obtain ⟨b12, f12, c12, hu12, hc12⟩ := KO.out _ _ l12; subst hu12; clear l12 o12)
          | (go_at_call 14; (with_reducible refine (CAT.out _ O12.out).mono ?_); rintro e w13 ⟨v13, outA, rfl, lA, iA, oA⟩; have O13 := mkHid (O12.out.trans (oA.mono O12.out.size)); have hlA := CAL.out _ iA; obtain ⟨aoA, cA, hvA, -⟩ := lA; subst hvA; clear iA oA)
          | (go_at_call 13; (with_reducible refine (CTT.out _ O13.out).mono ?_); rintro e w14 ⟨u14, rfl, l14, o14⟩; have L14 := mkHid l14; have O14 := mkHid (O13.out.trans (o14.mono O13.out.size)); clear l14 o14)
          | (go_at_call 11; (with_reducible refine (CS.out w14 u14 L14.out).mono ?_); rintro e w15 ⟨rfl, o15⟩; have O15 := mkHid (O14.out.trans (o15.mono O14.out.size)); clear o15)
          | (go_at_call 16; (with_reducible refine (WK.out _).mono ?_); rintro e w16 ⟨rfl, o16⟩; have O16 := mkHid (O15.out.trans (o16.mono O15.out.size)); clear o16))
        go_ret
        exact ⟨rfl, HFIN.out.trans (O16.out.mono HFIN.out.size)⟩
end Go.Proofs.Ytcogeebfldlpoaa
