/-
  NeedsKeep walked.
-/
import Derived.Test.YtcogeebfldlpoaaKp
import Derived.Test.YtcogeebfldlpoaaHe
set_option linter.unusedSimpArgs false
set_option linter.unusedVariables false
namespace Go.Proofs.Ytcogeebfldlpoaa
open Go.RowKit
open Go.Proofs.NeedsPlain (Hd names getD_set ordM IsAll isTop)

theorem wrap_lt4 {m : Nat} (h : m < 4) : wrap64 ((m : Int) + 1) = (m : Int) + 1 := wrap_small (by omega)
theorem n10_small {n : Nat} (h : n ≤ 10) : (n : Int) < 4611686018427387904 := by omega
theorem acc_le {a i : Nat} (h : a ≤ i * 1001) (hi : i ≤ 4) : a ≤ 4004 := by omega
theorem wrap_le10 {m : Nat} (h : m ≤ 10) : wrap64 ((m : Int) + 1) = (m : Int) + 1 := wrap_small (by omega)
theorem strK_of {x : ByteArray} {t : Txt} (h : x = str t) : x.data.toList = t := by rw [h]; rfl

theorem take_snocH {hs : List Hd} {k : Nat} (hk : k < hs.length) : hs.take (k + 1) = hs.take k ++ [hs.getD k hd0] := by
  rw [List.take_add_one, List.getD_eq_getElem?_getD, List.getElem?_eq_getElem hk]; rfl
theorem some_yes {hs : List Hd} {part : List Txt} {k : Nat} (hk : k < hs.length) (h : (hs.getD k hd0).1 ∈ part) : someL (hs.take (k + 1)) part = someL (hs.take k) part ++ [hs.getD k hd0] := by
  rw [take_snocH hk]; unfold someL; rw [List.filter_append, List.filter_cons_of_pos (by simpa using h)]; rfl
theorem some_no {hs : List Hd} {part : List Txt} {k : Nat} (hk : k < hs.length) (h : (hs.getD k hd0).1 ∉ part) : someL (hs.take (k + 1)) part = someL (hs.take k) part := by
  rw [take_snocH hk]; unfold someL; rw [List.filter_append, List.filter_cons_of_neg (by simpa using h)]; simp
theorem rev_snoc {hs : List Hd} {k : Nat} (hk : k < hs.length) : hs.reverse.take (k + 1) = hs.reverse.take k ++ [hs.getD (hs.length - 1 - k) hd0] := by
  rw [take_snocH (by rw [List.length_reverse]; exact hk)]
  congr 2
  rw [List.getD_eq_getElem?_getD, List.getD_eq_getElem?_getD, List.getElem?_reverse hk]

theorem takeR_le {hs : List Hd} {k : Nat} (h : hs.length ≤ 10) : (hs.reverse.take k).length ≤ 1000000 := by
  rw [List.length_take, List.length_reverse]; omega
theorem someT_le {hs : List Hd} {part : List Txt} {k : Nat} (h : hs.length ≤ 10) : (someL (hs.take k) part).length ≤ 1000000 := by
  have h1 : (someL (hs.take k) part).length ≤ (hs.take k).length := List.length_filter_le _ _
  rw [List.length_take] at h1
  omega

/-- One head of a slice that the call made. -/
theorem HBag.head {B : Nat} {w : World} {g n uc : Nat} {hs : List Hd} {cs : List Value} (h : HBag B w (.slice (some ⟨g, 0, none⟩) n uc) hs cs) {k : Nat} (hk : k < hs.length) :
    ∃ tg nv, w.rangeAt g (k * 3) [.string (str (hs.getD k hd0).1), .bool tg, nv] ∧ LiesS w nv (hs.getD k hd0).2 ∧ ∀ a n c, nv = .slice (some a) n c → a.block < w.heap.size := by
  obtain ⟨tg, nv, h1, h2, h3, h4, h5⟩ := h.at' k hk
  refine ⟨tg, nv, fun j u hu => ?_, h4, fun a n c e => (h5 a n c e).1⟩
  obtain ⟨g', cap', e, hB, _⟩ := h.row.form (by omega)
  obtain rfl : g' = g := by cases e; rfl
  have hrow := h.row
  rw [e] at hrow
  have hj : j < 3 := by
    have := (List.getElem?_eq_some_iff.1 hu).1
    simpa using this
  rw [hrow.cellAt (k * 3 + j) (by omega)]
  rcases j with _ | _ | _ | j
  · simp at hu; subst hu; exact h1
  · simp at hu; subst hu; exact h2
  · simp at hu; subst hu; exact h3
  · omega

theorem wrap_pred2 {N c : Nat} (h : N ≤ 10) (hc : c + 1 = N) : wrap64 ((N : Int) - 1) = (c : Int) := by unfold wrap64; omega
theorem wrap_sub2 {c k b : Nat} (h : c ≤ 10) (hb : b + k = c) : wrap64 ((c : Int) - (k : Int)) = (b : Int) := by unfold wrap64; omega

/-- What stands while the part is put together. -/
def PaL (w1 wr : World) (hs : List Hd) (i : Nat) (v : Value) : Prop := ∃ part : List Txt, wr.ownsRow w1.heap.size 9 1 v part.length (part.map encStr) ∧ PartOf hs i part ∧ Old w1 wr

/-- What stands while what is wanted is put together. -/
def WaL (wL wr : World) (o part : List Txt) (i : Nat) (v : Value) : Prop := wr.ownsRow wL.heap.size 9 1 v ((o.take i).filter fun x => decide (x ∈ part)).length (((o.take i).filter fun x => decide (x ∈ part)).map encStr) ∧ Old wL wr

theorem WaL.old {wL wr wz : World} {o part : List Txt} {i : Nat} {v : Value} (h : WaL wL wr o part i v) (hb : Old wr wz) : WaL wL wz o part i v := by
  obtain ⟨h1, h3⟩ := h
  exact ⟨own_at h1 fun k hk => hb.block k (h1.lt k hk).2, h3.trans (hb.mono h3.size)⟩

theorem take_snocT {o : List Txt} {k : Nat} (hk : k < o.length) : o.take (k + 1) = o.take k ++ [o.getD k []] := by
  rw [List.take_add_one, List.getD_eq_getElem?_getD, List.getElem?_eq_getElem hk]; rfl
theorem want_yes {o part : List Txt} {k : Nat} (hk : k < o.length) (h : o.getD k [] ∈ part) : ((o.take (k + 1)).filter fun x => decide (x ∈ part)) = ((o.take k).filter fun x => decide (x ∈ part)) ++ [o.getD k []] := by
  rw [take_snocT hk, List.filter_append, List.filter_cons_of_pos (by simpa using h)]; rfl
theorem want_no {o part : List Txt} {k : Nat} (hk : k < o.length) (h : o.getD k [] ∉ part) : ((o.take (k + 1)).filter fun x => decide (x ∈ part)) = (o.take k).filter fun x => decide (x ∈ part) := by
  rw [take_snocT hk, List.filter_append, List.filter_cons_of_neg (by simpa using h)]; simp
theorem lies_take {w : World} {a : Addr} {n c j : Nat} {o : List Txt} (h : LiesS w (.slice (some a) n c) o) (hj : j ≤ n) : LiesS w (.slice (some a) j c) (o.take j) := by
  obtain ⟨ao, cap, e, h2, h3, h4⟩ := h
  cases e
  have hl : (o.take j).length = j := by rw [List.length_take]; omega
  refine ⟨some a, c, by rw [hl], by omega, (fun k => by cases k), fun a' ha i u hu => ?_⟩
  refine h4 a' ha i u ?_
  rw [List.map_take, List.getElem?_take] at hu
  split at hu
  · exact hu
  · cases hu
theorem want_len {o part : List Txt} {k : Nat} (h : o.length ≤ 10) : ((o.take k).filter fun x => decide (x ∈ part)).length ≤ 10 := by
  have h1 := List.length_filter_le (fun x => decide (x ∈ part)) (o.take k)
  rw [List.length_take] at h1
  omega

set_option maxRecDepth 20000 in
set_option maxHeartbeats 8000000 in
theorem keepLaw_walk (w : World) (v pv : Value) (n : Nat) (zs : List Int) (hv : Rows2 w v n) (hp : Ints w pv zs) : Calls Try.prog 6 #[v, pv] w fun e w' => e = .returned (.bool true) ∧ Old w w' := by
  have KH := mkHid (heads_walk w v n hv)
  have WK := mkHid (fun w1 => wakes_walk w1)
  have HP := mkHid hp
  obtain ⟨pa, pc, rfl, -⟩ := hp
  obtain ⟨M, hM⟩ : ∃ M, M = zs.length := ⟨_, rfl⟩
  rw [← hM] at HP ⊢
  have HM := mkHid hM
  clear hv hM
  go_enter Try.func6, Try.ntmps6
  go_upto_region 2 with (first
    | (go_at_call 17; (with_reducible refine KH.out.mono ?_); rintro e w1 ⟨vh, hs, cs, rfl, hb, hg, ho⟩))
  obtain ⟨uo, uc, rfl⟩ := hb.shape
  have hlies := hb.lies
  have hl10 := hg.len
  obtain ⟨N, hN⟩ : ∃ N, N = hs.length := ⟨_, rfl⟩
  rw [← hN] at hlies hl10 ⊢
  have HO := mkHid ho
  have HB := mkHid hb
  have HG := mkHid hg
  have HN := mkHid hN
  have HLIES := mkHid hlies
  have HL10 := mkHid hl10
  have HSM := mkHid hg.small
  have CALL : Hid (∀ (x : Txt), x ∈ names hs → ∀ w', Old w1 w' → Calls Try.prog 14 #[.slice uo N uc, .string (str x)] w' (AllP w' hs x)) := fun x hx w' h => by
    obtain ⟨g, gm, rfl⟩ := List.mem_map.1 hx
    have := hg.small.nm g gm
    exact all_walk w' _ hs (hlies.old h) hg.small hg.nodup (str g.1) (by rw [str_size]; unfold maxLen; omega)
  clear ho hb hg hN hlies hl10
  go_upto_region 3 with (fail)
  iterate 7 go_step
  go_cut [6, 7] (fun u6 u wx => ∃ i : Nat, u = .int .i64 i ∧ Hid (i ≤ 4 ∧ PaL w1 wx hs i u6))
  case first =>
    go_wp2
    go_loopw [6, 7] (fun u6 u wx => ∃ i : Nat, i ≤ 4 ∧ u = .int .i64 i ∧ Hid (PaL w1 wx hs i u6)) (fun _ u _ => 4 - (intOf u).toNat)
    case atStart => exact ⟨0, by omega, rfl, mkHid ⟨[], World.ownsRow_nil _ _ 9 1, PartOf.nil _, Below.refl _ _⟩⟩
    case round =>
      obtain ⟨i, hi, rfl, HS⟩ := hrel
      by_cases h1 : i < M
      · have h1' : (i : Int) < (M : Int) := Int.ofNat_lt.2 h1
        by_cases h2 : i < 4
        · have h2' : (i : Int) < 4 := by omega
          by_cases h3 : 0 < N
          · have h3' : (0 : Int) < (N : Int) := by omega
            obtain ⟨part, p1, p2, p3⟩ := HS.out
            have hOw : Old w wr := HO.out.trans (p3.mono HO.out.size)
            obtain ⟨bp, op, cp, ep, hcp⟩ := (HP.out.old hOw).form (by rw [← HM.out]; omega)
            rw [← HM.out] at ep
            obtain rfl : pa = some ⟨bp, op, none⟩ := by cases ep; rfl
            have hcz := hcp i (by rw [← HM.out]; exact h1)
            obtain ⟨z, hz⟩ : ∃ z, z = zs.getD i 0 := ⟨_, rfl⟩
            rw [← hz] at hcz
            have KW0 := fun w1 => within_walk z N h3' (n10_small HL10.out) w1
            obtain ⟨r, hr⟩ : ∃ r : Nat, z % (N : Int) = (r : Int) := ⟨(z % (N : Int)).toNat, by have := Int.emod_nonneg z (show (N : Int) ≠ 0 by omega); omega⟩
            have hrN : r < N := by have := Int.emod_lt_of_pos z h3'; omega
            rw [hr] at KW0
            have hrl : r < hs.length := by rw [← HN.out]; exact hrN
            obtain ⟨g, uc', hu, huc, _, hrow⟩ := (HB.out.old p3).hrow (by omega)
            obtain rfl : uo = some ⟨g, 0, none⟩ := by cases hu; rfl
            obtain ⟨tg1, nv1, hrg1, _, _⟩ := hrow.at' r hrl
            obtain ⟨xt, hxt⟩ : ∃ xt, xt = (hs.getD r hd0).1 := ⟨_, rfl⟩
            obtain ⟨x, hx⟩ : ∃ x, x = str xt := ⟨_, rfl⟩
            have hcx : wr.cell? ⟨g, r * 3, none⟩ = some (.string x) := by
              have := hrg1 0 (.string (str (hs.getD r hd0).1)) rfl
              rw [← hxt, ← hx] at this
              simpa using this
            have hxn : xt ∈ names hs := by
              rw [hxt, HG.out.nm r hrl]; exact HG.out.name_at hrl
            have hrN' : (r : Int) < (N : Int) := Int.ofNat_lt.2 hrN
            have hwi := wrap_lt4 h2
            obtain ⟨ao6, c6, hu6⟩ : ∃ ao c, u6 = .slice ao part.length c := own_shape p1
            subst hu6
            have CAX := CALL.out xt hxn
            rw [← hx] at CAX
            have HCAX := mkHid CAX
            have KW := mkHid KW0
            have HP1 := mkHid p1
            have HP2 := mkHid p2
            have HP3 := mkHid p3
            have HXL : Hid (x.data.toList = xt) := strK_of hx
            have HACC : Hid (part.length ≤ 4004) := by
              exact acc_le p2.2 hi
            have KA1 : Hid (∀ (ops : Array Oper) (rest : List Oper) (o : Oper) (a : Act) (Q : Exit → Act → World → Prop), o.guard = none → o.op = .call { callee := .builtin .append, args := #[.tmp 53, .tmp 55], argTypes := #[22, 22] } →
                a.eval (.tmp 53) = .slice ao6 part.length c6 → a.eval (.tmp 55) = .slice (some ⟨wr.heap.size, 0, none⟩) 1 1 →
                (∀ v' w', Hid (w'.ownsRow w1.heap.size 9 1 v' (part.length + 1) ((part ++ [xt]).map encStr)) → Hid (Old w1 w') → wpList Try.prog ops Q rest (a.put o.dst v') w') →
                wpList Try.prog ops Q (o :: rest) a (wr.alloc (.cells #[.string x] 9))) := by
              intro ops rest o a Q g1 g2 g3 g4 g5
              have hO1 : Old wr (wr.alloc (.cells #[.string x] 9)) := old1 _ _
              have hl1 := lies_one wr x
              rw [HXL.out] at hl1
              refine wpList_appS g1 (.tmp 53) (.tmp 55) g2 w1.heap.size _ part.length part g3 (own_at HP1.out fun k hk => hO1.block k (HP1.out.lt k hk).2) _ [xt] g4 hl1 (by have := HACC.out; simp; omega) (Nat.le_trans HP3.out.size hO1.size) ?_
              intro v' w' q1 q2 _
              exact g5 v' w' q1 ((HP3.out.trans (hO1.mono HP3.out.size)).trans q2)
            have KA2 : Hid (∀ (v1 : Value) (w3 : World) (u : Value) (out : List Txt) (ops : Array Oper) (rest : List Oper) (o : Oper) (a : Act) (Q : Exit → Act → World → Prop), w3.ownsRow w1.heap.size 9 1 v1 (part.length + 1) ((part ++ [xt]).map encStr) → LiesS w3 u out → IsAll hs xt out → Old w1 w3 →
                o.guard = none → o.op = .call { callee := .builtin .append, args := #[.tmp 56, .tmp 59], argTypes := #[22, 22] } → a.eval (.tmp 56) = v1 → a.eval (.tmp 59) = u →
                (∀ v' w', Hid (PaL w1 w' hs (i + 1) v') → wpList Try.prog ops Q rest (a.put o.dst v') w') → wpList Try.prog ops Q (o :: rest) a w3) := by
              intro v1 w3 u out ops rest o a Q s1 s2 s3 s4 g1 g2 g3 g4 g5
              have hol := Nat.le_trans s3.len HSM.out.len
              refine wpList_appS g1 (.tmp 56) (.tmp 59) g2 w1.heap.size _ (part.length + 1) (part ++ [xt]) g3 s1 _ out g4 s2 (by have := HACC.out; omega) s4.size ?_
              intro v' w' q1 q2 _
              refine g5 v' w' (mkHid ⟨(part ++ [xt]) ++ out, ?_, HP2.out.put HG.out s3 hol, s4.trans q2⟩)
              have e : ((part ++ [xt]) ++ out).length = part.length + 1 + out.length := by rw [List.length_append, List.length_append, List.length_singleton]
              rw [e]; exact q1
            have HW4 := mkHid h2
            have HWI := mkHid hwi
            clear KW0 CAX p1 p2 p3 hOw ep hcp hz hr hrN hrl hu huc hrow hrg1 hxt hx hxn hwi HS h1 h2 h3 hi
            go_wp2_with (first
              | (go_at_call 9; (with_reducible refine (KW.out _).mono ?_); rintro e w2 ⟨rfl, hw2⟩; have hw2 := hw2.symm; subst hw2)
              | ((with_reducible refine at_op (.call { callee := .builtin .append, args := #[.tmp 53, .tmp 55], argTypes := #[22, 22] }) ?_)
                 refine KA1.out _ _ _ _ _ rfl rfl rfl rfl (fun v4 w4 P4 O4 => ?_))
              | (go_at_call 14; (with_reducible refine (HCAX.out _ O4.out).mono ?_); rintro e w8 ⟨v8, out8, rfl, l8, i8, o8⟩; have L8 := mkHid l8; have I8 := mkHid i8; have O8 := mkHid o8; clear l8 i8 o8)
              | ((with_reducible refine at_op (.call { callee := .builtin .append, args := #[.tmp 56, .tmp 59], argTypes := #[22, 22] }) ?_)
                 refine KA2.out _ _ _ _ _ _ _ _ _ (own_at P4.out fun k hk => O8.out.block k (P4.out.lt k hk).2) L8.out I8.out (O4.out.trans (O8.out.mono O4.out.size)) rfl rfl rfl rfl (fun v6 w6 T6 => ?_)))
            go_roundw
            case rel => exact ⟨i + 1, Nat.succ_le_of_lt HW4.out, rfl, T6⟩
            case measure => exact meas HW4.out
          · have h3' : (N : Int) ≤ 0 := by omega
            go_wp2
            go_meet
            case rel => exact ⟨i, rfl, mkHid ⟨hi, HS.out⟩⟩
        · have h2' : 4 ≤ (i : Int) := by omega
          go_wp2
          go_meet
          case rel => exact ⟨i, rfl, mkHid ⟨hi, HS.out⟩⟩
      · have h1' : (M : Int) ≤ (i : Int) := by omega
        go_wp2
        go_meet
        case rel => exact ⟨i, rfl, mkHid ⟨hi, HS.out⟩⟩
  case rest =>
    obtain ⟨i, rfl, HS⟩ := hcut
    obtain ⟨hi4, part, p1, p2, p3⟩ := HS.out
    have hacc : part.length ≤ 4004 := acc_le p2.2 hi4
    have LP := mkHid (lies_own rfl p1)
    have HACC := mkHid hacc
    have HPART := mkHid p2
    have HOC := mkHid p3
    have HBC := mkHid (HB.out.old p3)
    clear hi4 p1 p2 p3 HS hacc
    go_wp2
    go_loopw [9, 10, 63] (fun u9 u10 u wr => ∃ k : Nat, k ≤ N ∧ u = .int .i64 (k : Int) ∧ Hid (Two wc wr u9 (someL (hs.take k) part) u10 (hs.reverse.take k))) (fun _ _ u _ => N - (intOf u).toNat)
    case atStart => exact ⟨0, Nat.zero_le _, rfl, mkHid ⟨[], [], HBig.nil _ _, HBig.nil _ _, (fun j e => by cases e), Below.refl _ _⟩⟩
    case round =>
      obtain ⟨k, hk, rfl, HS⟩ := hrel
      by_cases hkN : k < N
      · have hkl : k < hs.length := by rw [← HN.out]; exact hkN
        obtain ⟨c, hc⟩ : ∃ c, c + 1 = N := ⟨N - 1, by omega⟩
        obtain ⟨b, hbk⟩ : ∃ b, b + k = c := ⟨c - k, by omega⟩
        have hbl : b < hs.length := by rw [← HN.out]; omega
        have hbe : hs.length - 1 - k = b := by rw [← HN.out]; omega
        obtain ⟨g, uc', hu, _, _, _⟩ := HBC.out.hrow (Nat.lt_of_le_of_lt (Nat.zero_le _) hkl)
        obtain rfl : uo = some ⟨g, 0, none⟩ := by cases hu; rfl
        obtain ⟨tA, nA, rA, lA, bA⟩ := HBC.out.head hkl
        obtain ⟨tB, nB, rB, lB, bB⟩ := HBC.out.head hbl
        obtain ⟨sA, hsA⟩ : ∃ s, s = str (hs.getD k hd0).1 := ⟨_, rfl⟩
        obtain ⟨sB, hsB⟩ : ∃ s, s = str (hs.getD b hd0).1 := ⟨_, rfl⟩
        rw [← hsA] at rA
        rw [← hsB] at rB
        obtain ⟨aoA, cA, nAl, hnA⟩ : ∃ ao c l, nA = .slice ao l c := by obtain ⟨ao, c, e, _⟩ := lA; exact ⟨_, _, _, e⟩
        obtain ⟨aoB, cB, nBl, hnB⟩ : ∃ ao c l, nB = .slice ao l c := by obtain ⟨ao, c, e, _⟩ := lB; exact ⟨_, _, _, e⟩
        subst hnA hnB
        have hwr : Old wc wr := by obtain ⟨_, _, _, _, _, h⟩ := HS.out; exact h
        have hrB := range_old rB hwr
        have hk0 : (k : Int) < (N : Int) := Int.ofNat_lt.2 hkN
        have hb0 : (b : Int) < (N : Int) := by omega
        have hw1 := wrap_pred2 HL10.out hc
        have hw2 := wrap_sub2 (show c ≤ 10 by have := HL10.out; omega) hbk
        have hwk : wrap64 ((k : Int) + 1) = (k : Int) + 1 := wrap_le10 (by have := HL10.out; omega)
        obtain ⟨q, hq⟩ : ∃ q, q = decide (sA.data.toList ∈ part) := ⟨_, rfl⟩
        have KB : Hid (∀ (ops : Array Oper) (rest : List Oper) (o : Oper) (a : Act) (Q : Exit → Act → World → Prop), o.guard = none → o.op = .call { callee := .builtin .append, args := #[.tmp 66, .tmp 75], argTypes := #[25, 25] } →
            a.eval (.tmp 66) = u10 → a.eval (.tmp 75) = .slice (some ⟨wr.heap.size, 0, none⟩) 1 1 → (∀ v' w', Hid (Two wc w' u9 (someL (hs.take k) part) v' (hs.reverse.take (k + 1))) → wpList Try.prog ops Q rest (a.put o.dst v') w') →
            wpList Try.prog ops Q (o :: rest) a (wr.alloc (.cells #[.string sB, .bool tB, .slice aoB nBl cB] 24))) := by
          intro ops rest o a Q g1 g2 g3 g4 g5
          refine wpList_appTwo g1 (.tmp 66) (.tmp 75) g2 wc u10 u9 _ _ g3 HS.out.flip ?_ sB tB _ _ g4 lB bB (fun v' w' h => g5 v' w' ?_)
          · exact takeR_le HG.out.len
          · have h2 := h.flip
            rw [rev_snoc hkl, hbe]
            rw [strK_of hsB] at h2
            exact h2
        have KA : Hid (∀ (w4 : World) (v4 : Value) (ops : Array Oper) (rest : List Oper) (o : Oper) (a : Act) (Q : Exit → Act → World → Prop), Two wc w4 u9 (someL (hs.take k) part) v4 (hs.reverse.take (k + 1)) → o.guard = none → o.op = .call { callee := .builtin .append, args := #[.tmp 84, .tmp 89], argTypes := #[25, 25] } →
            a.eval (.tmp 84) = u9 → a.eval (.tmp 89) = .slice (some ⟨w4.heap.size, 0, none⟩) 1 1 → (∀ v' w', Hid (Two wc w' v' (someL (hs.take k) part ++ [hs.getD k hd0]) v4 (hs.reverse.take (k + 1))) → wpList Try.prog ops Q rest (a.put o.dst v') w') →
            wpList Try.prog ops Q (o :: rest) a (w4.alloc (.cells #[.string sA, .bool tA, .slice aoA nAl cA] 24))) := by
          intro w4 v4 ops rest o a Q s1 g1 g2 g3 g4 g5
          refine wpList_appTwo g1 (.tmp 84) (.tmp 89) g2 wc u9 v4 _ _ g3 s1 ?_ sA tA _ _ g4 lA bA (fun v' w' h => g5 v' w' ?_)
          · exact someT_le HG.out.len
          · rw [strK_of hsA] at h
            exact h
        obtain ⟨fs, hfs⟩ := under24
        have RA := mkHid rA
        have RB := mkHid hrB
        have HQ := mkHid hq
        have HSA : Hid (sA.data.toList = (hs.getD k hd0).1) := strK_of hsA
        have HWK := mkHid hwk
        have HKN := mkHid hkN
        have HKL := mkHid hkl
        have KIN : Hid (∀ w', Old wc w' → Calls Try.prog 24 #[u6, .string sA] w' fun e w'' => e = .returned (.bool q) ∧ w'' = w') := fun w' h => by
          have := din_walk w' u6 part sA (LP.out.old h) (Nat.le_trans HACC.out (by decide))
          rw [← hq] at this
          exact this
        clear hkl hc hbk hbl hbe hu rA rB hrB lA lB bA bB hsA hsB hwr hq hwk hkN hk HS
        cases q
        · go_wp2_with (first
            | ((with_reducible refine at_op (.load 24 (.tmp 73)) ?_); refine wpList_load_mid rfl 24 (.tmp 73) rfl g (b * 3) rfl _ _ RB.out hfs rfl size24 ?_)
            | ((with_reducible refine at_op (.call { callee := .builtin .append, args := #[.tmp 66, .tmp 75], argTypes := #[25, 25] }) ?_)
               refine KB.out _ _ _ _ _ rfl rfl rfl rfl (fun v4 w4 T4 => ?_)
               have HO4 : Hid (Old wc w4) := (by obtain ⟨_, _, _, _, _, h⟩ := T4.out; exact h)
               have R4 := mkHid (range_old RA.out HO4.out)
               have hc4 : w4.cell? ⟨g, k * 3, none⟩ = some (.string sA) := R4.out 0 _ rfl)
            | (go_at_call 24; (with_reducible refine (KIN.out _ HO4.out).mono ?_); rintro e w5 ⟨rfl, hw5⟩; have hw5 := hw5.symm; subst hw5))
          go_roundw
          case rel => exact ⟨k + 1, Nat.succ_le_of_lt HKN.out, by rw [HWK.out]; rfl, by
            have h1 : (hs.getD k hd0).1 ∉ part := by rw [← HSA.out]; exact of_decide_eq_false HQ.out.symm
            rw [some_no HKL.out h1]
            exact T4.out⟩
          case measure => rw [HWK.out]; exact meas HKN.out
        · go_wp2_with (first
            | ((with_reducible refine at_op (.load 24 (.tmp 73)) ?_); refine wpList_load_mid rfl 24 (.tmp 73) rfl g (b * 3) rfl _ _ RB.out hfs rfl size24 ?_)
            | ((with_reducible refine at_op (.load 24 (.tmp 87)) ?_); refine wpList_load_mid rfl 24 (.tmp 87) rfl g (k * 3) rfl _ _ R4.out hfs rfl size24 ?_)
            | ((with_reducible refine at_op (.call { callee := .builtin .append, args := #[.tmp 66, .tmp 75], argTypes := #[25, 25] }) ?_)
               refine KB.out _ _ _ _ _ rfl rfl rfl rfl (fun v4 w4 T4 => ?_)
               have HO4 : Hid (Old wc w4) := (by obtain ⟨_, _, _, _, _, h⟩ := T4.out; exact h)
               have R4 := mkHid (range_old RA.out HO4.out)
               have hc4 : w4.cell? ⟨g, k * 3, none⟩ = some (.string sA) := R4.out 0 _ rfl)
            | (go_at_call 24; (with_reducible refine (KIN.out _ HO4.out).mono ?_); rintro e w5 ⟨rfl, hw5⟩; have hw5 := hw5.symm; subst hw5)
            | ((with_reducible refine at_op (.call { callee := .builtin .append, args := #[.tmp 84, .tmp 89], argTypes := #[25, 25] }) ?_)
               refine KA.out _ _ _ _ _ _ _ T4.out rfl rfl rfl rfl (fun v6 w6 T6 => ?_)))
          go_roundw
          case rel => exact ⟨k + 1, Nat.succ_le_of_lt HKN.out, by rw [HWK.out]; rfl, by
            have h1 : (hs.getD k hd0).1 ∈ part := by rw [← HSA.out]; exact of_decide_eq_true HQ.out.symm
            rw [some_yes HKL.out h1]
            exact T6.out⟩
          case measure => rw [HWK.out]; exact meas HKN.out
      · obtain rfl : k = N := by omega
        have hTwo := HS.out
        rw [HN.out, List.take_of_length_le (Nat.le_refl _), List.take_of_length_le (Nat.le_of_eq List.length_reverse)] at hTwo
        obtain ⟨cs9, cs10, b9, b10, _, hOcr⟩ := hTwo
        have hO1r : Old w1 wr := HOC.out.trans (hOcr.mono HOC.out.size)
        obtain ⟨o, ho⟩ := HG.out.ord
        have hol : o.length = k := by
          have := (NeedsPlain.ord_spec ho).2.2
          rw [this]; exact HN.out.symm
        have LH := HLIES.out.old hO1r
        have LS := (b9.bag hOcr).lies
        have LB := (b10.bag hOcr).lies
        have smS := small_sub HSM.out (l := someL hs part) (List.length_filter_le _ _) (fun g hg => (List.mem_filter.1 hg).1)
        have smB := small_sub HSM.out (l := hs.reverse) (Nat.le_of_eq List.length_reverse) (fun g hg => List.mem_reverse.1 hg)
        have hoS := some_ord HG.out HPART.out ho
        have C1 := order_lit LH HSM.out ho
        have C2 := order_lit LS smS hoS
        have C3 := order_lit LB smB (back_ord HG.out ho)
        have C4 := closed_lit (d := true) LS smS (by rw [hoS]; rfl)
        have C5 : Hid (∀ u w', LiesS w' u o → ∃ ao c, u = .slice ao k c) := fun u w' l => by
          obtain ⟨ao, c, e, _⟩ := l
          rw [hol] at e
          exact ⟨ao, c, e⟩
        have OO : Hid (Old wr wr) := Below.refl _ _
        have HOL := mkHid hol
        have HORD := mkHid ho
        have HO1R := mkHid hO1r
        have HOCR := mkHid hOcr
        clear b9 b10 hOcr hO1r ho hol LH LS LB smS smB hoS HS hkN hk
        go_wp2_with (first
          | (go_at_call 10; (with_reducible refine (C1.out _ OO.out).mono ?_); rintro e wa ⟨ua, rfl, la, oa⟩; have LA := mkHid la; have OA := mkHid (OO.out.trans (oa.mono OO.out.size)); obtain ⟨aoa, ca, hua⟩ := C5.out _ _ la; subst hua; clear la oa)
          | (go_at_call 10; (with_reducible refine (C2.out _ OA.out).mono ?_); rintro e wb ⟨ub, rfl, lb, ob⟩; have LBx := mkHid lb; have OB := mkHid (OA.out.trans (ob.mono OA.out.size)); have LA2 := mkHid (LA.out.old ob); clear lb ob)
          | (go_at_call 10; (with_reducible refine (C3.out _ OB.out).mono ?_); rintro e wd ⟨ud, rfl, ld, od⟩; have LD := mkHid ld; have OD := mkHid (OB.out.trans (od.mono OB.out.size)); have LA3 := mkHid (LA2.out.old od); have LB3 := mkHid (LBx.out.old od); clear ld od)
          | (go_at_call 12; (with_reducible refine (C4.out _ OD.out).mono ?_); rintro e we ⟨rfl, oe⟩; have OE := mkHid (OD.out.trans (oe.mono OD.out.size)); have LA4 := mkHid (LA3.out.old oe); have LB4 := mkHid (LB3.out.old oe); have LD4 := mkHid (LD.out.old oe); clear oe))
        have HFIN : Hid (Old w we) := (HO.out.trans (HO1R.out.mono HO.out.size)).trans (OE.out.mono (Nat.le_trans HO.out.size HO1R.out.size))
        have HCE : Hid (Old wc we) := HOCR.out.trans (OE.out.mono HOCR.out.size)
        go_loopw [18, 131] (fun u18 u wz => ∃ j : Nat, j ≤ k ∧ u = .int .i64 (j : Int) ∧ Hid (WaL we wz o part j u18)) (fun _ u _ => k - (intOf u).toNat)
        case atStart => exact ⟨0, Nat.zero_le _, rfl, mkHid ⟨World.ownsRow_nil _ _ 9 1, Below.refl _ _⟩⟩
        case round =>
          obtain ⟨j, hj, rfl, HW⟩ := hrel
          obtain ⟨wo, hwo⟩ : ∃ wo, wo = wr := ⟨_, rfl⟩
          subst hwo
          by_cases hjk : j < k
          · have hjl : j < o.length := by rw [HOL.out]; exact hjk
            have heo : Old we wo := HW.out.2
            obtain ⟨bo, oo, co, eo, hco, hcell⟩ := (LA4.out.old heo).form (Nat.lt_of_le_of_lt (Nat.zero_le j) hjl)
            rw [HOL.out] at eo hco
            obtain rfl : aoa = some ⟨bo, oo, none⟩ := by cases eo; rfl
            obtain rfl : co = ca := by cases eo; rfl
            have hcj := hcell j hjl
            obtain ⟨ts, hts⟩ : ∃ ts, ts = str (o.getD j []) := ⟨_, rfl⟩
            have hcj2 : wo.cell? ⟨bo, oo + j, none⟩ = some (.string ts) := by rw [hts]; exact hcj
            have hkl : 0 < hs.length := by rw [← HN.out]; exact Nat.lt_of_le_of_lt (Nat.zero_le j) hjk
            obtain ⟨g, uc', hu, _, _, _⟩ := HBC.out.hrow hkl
            obtain rfl : uo = some ⟨g, 0, none⟩ := by cases hu; rfl
            have hco2 : Old wc wo := HCE.out.trans (heo.mono HCE.out.size)
            obtain ⟨q, hq⟩ : ∃ q, q = decide (ts.data.toList ∈ part) := ⟨_, rfl⟩
            have KIN := din_walk wo u6 part ts (LP.out.old hco2) (Nat.le_trans HACC.out (by decide))
            rw [← hq] at KIN
            have htake := lies_take (j := j) (LA4.out.old heo) (Nat.le_of_lt hjk)
            have htk : (o.take j).length ≤ 1000000 := by
              rw [List.length_take]
              exact Nat.le_trans (Nat.min_le_left _ _) (Nat.le_trans hj (Nat.le_trans HL10.out (by decide)))
            have hj0 : (j : Int) < (k : Int) := Int.ofNat_lt.2 hjk
            have hjc : j ≤ co := Nat.le_trans hj hco
            have hwj : wrap64 ((j : Int) + 1) = (j : Int) + 1 := wrap_le10 (Nat.le_trans hj HL10.out)
            have HKIN := mkHid KIN
            have HQ := mkHid hq
            have HTS : Hid (ts.data.toList = o.getD j []) := strK_of hts
            have HTAKE0 := mkHid htake
            have HTKL := mkHid htk
            have HWJ := mkHid hwj
            have HJK := mkHid hjk
            have HJL := mkHid hjl
            have HCO := mkHid hco2
            have hol10 : o.length ≤ 10 := by rw [HOL.out]; exact HL10.out
            have HOL10 := mkHid hol10
            clear hjl heo eo hco hcell hcj hts hkl hu hco2 KIN hq htake htk hwj hjk hj hol10
            cases q
            · have WQ : ((o.take (j + 1)).filter fun x => decide (x ∈ part)) = (o.take j).filter fun x => decide (x ∈ part) := want_no HJL.out (by rw [← HTS.out]; exact of_decide_eq_false HQ.out.symm)
              have HWQ := mkHid WQ
              clear WQ
              go_wp2_with (first
                | (go_at_call 24; (with_reducible refine HKIN.out.mono ?_); rintro e w5 ⟨rfl, hw5⟩; have hw5 := hw5.symm; subst hw5))
              have HWA : Hid (WaL we wo o part (j + 1) u18) := by
                show WaL we wo o part (j + 1) u18
                unfold WaL
                rw [HWQ.out]; exact HW.out
              have HXC := HCO
              have HTAKE := HTAKE0
              clear HW
              go_loopw [145] (fun u wz => ∃ m : Nat, m ≤ k ∧ u = .int .i64 (m : Int) ∧ Hid (Old wo wz)) (fun u _ => k - (intOf u).toNat)
              case atStart => exact ⟨0, Nat.zero_le _, rfl, mkHid (Below.refl _ _)⟩
              case round =>
                obtain ⟨m, hm, rfl, HZ⟩ := hrel
                by_cases hmk : m < k
                · have hml : m < hs.length := by rw [← HN.out]; exact hmk
                  obtain ⟨tM, nM, rM, lM, bM⟩ := HBC.out.head hml
                  obtain ⟨sM, hsM⟩ : ∃ s, s = str (hs.getD m hd0).1 := ⟨_, rfl⟩
                  rw [← hsM] at rM
                  obtain ⟨nd, hnd⟩ : ∃ nd, nd = (hs.getD m hd0).2 := ⟨_, rfl⟩
                  rw [← hnd] at lM
                  have hgm : (sM.data.toList, nd) ∈ hs := by
                    have : hs.getD m hd0 ∈ hs := getD_mem hml
                    rw [hsM, hnd]; exact this
                  have hone := one_cell (nm := sM) (tg := tM) lM
                  have hndl : nd.length ≤ 3 := by rw [hnd]; exact HG.out.nl m hml
                  have lM2 := lM
                  obtain ⟨no, nc, hnve, _, _, _⟩ := lM2
                  subst hnve
                  obtain ⟨P, hP⟩ : ∃ P, P = nd.length := ⟨_, rfl⟩
                  rw [← hP] at lM rM hone hndl
                  have hcz : Old wc wr := HXC.out.trans (HZ.out.mono HXC.out.size)
                  have hr := range_old rM hcz
                  have hm0 : (m : Int) < (k : Int) := Int.ofNat_lt.2 hmk
                  have hwm : wrap64 ((m : Int) + 1) = (m : Int) + 1 := wrap_le10 (Nat.le_trans (Nat.le_of_lt hmk) HL10.out)
                  obtain ⟨fs, hfs⟩ := under24
                  have HWM := mkHid hwm
                  have HCZ := mkHid hcz
                  have HR := mkHid hr
                  have HONE := mkHid hone
                  have HGM := mkHid hgm
                  have HLM := mkHid lM
                  have HP9 := mkHid hP
                  have HNDL := mkHid hndl
                  have HMK := mkHid hmk
                  clear hml rM lM bM hsM hnd hgm hone hndl hP hcz hr hwm hmk hm
                  go_upto_region 30 with (first
                    | ((with_reducible refine at_op (.load 24 (.tmp 147)) ?_); refine wpList_load_mid rfl 24 (.tmp 147) rfl g (m * 3) rfl _ _ HR.out hfs rfl size24 ?_)
                    | ((with_reducible refine at_op (.store 24 (.tmp 22) (.tmp 148)) ?_)
                       refine wpList_store_row rfl 24 (.tmp 22) (.tmp 148) rfl wr.heap.size _ rfl rfl 24 hd0A (h10 _ _) size24 rfl HONE.out ?_
                       rw [World.setRow_alloc_new]
                       obtain ⟨X1, hX1⟩ : ∃ X1, X1 = wr.alloc (.cells #[.string sM, .bool tM, .slice no P nc] 24) := ⟨_, rfl⟩
                       have b1 : Old wr X1 := by rw [hX1]; exact old1 _ _
                       have HB1 := mkHid b1
                       have G6 : Hid (X1.heap[wr.heap.size]? = some (.cells #[.string sM, .bool tM, .slice no P nc] 24 (0, 0))) := by show _ = _; rw [hX1]; exact h10 _ _
                       rw [← hX1]
                       obtain ⟨r0, r1, r2⟩ := cell3 G6.out
                       clear b1 hX1))
                  have HEND : Hid (Old wo X1) := HZ.out.trans (HB1.out.mono HZ.out.size)
                  have HT1 : Hid (LiesS X1 (.slice (some ⟨bo, oo, none⟩) j co) (o.take j)) := HTAKE.out.old HEND.out
                  by_cases hsx : sM.toList = ts.toList
                  · have f2 : (sM.toList == ts.toList) = true := beq_iff_eq.2 hsx
                    have HSUB : Hid (∀ y ∈ nd, y ∈ o.take j) := fun y hy => need_take HORD.out HGM.out HJL.out (by rw [← HTS.out, ← ByteArray.toList_eq, ← ByteArray.toList_eq]; exact hsx) hy
                    go_wp2_with (fail)
                    go_loopw [156] (fun u wz => ∃ p : Nat, p ≤ P ∧ u = .int .i64 (p : Int) ∧ wz = X1) (fun u _ => P - (intOf u).toNat)
                    case atStart => exact ⟨0, Nat.zero_le _, rfl, rfl⟩
                    case round =>
                      obtain ⟨p, hp, rfl, hwz⟩ := hrel
                      subst hwz
                      by_cases hpP : p < P
                      · have hpl : p < nd.length := by rw [← HP9.out]; exact hpP
                        obtain ⟨b2, o2, c2, e2, _, hc2⟩ := (((HLM.out).old HCZ.out).old HB1.out).form (Nat.lt_of_le_of_lt (Nat.zero_le p) hpl)
                        rw [← HP9.out] at e2
                        obtain rfl : no = some ⟨b2, o2, none⟩ := by cases e2; rfl
                        have hcm := hc2 p hpl
                        obtain ⟨ms, hms⟩ : ∃ ms, ms = str (nd.getD p []) := ⟨_, rfl⟩
                        have hcm2 : wr.cell? ⟨b2, o2 + p, none⟩ = some (.string ms) := by rw [hms]; exact hcm
                        have hmo : ms.data.toList ∈ o.take j := by
                          rw [strK_of hms]
                          refine HSUB.out _ ?_
                          rw [List.getD_eq_getElem?_getD, List.getElem?_eq_getElem hpl]; exact List.getElem_mem hpl
                        have hwp : wrap64 ((p : Int) + 1) = (p : Int) + 1 := wrap_le10 (Nat.le_trans (Nat.le_of_lt hpP) (Nat.le_trans HNDL.out (by decide)))
                        have hp0 : (p : Int) < (P : Int) := Int.ofNat_lt.2 hpP
                        have KI2 := mkHid (din_walk wr _ (o.take j) ms HT1.out HTKL.out)
                        rw [decide_eq_true hmo] at KI2
                        have HWP := mkHid hwp
                        have HPP := mkHid hpP
                        clear hpl e2 hc2 hcm hms hmo hwp hpP hp
                        go_wp2_with (first
                          | (go_at_call 24; (with_reducible refine KI2.out.mono ?_); rintro e w9 ⟨rfl, hw9⟩; have hw9 := hw9.symm; subst hw9))
                        go_roundw
                        case rel => exact ⟨p + 1, Nat.succ_le_of_lt HPP.out, by rw [HWP.out]; rfl, trivial⟩
                        case measure => rw [HWP.out]; exact meas HPP.out
                      · have hp0 : (P : Int) ≤ (p : Int) := Int.ofNat_le.2 (Nat.le_of_not_lt hpP)
                        go_wp2
                        go_roundw
                        case rel => exact ⟨m + 1, Nat.succ_le_of_lt HMK.out, by rw [HWM.out]; rfl, HEND.out⟩
                        case measure => rw [HWM.out]; exact meas HMK.out
                  · have f2 : (sM.toList == ts.toList) = false := beq_eq_false_iff_ne.2 hsx
                    clear hsx
                    go_wp2_with (fail)
                    go_roundw
                    case rel => exact ⟨m + 1, Nat.succ_le_of_lt HMK.out, by rw [HWM.out]; rfl, HEND.out⟩
                    case measure => rw [HWM.out]; exact meas HMK.out
                · have hm0 : (k : Int) ≤ (m : Int) := Int.ofNat_le.2 (Nat.le_of_not_lt hmk)
                  go_wp2
                  go_roundw
                  case rel => exact ⟨j + 1, Nat.succ_le_of_lt HJK.out, by rw [HWJ.out]; rfl, HWA.out.old HZ.out⟩
                  case measure => rw [HWJ.out]; exact meas HJK.out
            · have WQ : ((o.take (j + 1)).filter fun x => decide (x ∈ part)) = ((o.take j).filter fun x => decide (x ∈ part)) ++ [o.getD j []] := want_yes HJL.out (by rw [← HTS.out]; exact of_decide_eq_true HQ.out.symm)
              have HWQ := mkHid WQ
              have KA : Hid (∀ (ops : Array Oper) (rest : List Oper) (o' : Oper) (a : Act) (Q : Exit → Act → World → Prop), o'.guard = none → o'.op = .call { callee := .builtin .append, args := #[.tmp 139, .tmp 141], argTypes := #[22, 22] } →
                  a.eval (.tmp 139) = u18 → a.eval (.tmp 141) = .slice (some ⟨wo.heap.size, 0, none⟩) 1 1 →
                  (∀ v' w', Hid (WaL we w' o part (j + 1) v') → Hid (Old wc w') → Hid (LiesS w' (.slice (some ⟨bo, oo, none⟩) j co) (o.take j)) → wpList Try.prog ops Q rest (a.put o'.dst v') w') →
                  wpList Try.prog ops Q (o' :: rest) a (wo.alloc (.cells #[.string ts] 9))) := by
                intro ops rest o' a Q g1 g2 g3 g4 g5
                have hO1 : Old wo (wo.alloc (.cells #[.string ts] 9)) := old1 _ _
                have hl1 := lies_one wo ts
                rw [HTS.out] at hl1
                have hwl := want_len (part := part) (k := j) HOL10.out
                refine wpList_appS g1 (.tmp 139) (.tmp 141) g2 we.heap.size _ _ _ g3 (own_at HW.out.1 fun k hk => hO1.block k (HW.out.1.lt k hk).2) _ [o.getD j []] g4 hl1 (Nat.le_trans (Nat.add_le_add_right hwl _) (Nat.le_of_ble_eq_true rfl)) (Nat.le_trans HW.out.2.size hO1.size) ?_
                intro v' w' q1 q2 _
                have hWw : Old we w' := (HW.out.2.trans (hO1.mono HW.out.2.size)).trans q2
                refine g5 v' w' ?_ (HCE.out.trans (hWw.mono HCE.out.size)) (lies_take (LA4.out.old hWw) (Nat.le_of_lt HJK.out))
                show WaL we w' o part (j + 1) v'
                unfold WaL
                rw [HWQ.out]
                refine ⟨?_, hWw⟩
                rw [List.length_append]
                exact q1
              clear WQ
              go_wp2_with (first
                | (go_at_call 24; (with_reducible refine HKIN.out.mono ?_); rintro e w5 ⟨rfl, hw5⟩; have hw5 := hw5.symm; subst hw5)
                | ((with_reducible refine at_op (.call { callee := .builtin .append, args := #[.tmp 139, .tmp 141], argTypes := #[22, 22] }) ?_)
                   refine KA.out _ _ _ _ _ rfl rfl rfl rfl (fun v18 wX HWA HXC HTAKE => ?_)))
              clear HW
              go_loopw [145] (fun u wz => ∃ m : Nat, m ≤ k ∧ u = .int .i64 (m : Int) ∧ Hid (Old wX wz)) (fun u _ => k - (intOf u).toNat)
              case atStart => exact ⟨0, Nat.zero_le _, rfl, mkHid (Below.refl _ _)⟩
              case round =>
                obtain ⟨m, hm, rfl, HZ⟩ := hrel
                by_cases hmk : m < k
                · have hml : m < hs.length := by rw [← HN.out]; exact hmk
                  obtain ⟨tM, nM, rM, lM, bM⟩ := HBC.out.head hml
                  obtain ⟨sM, hsM⟩ : ∃ s, s = str (hs.getD m hd0).1 := ⟨_, rfl⟩
                  rw [← hsM] at rM
                  obtain ⟨nd, hnd⟩ : ∃ nd, nd = (hs.getD m hd0).2 := ⟨_, rfl⟩
                  rw [← hnd] at lM
                  have hgm : (sM.data.toList, nd) ∈ hs := by
                    have : hs.getD m hd0 ∈ hs := getD_mem hml
                    rw [hsM, hnd]; exact this
                  have hone := one_cell (nm := sM) (tg := tM) lM
                  have hndl : nd.length ≤ 3 := by rw [hnd]; exact HG.out.nl m hml
                  have lM2 := lM
                  obtain ⟨no, nc, hnve, _, _, _⟩ := lM2
                  subst hnve
                  obtain ⟨P, hP⟩ : ∃ P, P = nd.length := ⟨_, rfl⟩
                  rw [← hP] at lM rM hone hndl
                  have hcz : Old wc wr := HXC.out.trans (HZ.out.mono HXC.out.size)
                  have hr := range_old rM hcz
                  have hm0 : (m : Int) < (k : Int) := Int.ofNat_lt.2 hmk
                  have hwm : wrap64 ((m : Int) + 1) = (m : Int) + 1 := wrap_le10 (Nat.le_trans (Nat.le_of_lt hmk) HL10.out)
                  obtain ⟨fs, hfs⟩ := under24
                  have HWM := mkHid hwm
                  have HCZ := mkHid hcz
                  have HR := mkHid hr
                  have HONE := mkHid hone
                  have HGM := mkHid hgm
                  have HLM := mkHid lM
                  have HP9 := mkHid hP
                  have HNDL := mkHid hndl
                  have HMK := mkHid hmk
                  clear hml rM lM bM hsM hnd hgm hone hndl hP hcz hr hwm hmk hm
                  go_upto_region 30 with (first
                    | ((with_reducible refine at_op (.load 24 (.tmp 147)) ?_); refine wpList_load_mid rfl 24 (.tmp 147) rfl g (m * 3) rfl _ _ HR.out hfs rfl size24 ?_)
                    | ((with_reducible refine at_op (.store 24 (.tmp 22) (.tmp 148)) ?_)
                       refine wpList_store_row rfl 24 (.tmp 22) (.tmp 148) rfl wr.heap.size _ rfl rfl 24 hd0A (h10 _ _) size24 rfl HONE.out ?_
                       rw [World.setRow_alloc_new]
                       obtain ⟨X1, hX1⟩ : ∃ X1, X1 = wr.alloc (.cells #[.string sM, .bool tM, .slice no P nc] 24) := ⟨_, rfl⟩
                       have b1 : Old wr X1 := by rw [hX1]; exact old1 _ _
                       have HB1 := mkHid b1
                       have G6 : Hid (X1.heap[wr.heap.size]? = some (.cells #[.string sM, .bool tM, .slice no P nc] 24 (0, 0))) := by show _ = _; rw [hX1]; exact h10 _ _
                       rw [← hX1]
                       obtain ⟨r0, r1, r2⟩ := cell3 G6.out
                       clear b1 hX1))
                  have HEND : Hid (Old wX X1) := HZ.out.trans (HB1.out.mono HZ.out.size)
                  have HT1 : Hid (LiesS X1 (.slice (some ⟨bo, oo, none⟩) j co) (o.take j)) := HTAKE.out.old HEND.out
                  by_cases hsx : sM.toList = ts.toList
                  · have f2 : (sM.toList == ts.toList) = true := beq_iff_eq.2 hsx
                    have HSUB : Hid (∀ y ∈ nd, y ∈ o.take j) := fun y hy => need_take HORD.out HGM.out HJL.out (by rw [← HTS.out, ← ByteArray.toList_eq, ← ByteArray.toList_eq]; exact hsx) hy
                    go_wp2_with (fail)
                    go_loopw [156] (fun u wz => ∃ p : Nat, p ≤ P ∧ u = .int .i64 (p : Int) ∧ wz = X1) (fun u _ => P - (intOf u).toNat)
                    case atStart => exact ⟨0, Nat.zero_le _, rfl, rfl⟩
                    case round =>
                      obtain ⟨p, hp, rfl, hwz⟩ := hrel
                      subst hwz
                      by_cases hpP : p < P
                      · have hpl : p < nd.length := by rw [← HP9.out]; exact hpP
                        obtain ⟨b2, o2, c2, e2, _, hc2⟩ := (((HLM.out).old HCZ.out).old HB1.out).form (Nat.lt_of_le_of_lt (Nat.zero_le p) hpl)
                        rw [← HP9.out] at e2
                        obtain rfl : no = some ⟨b2, o2, none⟩ := by cases e2; rfl
                        have hcm := hc2 p hpl
                        obtain ⟨ms, hms⟩ : ∃ ms, ms = str (nd.getD p []) := ⟨_, rfl⟩
                        have hcm2 : wr.cell? ⟨b2, o2 + p, none⟩ = some (.string ms) := by rw [hms]; exact hcm
                        have hmo : ms.data.toList ∈ o.take j := by
                          rw [strK_of hms]
                          refine HSUB.out _ ?_
                          rw [List.getD_eq_getElem?_getD, List.getElem?_eq_getElem hpl]; exact List.getElem_mem hpl
                        have hwp : wrap64 ((p : Int) + 1) = (p : Int) + 1 := wrap_le10 (Nat.le_trans (Nat.le_of_lt hpP) (Nat.le_trans HNDL.out (by decide)))
                        have hp0 : (p : Int) < (P : Int) := Int.ofNat_lt.2 hpP
                        have KI2 := mkHid (din_walk wr _ (o.take j) ms HT1.out HTKL.out)
                        rw [decide_eq_true hmo] at KI2
                        have HWP := mkHid hwp
                        have HPP := mkHid hpP
                        clear hpl e2 hc2 hcm hms hmo hwp hpP hp
                        go_wp2_with (first
                          | (go_at_call 24; (with_reducible refine KI2.out.mono ?_); rintro e w9 ⟨rfl, hw9⟩; have hw9 := hw9.symm; subst hw9))
                        go_roundw
                        case rel => exact ⟨p + 1, Nat.succ_le_of_lt HPP.out, by rw [HWP.out]; rfl, trivial⟩
                        case measure => rw [HWP.out]; exact meas HPP.out
                      · have hp0 : (P : Int) ≤ (p : Int) := Int.ofNat_le.2 (Nat.le_of_not_lt hpP)
                        go_wp2
                        go_roundw
                        case rel => exact ⟨m + 1, Nat.succ_le_of_lt HMK.out, by rw [HWM.out]; rfl, HEND.out⟩
                        case measure => rw [HWM.out]; exact meas HMK.out
                  · have f2 : (sM.toList == ts.toList) = false := beq_eq_false_iff_ne.2 hsx
                    clear hsx
                    go_wp2_with (fail)
                    go_roundw
                    case rel => exact ⟨m + 1, Nat.succ_le_of_lt HMK.out, by rw [HWM.out]; rfl, HEND.out⟩
                    case measure => rw [HWM.out]; exact meas HMK.out
                · have hm0 : (k : Int) ≤ (m : Int) := Int.ofNat_le.2 (Nat.le_of_not_lt hmk)
                  go_wp2
                  go_roundw
                  case rel => exact ⟨j + 1, Nat.succ_le_of_lt HJK.out, by rw [HWJ.out]; rfl, HWA.out.old HZ.out⟩
                  case measure => rw [HWJ.out]; exact meas HJK.out
          · obtain rfl : j = k := Nat.le_antisymm hj (Nat.le_of_not_lt hjk)
            have hW := HW.out
            unfold WaL at hW
            rw [List.take_of_length_le (Nat.le_of_eq HOL.out)] at hW
            obtain ⟨hW1, hW2⟩ := hW
            have hwl : (o.filter fun x => decide (x ∈ part)).length ≤ 1000000 := Nat.le_trans (List.length_filter_le _ _) (by rw [HOL.out]; exact Nat.le_trans HL10.out (by decide))
            have hol : o.length ≤ 1000000 := by rw [HOL.out]; exact Nat.le_trans HL10.out (by decide)
            have S1 := eqK_walk wo ub u18 _ _ (LB4.out.old hW2) (lies_own rfl hW1) hwl hwl
            rw [decide_eq_true rfl] at S1
            have S2 : Hid (∀ w', Old wo w' → Calls Try.prog 11 #[ud, .slice aoa j ca] w' fun e w'' => e = .returned (.bool true) ∧ ∃ n, w'' = w'.drewN n) := fun w' h => by
              have := eqK_walk w' ud (.slice aoa j ca) o o ((LD4.out.old hW2).old h) ((LA4.out.old hW2).old h) hol hol
              rw [decide_eq_true rfl] at this
              exact this
            have HS1 := mkHid S1
            have HFW : Hid (Old w wo) := HFIN.out.trans (hW2.mono HFIN.out.size)
            clear S1 hW1 hW2 hwl hol HW hj hjk
            go_wp2_with (first
              | (go_at_call 11; (with_reducible refine HS1.out.mono ?_); rintro e w5 ⟨rfl, n5, hw5⟩; have O5 : Hid (Old wo w5) := (by rw [hw5]; exact below_drewN _ _); clear hw5)
              | (go_at_call 11; (with_reducible refine (S2.out _ O5.out).mono ?_); rintro e w7 ⟨rfl, n7, hw7⟩; have O7 : Hid (Old w5 w7) := (by rw [hw7]; exact below_drewN _ _); clear hw7)
              | (go_at_call 16; (with_reducible refine (WK.out _).mono ?_); rintro e w8 ⟨rfl, o8⟩; have O8 := mkHid ((O5.out.trans (O7.out.mono O5.out.size)).trans (o8.mono (Nat.le_trans O5.out.size O7.out.size))); clear o8))
            go_ret
            exact ⟨rfl, HFW.out.trans (O8.out.mono HFW.out.size)⟩
end Go.Proofs.Ytcogeebfldlpoaa
