/-
  Set, In, Same, Text, handed on by what their arguments read as; IdSets: the law's walk.
-/
import Derived.Test.YtbjgldpnichoeaaDoorSc
import Derived.Test.YtbjgldpnichoeaaDoorArg
import Derived.Deep.RegionHeld3
set_option linter.unusedSimpArgs false
set_option linter.unusedVariables false
namespace Go.Proofs.YtbjgldpnichoeaaDoor
open Go.RowKit Go.Sort

theorem within_nat2 (n : Int) (m : Nat) (h0 : 0 < m) (h1 : m < 4611686018427387904) : ∃ k : Nat, k < m ∧ Hid (∀ w, Calls Tryd.prog 6 #[.int .i64 n, .int .i64 (m : Int)] w fun e w' => e = .returned (.int .i64 (k : Int)) ∧ w' = w) := by
  have a := Int.emod_nonneg n (show (m : Int) ≠ 0 by omega)
  have b := Int.emod_lt_of_pos n (show (0 : Int) < m by omega)
  refine ⟨(n % (m : Int)).toNat, by omega, fun w => ?_⟩
  refine (within_walk n m (by omega) (by omega) w).mono ?_
  rintro e w' ⟨rfl, rfl⟩
  exact ⟨ret_int (by omega), rfl⟩

theorem liesS_nil (w : World) : LiesS w (.slice none 0 0) [] := ⟨none, 0, rfl, Nat.le_refl _, fun _ => rfl, fun a ha => by cases ha⟩

theorem LiesS.slice {w : World} {v : Value} {ss : List (List UInt8)} (m : Nat) (hm : m = ss.length) (h : LiesS w v ss) : ∃ ao cap, v = .slice ao m cap ∧ LiesS w (.slice ao m cap) ss := by
  have h0 := h
  obtain ⟨ao, cap, rfl, _⟩ := h
  subst hm
  exact ⟨ao, cap, rfl, h0⟩

theorem set_hid (ss S : List (List UInt8)) (m : Nat) (hS : S = setL ss) (hm : m = S.length) (hl : ss.length ≤ 9000000000000) :
    Hid (∀ w v, LiesS w v ss → Calls Tryd.prog 13 #[v] w fun e w' => ∃ ao cap, e = .returned (.slice ao m cap) ∧ LiesS w' (.slice ao m cap) S ∧ Below w.heap.size w w') := by
  intro w v hv
  subst hS
  refine (set_walk w v ss hv hl).mono ?_
  rintro e w' ⟨v', rfl, ho, hb⟩
  obtain ⟨ao, cap, rfl, h⟩ := (lies_own rfl ho).slice m hm
  exact ⟨ao, cap, rfl, h, hb⟩

theorem same_hid (xs ys : List (List UInt8)) (b : Bool) (hb : b = decide (xs = ys)) (hl : xs.length ≤ 281474976710656) :
    Hid (∀ w u v, LiesS w u xs → LiesS w v ys → Calls Tryd.prog 16 #[u, v] w fun e w' => e = .returned (.bool b) ∧ Below w.heap.size w w') := by
  subst hb
  exact fun w u v hu hv => same_any w u v xs ys hu hv hl

theorem in_hid (ss : List (List UInt8)) (x : ByteArray) (b : Bool) (hb : b = decide (x.data.toList ∈ ss)) (hl : ss.length ≤ 9000000000000) :
    Hid (∀ w v, LiesS w v ss → Calls Tryd.prog 14 #[v, .string x] w fun e w' => e = .returned (.bool b) ∧ w' = w) := by
  subst hb
  exact fun w v hv => in_walk w v ss x hv hl

theorem text_hid (s t : ByteArray) (n : Nat) (hs : s.size ≤ maxLen) (hn : n < 1000) (ht : t = ⟨(s.data.toList.take n).toArray⟩) :
    Hid (∀ w, Calls Tryd.prog 15 #[.string s, .int .i64 (n : Int)] w fun e w' => e = .returned (.string t) ∧ w' = w) := by
  subst ht
  exact fun w => text_walk s n w hs hn

theorem liesS_one (w : World) (t : ByteArray) : LiesS (w.alloc (.cells #[.string t] 9)) (.slice (some ⟨w.heap.size, 0, none⟩) 1 1) [t.data.toList] := by
  refine ⟨_, _, rfl, Nat.le_refl _, fun h => (by cases h), fun a ha j u hu => ?_⟩
  cases ha
  have hj : j = 0 := by
    rcases Nat.eq_zero_or_pos j with h | h
    · exact h
    · rw [List.getElem?_eq_none (by simp; omega)] at hu; cases hu
  subst hj
  simp [encStr] at hu
  subst hu
  rw [add_none, cell_of_row _ _ 0 _ 9 (0, 0) (heap_alloc_new w _)]
  rfl

theorem meas10 {k : Nat} (h : k < 10) : 10 - (intOf (.int .i64 ((k : Int) + 1))).toNat < 10 - (intOf (.int .i64 (k : Int))).toNat := by
  simp [intOf]; omega

def firsts (L : List (List UInt8)) : List (List UInt8) := (L.take 10).map (·.take 6)

theorem firsts_take (L : List (List UInt8)) (k : Nat) (h : k < L.length) (h2 : k < 10) : (firsts L).take (k + 1) = (firsts L).take k ++ [(L.getD k []).take 6] := by
  unfold firsts
  have hl : k < ((L.take 10).map (·.take 6)).length := by simp; omega
  rw [List.take_succ_eq_append_getElem hl]
  simp [h]

theorem firsts_all (L : List (List UInt8)) (k : Nat) (h : ¬ (k < L.length ∧ k < 10)) : (firsts L).take k = firsts L := by
  apply List.take_of_length_le
  unfold firsts
  simp
  omega

def swp (X : List (List UInt8)) (a b : Nat) : List (List UInt8) := (X.set a (X.getD b [])).set b (X.getD a [])

theorem swp_len (X : List (List UInt8)) (a b : Nat) : (swp X a b).length = X.length := by simp [swp]

theorem swp_mem (X : List (List UInt8)) (a b : Nat) (ha : a < X.length) (hb : b < X.length) (y : List UInt8) : y ∈ swp X a b ↔ y ∈ X := by
  have ga : X.getD a [] = X[a] := by simp [ha]
  have gb : X.getD b [] = X[b] := by simp [hb]
  unfold swp
  rw [ga, gb]
  constructor
  · intro h
    rcases List.mem_or_eq_of_mem_set h with h | rfl
    · rcases List.mem_or_eq_of_mem_set h with h | rfl
      · exact h
      · exact List.getElem_mem hb
    · exact List.getElem_mem ha
  · intro h
    obtain ⟨i, hi, rfl⟩ := List.getElem_of_mem h
    rw [List.mem_iff_getElem?]
    by_cases ia : i = a
    · subst ia
      exact ⟨b, by simp [hb]⟩
    · by_cases ib : i = b
      · subst ib
        exact ⟨a, by rw [List.getElem?_set_ne ia, List.getElem?_set_self (by simpa using ha)]⟩
      · exact ⟨i, by rw [List.getElem?_set_ne (Ne.symm ib), List.getElem?_set_ne (Ne.symm ia)]; simp [hi]⟩

theorem swp_own {w : World} {B g n cap : Nat} {X : List (List UInt8)} (h : w.ownsRow B 9 1 (.slice (some ⟨g, 0, none⟩) n cap) n (X.map encStr)) (a b : Nat) (x y : ByteArray) (hx : x = ⟨(X.getD a []).toArray⟩) (hy : y = ⟨(X.getD b []).toArray⟩) :
    ((w.setCell ⟨g, a, none⟩ (.string y)).setCell ⟨g, b, none⟩ (.string x)).ownsRow B 9 1 (.slice (some ⟨g, 0, none⟩) n cap) n ((swp X a b).map encStr) := by
  have h1 := (h.stored a (.string y)).1
  have h2 := (h1.stored b (.string x)).1
  unfold swp
  rw [List.map_set, List.map_set]
  subst hx hy
  exact h2

theorem _root_.Go.RowKit.Below.drewN {B : Nat} {a w : World} (h : Below B a w) (n : Nat) : Below B a (w.drewN n) := ⟨h.os, h.tape, h.output, h.size, h.block⟩

theorem meas2 {k : Nat} (h : k < 12) : 14 - (intOf (.int .i64 ((k : Int) + 2))).toNat < 14 - (intOf (.int .i64 (k : Int))).toNat := by
  simp [intOf]; omega

set_option maxRecDepth 100000 in
set_option maxHeartbeats 8000000 in
theorem sets_walk (w : World) (v u : Value) (L : List (List UInt8)) (zs : List Int) (hv : LiesS w v L) (hu : Ints w u zs) (hl : L.length ≤ 8796093022208) (hs : ∀ s ∈ L, s.length ≤ maxLen) (hz : zs.length ≤ 17592186043904) :
    Calls Tryd.prog 5 #[v, u] w fun e w' => e = .returned (.bool true) ∧ Below w.heap.size w w' := by
  obtain ⟨n, hn⟩ : ∃ n, n = L.length := ⟨_, rfl⟩
  obtain ⟨M, hM⟩ : ∃ M, M = firsts L := ⟨_, rfl⟩
  obtain ⟨m0, hm0⟩ : ∃ m0, m0 = M.length := ⟨_, rfl⟩
  obtain ⟨ao, cap, rfl, hv'⟩ := hv.slice n hn
  obtain ⟨bo, ubcap, rfl, hu2, hu3, hu4⟩ := hu
  have hc : Hid (∀ k, k < n → ∃ a, ao = some a ∧ w.cell? (a.add k) = some (.string ⟨(L.getD k []).toArray⟩)) := by
    intro k hk
    obtain ⟨a, ca, he, _, hcc⟩ := hv.at (by omega)
    cases he
    exact ⟨a, rfl, hcc k (by omega)⟩
  have HV := mkHid hv'
  have HM := mkHid hM
  have HM0 := mkHid hm0
  have HN := mkHid hn
  have HS := mkHid hs
  have hn1 : n ≤ 8796093022208 := by omega
  clear hv hv' hM hm0 hn hs hl
  go_enter Tryd.func5, Tryd.ntmps5
  go_upto_region 2 with (fail)
  iterate 7 go_step
  go_cut [5] (fun m wc => ∃ ao cap, m = .slice ao m0 cap ∧ Hid (LiesS wc (.slice ao m0 cap) M) ∧ Hid (Below w.heap.size w wc))
  case first =>
    clear hu2 hu3 hu4 hz
    go_wp2
    go_loopw [5, 6] (fun m i wr => ∃ k : Nat, k ≤ n ∧ k ≤ 10 ∧ i = .int .i64 k ∧ Hid (wr.ownsRow w.heap.size 9 1 m k ((M.take k).map encStr)) ∧ Hid (Below w.heap.size w wr)) (fun _ i _ => 10 - (intOf i).toNat)
    case atStart => exact ⟨0, by omega, by omega, rfl, World.ownsRow_nil _ _ _ _, Below.refl _ _⟩
    case round =>
      obtain ⟨k, hkn, hk10, rfl, HO, HB⟩ := hrel
      by_cases hk : k < n ∧ k < 10
      · obtain ⟨hk1, hk2⟩ := hk
        obtain ⟨a, rfl, hca⟩ := hc.out k hk1
        have c1 := cell_old HB.out hca
        obtain ⟨x, hx⟩ : ∃ x : ByteArray, x = ⟨(L.getD k []).toArray⟩ := ⟨_, rfl⟩
        obtain ⟨t, ht⟩ : ∃ t : ByteArray, t = ⟨(x.data.toList.take 6).toArray⟩ := ⟨_, rfl⟩
        have kt : Hid (∀ w, Calls Tryd.prog 15 #[.string x, .int .i64 6] w fun e w' => e = .returned (.string t) ∧ w' = w) := text_hid x t 6 (by
          have hk3 : k < L.length := by rw [← HN.out]; exact hk1
          have := HS.out (L.getD k []) (by rw [List.getD_eq_getElem?_getD, List.getElem?_eq_getElem hk3]; exact List.getElem_mem hk3)
          rw [hx]
          simpa [ByteArray.size] using this) (by decide) ht
        have HT : Hid (t.data.toList = (L.getD k []).take 6) := by show _ = _; rw [ht, hx]
        rw [← hx] at c1
        have HO2 := mkHid (HO.out.alloc (.cells #[.string t] 9))
        have HB2 : Hid (Below w.heap.size w (wr.alloc (.cells #[.string t] 9))) := HB.out.alloc (HB.out.size) _
        have HL1 := mkHid (liesS_one wr t)
        clear hx ht hca HV HS
        have d1 : (k : Int) < (n : Int) := by omega
        have d2 : (k : Int) < 10 := by omega
        go_wp2_with (first
          | (go_at_call 15; (with_reducible refine (kt.out _).mono ?_); rintro e w1 ⟨rfl, rfl⟩)
          | (at_builtin; refine wpList_appS rfl (.tmp 24) (.tmp 30) rfl w.heap.size _ k (M.take k) rfl HO2.out _ [t.data.toList] rfl HL1.out (by simp; omega) HB2.out.size ?_
             intro v2 w2 ho2 hb2 hg2))
        go_roundw
        case rel =>
          refine ⟨k + 1, by omega, by omega, by go_num, ?_, HB2.out.trans hb2⟩
          have e : M.take (k + 1) = M.take k ++ [t.data.toList] := by
            rw [HM.out, HT.out]
            exact firsts_take L k (by rw [← HN.out]; exact hk1) hk2
          show World.ownsRow _ _ _ _ _ _ _
          rw [e]
          exact ho2
        case measure => exact meas10 hk2
      · have HQ : Hid (m0 = k) := by
          show _ = _
          rw [HM0.out, HM.out]
          unfold firsts
          have := HN.out
          simp
          omega
        have HE : Hid (M.take k = M) := by
          show _ = _
          rw [HM.out]
          exact firsts_all L k (by rw [← HN.out]; exact hk)
        have hlk : (M.take k).length = k := by rw [HE.out, ← HM0.out, HQ.out]
        obtain ⟨ao5, cap5, e5, hl5⟩ := (lies_own hlk HO.out).slice m0 (by rw [hlk, HQ.out])
        subst e5
        rw [HE.out] at hl5
        have HL5 := mkHid hl5
        clear hl5 hlk HO hc HV HS
        by_cases hk1 : k < n
        · have d1 : (k : Int) < (n : Int) := by omega
          have d2 : ¬ (k : Int) < 10 := by omega
          go_wp2
          go_meet
          case rel => exact ⟨_, _, rfl, HL5, HB⟩
        · have d1 : ¬ (k : Int) < (n : Int) := by omega
          go_wp2
          go_meet
          case rel => exact ⟨_, _, rfl, HL5, HB⟩
  case rest =>
    obtain ⟨ao5, cap5, rfl, HL5, HB5⟩ := hcut
    clear hc HV HS
    have hm10 : m0 ≤ 10 := by rw [HM0.out, HM.out]; unfold firsts; simp; omega
    obtain ⟨S, hS⟩ : ∃ S, S = setL M := ⟨_, rfl⟩
    obtain ⟨ms, hms⟩ : ∃ ms, ms = S.length := ⟨_, rfl⟩
    have kset := set_hid M S ms hS hms (by rw [← HM0.out]; omega)
    have HSS := mkHid hS
    have HMS := mkHid hms
    clear hS hms
    go_upto_region 8 with (first
      | (go_at_call 13; (with_reducible refine (kset.out _ _ HL5.out).mono ?_); rintro e w7 ⟨ao7, cap7, rfl, hl7, hb7⟩
         have HL7 := mkHid hl7
         have HB7 := mkHid (below_then HB5.out hb7)
         have HLM := mkHid (HL5.out.old hb7)
         clear hl7 hb7)
      | (at_builtin; refine wpList_appS rfl (.const (.slice none 0 0)) (.tmp 34) rfl w7.heap.size (.slice none 0 0) 0 [] rfl (World.ownsRow_nil _ _ _ _) _ M rfl HLM.out (by rw [← HM0.out]; omega) (Nat.le_refl _) ?_
         intro v8 w8 ho8 hb8 hg8
         rw [Nat.zero_add, List.nil_append] at ho8
         have HO8 := mkHid ho8
         have HB8 := mkHid hb8
         clear ho8 hb8 hg8)
      | (at_builtin; refine wpList_appS rfl (.tmp 35) (.tmp 36) rfl w7.heap.size v8 M.length M rfl HO8.out _ M rfl (HLM.out.old HB8.out) (by rw [← HM0.out]; omega) HB8.out.size ?_
         intro v9 w9 ho9 hb9 hg9
         have HO9 := mkHid ho9
         have HB9 := mkHid (HB8.out.trans hb9)
         clear ho9 hb9 hg9 HO8 HB8))
    obtain ⟨m2, hm2⟩ : ∃ m2, m2 = m0 + m0 := ⟨_, rfl⟩
    obtain ⟨ao9, cap9, e9, hl9⟩ := (lies_own (by simp) HO9.out).slice m2 (by rw [hm2, HM0.out]; simp)
    subst e9
    have hlen : M.length + M.length = m2 := by rw [hm2, HM0.out]
    rw [hlen] at HO9
    have HM2 := mkHid hm2
    have hm20 : m2 ≤ 20 := by omega
    clear hl9 hlen hm2
    iterate 7 go_step
    go_cut [] (fun wc => ∃ X : List (List UInt8), Hid (wc.ownsRow w7.heap.size 9 1 (.slice ao9 m2 cap9) m2 (X.map encStr)) ∧ Hid (X.length = m2 ∧ ∀ y, y ∈ X ↔ y ∈ M) ∧ Hid (Below w7.heap.size w7 wc))
    case first =>
      go_wp2
      go_loopw [9] (fun i wr => ∃ k : Nat, i = .int .i64 k ∧ k ≤ 13 ∧ ∃ X : List (List UInt8), Hid (wr.ownsRow w7.heap.size 9 1 (.slice ao9 m2 cap9) m2 (X.map encStr)) ∧ Hid (X.length = m2 ∧ ∀ y, y ∈ X ↔ y ∈ M) ∧ Hid (Below w7.heap.size w7 wr)) (fun i _ => 14 - (intOf i).toNat)
      case atStart => exact ⟨0, rfl, by omega, M ++ M, HO9, ⟨by rw [HM2.out, HM0.out]; simp, fun y => by simp⟩, HB9⟩
      case round =>
        obtain ⟨k, rfl, hk13, X, HX, HXM, HBX⟩ := hrel
        clear HO9 HB9 kset HLM HL5 HL7
        have hz1 : wrap64 ((k : Int) + 1) = k + 1 := by unfold wrap64; omega
        by_cases c1 : k + 1 < zs.length
        · by_cases c2 : k < 12
          · by_cases c3 : 0 < m2
            · obtain ⟨g9, rfl⟩ : ∃ g9, ao9 = some ⟨g9, 0, none⟩ := by
                rcases HX.out.2 with ⟨h, h0⟩ | ⟨g, c', cur, h, _⟩
                · omega
                · cases h; exact ⟨g, rfl⟩
              obtain ⟨bu, rfl⟩ : ∃ bu, bo = some bu := by
                cases bo with
                | none => have := hu3 rfl; omega
                | some a => exact ⟨a, rfl⟩
              have e1 := cell_old HB7.out (hu4 bu rfl k (by omega))
              have e2 := cell_old HB7.out (hu4 bu rfl (k + 1) c1)
              have e1 := cell_old HBX.out e1
              have e2 := cell_old HBX.out e2
              obtain ⟨x1, hx1⟩ : ∃ x1, x1 = zs.getD k 0 := ⟨_, rfl⟩
              obtain ⟨x2, hx2⟩ : ∃ x2, x2 = zs.getD (k + 1) 0 := ⟨_, rfl⟩
              rw [← hx1] at e1
              rw [← hx2, show bu.add (k + 1) = ⟨bu.block, bu.off + (k + 1), none⟩ by simp [Addr.add]] at e2
              clear hx1 hx2 hu4
              obtain ⟨pa, hpa, kA⟩ := within_nat2 x1 m2 c3 (by omega)
              obtain ⟨pb, hpb, kB⟩ := within_nat2 x2 m2 c3 (by omega)
              have fa := HX.out.cellAt pa (by omega)
              have fb := HX.out.cellAt pb (by omega)
              have za := HX.out.frozenAt pa
              have zb := HX.out.frozenAt pb
              obtain ⟨ya, hya⟩ : ∃ y : ByteArray, y = ⟨(X.getD pa []).toArray⟩ := ⟨_, rfl⟩
              obtain ⟨yb, hyb⟩ : ∃ y : ByteArray, y = ⟨(X.getD pb []).toArray⟩ := ⟨_, rfl⟩
              have ga : (X.map encStr)[pa]? = some (.string ya) := by rw [hya]; have := HXM.out.1; simp [encStr, show pa < X.length by omega]
              have gb : (X.map encStr)[pb]? = some (.string yb) := by rw [hyb]; have := HXM.out.1; simp [encStr, show pb < X.length by omega]
              rw [ga] at fa
              rw [gb] at fb
              have HYA := mkHid hya
              have HYB := mkHid hyb
              clear ga gb hya hyb
              have d1 : (k : Int) + 1 < (zs.length : Int) := by omega
              have d4 : (k : Int) < (zs.length : Int) := by omega
              have d2 : (k : Int) < 12 := by omega
              have d3 : (0 : Int) < (m2 : Int) := by omega
              have hz2 : wrap64 ((k : Int) + 2) = k + 2 := by unfold wrap64; omega
              have HG : Hid (w7.heap.size ≤ g9) := (HX.out.lt g9 rfl).1
              go_wp2
              go_quiet ((first | (go_at_call 6; with_reducible exact Calls.quiet_of_same (kA.out _)) | (go_at_call 6; with_reducible exact Calls.quiet_of_same (kB.out _))))
              go_upto_region 12 with (fail)
              clear e1 e2 kA kB d1 d2 d4 hz1 hu2 hu3
              have hpa' : (pa : Int) < (m2 : Int) := by omega
              have hpb' : (pb : Int) < (m2 : Int) := by omega
              have HB3 := mkHid (((HBX.out.drewN nq).setCell (p := ⟨g9, pa, none⟩) HG.out (.string yb)).setCell (p := ⟨g9, pb, none⟩) HG.out (.string ya))
              have HX3 := mkHid (swp_own HX.out pa pb ya yb HYA.out HYB.out)
              have HM3 : Hid ((swp X pa pb).length = m2 ∧ ∀ y, y ∈ swp X pa pb ↔ y ∈ M) := ⟨by rw [swp_len]; exact HXM.out.1, fun y => by
                rw [swp_mem X pa pb (by have := HXM.out.1; omega) (by have := HXM.out.1; omega)]
                exact HXM.out.2 y⟩
              by_cases hpp : pa = pb
              · subst hpp
                obtain rfl : yb = ya := by rw [HYA.out, HYB.out]
                go_region
                all_goals go_wp2
                all_goals
                  go_roundw
                  case rel => exact ⟨k + 2, by go_num, by omega, swp X pa pa, HX3, HM3, HB3.out.drew⟩
                  case measure => exact meas2 c2
              · go_region
                all_goals go_wp2
                all_goals
                  go_roundw
                  case rel => exact ⟨k + 2, by go_num, by omega, swp X pa pb, HX3, HM3, HB3.out.drew⟩
                  case measure => exact meas2 c2
            · have d1 : (k : Int) + 1 < (zs.length : Int) := by omega
              have d2 : (k : Int) < 12 := by omega
              have d3 : ¬ (0 : Int) < (m2 : Int) := by omega
              go_wp2
              go_meet
              case rel => exact ⟨X, HX, HXM, HBX⟩
          · have d1 : (k : Int) + 1 < (zs.length : Int) := by omega
            have d2 : ¬ (k : Int) < 12 := by omega
            go_wp2
            go_meet
            case rel => exact ⟨X, HX, HXM, HBX⟩
        · have d1 : ¬ (k : Int) + 1 < (zs.length : Int) := by omega
          go_wp2
          go_meet
          case rel => exact ⟨X, HX, HXM, HBX⟩
    case rest =>
      obtain ⟨X, HX, HXM, HBX⟩ := hcut
      have kset2 := set_hid X S ms (by rw [HSS.out]; exact setL_congr fun x => (HXM.out.2 x).symm) HMS.out (by have := HXM.out.1; omega)
      have kset3 := set_hid S S ms (by rw [HSS.out]; exact (setL_setL M).symm) HMS.out (by
        have h1 : S.length ≤ M.length := by rw [HSS.out]; unfold setL; have := compact_le (M.mergeSort fun x y => decide (x ≤ y)); rw [List.length_mergeSort] at this; exact this
        rw [← HM0.out] at h1; omega)
      have kset4 := set_hid [] [] 0 (by decide +kernel) rfl (by decide)
      have ksS := same_hid S S true (by simp) (by
        have h1 : S.length ≤ M.length := by rw [HSS.out]; unfold setL; have := compact_le (M.mergeSort fun x y => decide (x ≤ y)); rw [List.length_mergeSort] at this; exact this
        rw [← HM0.out] at h1; omega)
      have ksX := same_hid X X true (by simp) (by have := HXM.out.1; omega)
      have kin := in_hid [] ⟨#[]⟩ false (by simp) (by decide)
      have HXl : Hid (LiesS wc (.slice ao9 m2 cap9) X) := lies_own HXM.out.1 HX.out
      have HS8 : Hid (LiesS wc (.slice ao7 ms cap7) S) := HL7.out.old HBX.out
      have HB8 : Hid (Below w.heap.size w wc) := below_then HB7.out HBX.out
      clear HX HO9 HB9 HLM HL7 HL5 HB5 HB7 hu4 hu3 hu2 kset HSS HMS
      go_wp2_with (first
        | (at_builtin; refine wpList_appS rfl (.const (.slice none 0 0)) (.tmp 83) rfl wc.heap.size (.slice none 0 0) 0 [] rfl (World.ownsRow_nil _ _ _ _) _ X rfl HXl.out (by have := HXM.out.1; omega) (Nat.le_refl _) ?_
           intro v12 w12 ho12 hb12 hg12
           rw [Nat.zero_add, List.nil_append] at ho12
           have HLt := mkHid (lies_own rfl ho12)
           have HXl2 := mkHid (HXl.out.old hb12)
           have HS12 := mkHid (HS8.out.old hb12)
           have HB12 := mkHid (below_then HB8.out hb12)
           clear ho12 hb12 hg12)
        | (go_at_call 13; (with_reducible refine (kset2.out _ _ HXl2.out).mono ?_); rintro e w13 ⟨ao13, cap13, rfl, hl13, hb13⟩
           have HT13 := mkHid hl13
           have HLt13 := mkHid (HLt.out.old hb13)
           have HXl13 := mkHid (HXl2.out.old hb13)
           have HS13 := mkHid (HS12.out.old hb13)
           have HB13 := mkHid (below_then HB12.out hb13)
           clear hl13 hb13)
        | (go_at_call 16; (with_reducible refine (ksS.out _ _ _ HS13.out HT13.out).mono ?_); rintro e wA ⟨rfl, hbA⟩
           have HLtA := mkHid (HLt13.out.old hbA)
           have HXlA := mkHid (HXl13.out.old hbA)
           have HSA := mkHid (HS13.out.old hbA)
           have HBA := mkHid (below_then HB13.out hbA)
           clear hbA)
        | (go_at_call 16; (with_reducible refine (ksX.out _ _ _ HXlA.out HLtA.out).mono ?_); rintro e wB ⟨rfl, hbB⟩
           have HSB := mkHid (HSA.out.old hbB)
           have HBB := mkHid (below_then HBA.out hbB)
           clear hbB)
        | (go_at_call 13; (with_reducible refine (kset3.out _ _ HSB.out).mono ?_); rintro e wC ⟨aoC, capC, rfl, hlC, hbC⟩
           have HC := mkHid hlC
           have HSC := mkHid (HSB.out.old hbC)
           have HBC := mkHid (below_then HBB.out hbC)
           clear hlC hbC)
        | (go_at_call 16; (with_reducible refine (ksS.out _ _ _ HC.out HSC.out).mono ?_); rintro e wD ⟨rfl, hbD⟩
           have HBD := mkHid (below_then HBC.out hbD)
           clear hbD)
        | (go_at_call 13; (with_reducible refine (kset4.out _ _ (liesS_nil _)).mono ?_); rintro e wE ⟨aoE, capE, rfl, hlE, hbE⟩
           have HBE := mkHid (below_then HBD.out hbE)
           clear hlE hbE)
        | (go_at_call 14; (with_reducible refine (kin.out _ _ (liesS_nil _)).mono ?_); rintro e wF ⟨rfl, rfl⟩)
        | (go_at_call 10; (with_reducible refine (wakes_walk _).mono ?_); rintro e wG ⟨rfl, hbG⟩
           have HBG := mkHid (below_then HBE.out hbG)
           clear hbG))
      go_ret
      exact ⟨rfl, HBG.out⟩

end Go.Proofs.YtbjgldpnichoeaaDoor
