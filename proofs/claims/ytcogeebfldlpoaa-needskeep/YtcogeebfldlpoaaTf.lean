/-
  Tops walked, with where its answer lies.
-/
import Derived.Test.YtcogeebfldlpoaaTa
import Derived.Test.YtcogeebfldlpoaaHf
set_option linter.unusedSimpArgs false
set_option linter.unusedVariables false
namespace Go.Proofs.Ytcogeebfldlpoaa
open Go.RowKit
open Go.Proofs.NeedsPlain (Hd names IsAll isTop nmAt ndAt ordM)

def TopsPF (w : World) (hs : List Hd) (e : Ending) (w' : World) : Prop := ∃ v out, e = .returned v ∧ LiesS w' v out ∧ out.Pairwise (· < ·) ∧ (∀ x, x ∈ out ↔ isTop hs x) ∧ Old w w' ∧ NewIn w.heap.size w' v


set_option maxRecDepth 20000 in
set_option maxHeartbeats 8000000 in
theorem tops_walkF (w : World) (v : Value) (hs : List Hd) (hv : LiesH w v hs) (hm : SmallH hs) : Calls Try.prog 13 #[v] w (TopsPF w hs) := by
  have H1 := mkHid hv
  have HM := mkHid hm
  obtain ⟨ao, cap, rfl, -⟩ := hv
  obtain ⟨n, hn⟩ : ∃ n, n = hs.length := ⟨_, rfl⟩
  have hl := hm.len
  rw [← hn] at hl ⊢
  have hmm := @run_makeMap Try.prog
  have HN := mkHid hn
  have HL := mkHid hl
  clear hn hl hm
  go_enter Try.func13, Try.ntmps13
  go_wp2
  go_loopw [14] (fun i wr => ∃ k : Nat, k ≤ n ∧ i = .int .i64 (k : Int) ∧ Hid (TL w hs w.heap.size k 0 wr)) (fun i _ => n - (intOf i).toNat)
  case atStart =>
    refine ⟨0, by omega, rfl, mkHid ⟨0, [], ?_, Nat.zero_le _, by simp [needL], old1 _ _⟩⟩
    exact MapI.made _ _
  case round =>
    obtain ⟨k, hk, rfl, HS⟩ := hrel
    by_cases hkn : k < n
    · have hkl : k < hs.length := by rw [← HN.out]; exact hkn
      have a5 : Old w wr := by obtain ⟨_, _, _, _, _, h⟩ := HS.out; exact h
      obtain ⟨b1, o1, c1, e1, hc1, hat⟩ := H1.out.form (by omega)
      obtain rfl : ao = some ⟨b1, o1, none⟩ := by cases e1; rfl
      obtain ⟨tg, nv, hr0, hlv⟩ := hat k hkl
      have hr := range_old hr0 a5
      obtain ⟨s, hse⟩ : ∃ s, s = str (hs.getD k hd0).1 := ⟨_, rfl⟩
      rw [← hse] at hr
      have hone := one_cell (nm := s) (tg := tg) hlv
      obtain ⟨fs, hfs⟩ := under24
      obtain ⟨nd, hnd⟩ : ∃ nd, nd = ndAt hs k := ⟨_, rfl⟩
      have hlv2 : LiesS w nv nd := by rw [hnd]; exact hlv
      have hndl : nd.length ≤ 1000 := by rw [hnd]; exact nd_le HM.out k
      obtain ⟨no, nc, hnv, _, _, _⟩ := hlv2
      subst hnv
      obtain ⟨m0, hm0⟩ : ∃ m0, m0 = nd.length := ⟨_, rfl⟩
      have hlv3 : LiesS w (.slice no m0 nc) nd := by rw [hm0, hnd]; rw [hnd] at hlv; exact hlv
      rw [← hm0] at hr hone
      have hk0 : (k : Int) < (n : Int) := by omega
      have hwk : wrap64 ((k : Int) + 1) = (k : Int) + 1 := wrap_small (by have := HL.out; omega)
      have HWK := mkHid hwk
      have A5 := mkHid a5
      have HKL := mkHid hkl
      have HR := mkHid hr
      have HONE := mkHid hone
      have HND := mkHid hnd
      have HNDL := mkHid hndl
      have HM0 := mkHid hm0
      have HLV := mkHid hlv3
      clear a5 hkl hr hr0 hone hnd hndl hm0 hlv3 hlv e1 hc1 hat hse hwk hmm
      go_wp2_with (first
        | ((with_reducible refine at_op (.load 24 (.tmp 16)) ?_); refine wpList_load_mid rfl 24 (.tmp 16) rfl b1 (o1 + k * 3) rfl _ _ HR.out hfs rfl size24 ?_)
        | ((with_reducible refine at_op (.store 24 (.tmp 5) (.tmp 17)) ?_)
           refine wpList_store_row rfl 24 (.tmp 5) (.tmp 17) rfl wr.heap.size _ rfl rfl 24 hd0A (h10 _ _) size24 rfl HONE.out ?_
           rw [World.setRow_alloc_new]
           obtain ⟨X1, hX1⟩ : ∃ X1, X1 = wr.alloc (.cells #[.string s, .bool tg, .slice no m0 nc] 24) := ⟨_, rfl⟩
           have b1 : Old wr X1 := by rw [hX1]; exact old1 _ _
           have HB1 := mkHid b1
           have G6 : Hid (X1.heap[wr.heap.size]? = some (.cells #[.string s, .bool tg, .slice no m0 nc] 24 (0, 0))) := by show _ = _; rw [hX1]; exact h10 _ _
           rw [← hX1]
           obtain ⟨r0, r1, r2⟩ := cell3 G6.out
           clear b1 hX1))
      go_loopw [21] (fun u wr2 => ∃ m : Nat, m ≤ m0 ∧ u = .int .i64 (m : Int) ∧ Hid (TL w hs w.heap.size k m wr2)) (fun u _ => m0 - (intOf u).toNat)
      case atStart => exact ⟨0, by omega, rfl, mkHid (HS.out.old HB1.out)⟩
      case round =>
        obtain ⟨m, hmm2, rfl, HS4⟩ := hrel
        by_cases hml : m < m0
        · obtain ⟨N, ks, c1, c2, c3, c4⟩ := HS4.out
          have hmd : m < nd.length := by rw [← HM0.out]; exact hml
          obtain ⟨b2, o2, c6, e4, _, hat4⟩ := (HLV.out.old c4).form (by omega)
          rw [← HM0.out] at e4
          obtain rfl : no = some ⟨b2, o2, none⟩ := by cases e4; rfl
          obtain ⟨x, hx⟩ : ∃ x, x = str (nd.getD m []) := ⟨_, rfl⟩
          have hcx : wr.cell? ⟨b2, o2 + m, none⟩ = some (.string x) := by rw [hx]; exact hat4 m hmd
          have hxl : x.data.toList = (ndAt hs k).getD m [] := by rw [hx, ← HND.out]; rfl
          have hxsz : x.size ≤ maxLen := by
            have := NeedsPlain.getD_in hmd
            rw [HND.out] at this
            have := HM.out.nn _ (NeedsPlain.nm_mem HKL.out) _ this
            rw [hx, str_size, HND.out]; unfold maxLen; omega
          have hmd2 : m < (ndAt hs k).length := by rw [← HND.out]; exact hmd
          have hlk := c1.run_look x hxsz
          rw [at_count (w := w) (M := 0) c3] at hlk
          obtain ⟨c, hc⟩ : ∃ c, c = (needL hs k m).count x.data.toList := ⟨_, rfl⟩
          rw [← hc] at hlk
          have hm1 : m ≤ 1000 := Nat.le_trans (Nat.le_of_lt hmd) HNDL.out
          have hk1 : k ≤ 999 := Nat.le_of_lt_succ (Nat.lt_of_lt_of_le hkn HL.out)
          have hcl : c ≤ 1000000 := by rw [hc]; exact Nat.le_trans (List.count_le_length) (needL_small HM.out hk1 hm1)
          obtain ⟨d, hd⟩ : ∃ d, d = c + 1 := ⟨_, rfl⟩
          have hwc := wrap_big hcl
          rw [← hd] at hwc
          have HD := mkHid hd
          have hmk : (m : Int) < (m0 : Int) := by omega
          have hwm : wrap64 ((m : Int) + 1) = (m : Int) + 1 := wrap_small (Nat.le_trans (Nat.le_of_lt hmd) HNDL.out)
          have hNl : N < maxLen := n_small c2 hk1 hm1
          have HWM := mkHid hwm
          have HXL := mkHid hxl
          have HXSZ := mkHid hxsz
          have HMD := mkHid hmd2
          have HC := mkHid hc
          have HNL := mkHid hNl
          have HWF : Hid ((Lit.int .i64 (d : Int)).wf = true) := wf_le (by rw [hd]; exact Nat.succ_le_succ hcl)
          have C1 := mkHid c1
          have C2 := mkHid c2
          have C3 := mkHid c3
          have C4 := mkHid c4
          clear hwm hxl hxsz hmd2 hc c1 c2 c3 c4 hx hat4 e4 hmd HS4 hcl hNl hm1 hk1 hd
          go_wp2_with (at_mapUpdate; refine wpList_put46 rfl (.tmp 25) (.tmp 26) (.tmp 28) rfl w.heap.size N ks _ rfl C1.out x rfl HXSZ.out HNL.out (d : Int) (congrArg (Value.int .i64) hwc) HWF.out ?_
                       intro w7 hp hg
                       have HP := mkHid hp
                       have HG := mkHid hg
                       clear hp hg)
          go_roundw
          case rel =>
            have hp := HP.out
            rw [HD.out, HC.out, HXL.out] at hp
            exact ⟨m + 1, by omega, by rw [HWM.out]; rfl, mkHid (TL.put HMD.out C2.out C3.out C4.out (Nat.le_refl _) hp HG.out)⟩
          case measure => rw [HWM.out]; exact meas hml
        · obtain rfl : m = m0 := by omega
          have hend : Hid (TL w hs w.heap.size (k + 1) 0 wr) := by
            have h := HS4.out
            rw [HM0.out, HND.out] at h
            exact h.next HKL.out (nd_le HM.out k)
          clear HS4
          go_wp2
          go_roundw
          case rel => exact ⟨k + 1, by omega, by rw [HWK.out]; rfl, hend⟩
          case measure => rw [HWK.out]; exact meas hkn
    · obtain rfl : k = n := by omega
      have HS2 : Hid (TL2 w hs w.heap.size 0 (.slice none 0 0) wr) := by
        obtain ⟨N, ks, h1, h2, h3, h4⟩ := HS.out
        rw [HN.out] at h1 h3
        exact ⟨N, ks, h1, h3, World.ownsRow_nil _ _ _ _, h4⟩
      clear HS hkn hk
      go_wp2
      go_loopw [8, 33] (fun ov i wr => ∃ j : Nat, j ≤ k ∧ i = .int .i64 (j : Int) ∧ Hid (TL2 w hs w.heap.size j ov wr)) (fun _ i _ => k - (intOf i).toNat)
      case atStart => exact ⟨0, by omega, rfl, HS2⟩
      case round =>
        obtain ⟨j, hj, rfl, HS3⟩ := hrel
        obtain ⟨N, ks, c1, c2, c3, c4⟩ := HS3.out
        obtain ⟨oo, oc, rfl⟩ := own_shape c3
        have hol := topL_len hs j
        obtain ⟨ol, hole⟩ : ∃ ol, ol = (topL hs j).length := ⟨_, rfl⟩
        by_cases hjn : j < k
        · have hjl : j < hs.length := by rw [← HN.out]; exact hjn
          obtain ⟨b1, o1, c9, e1, hc1, hat⟩ := H1.out.form (by omega)
          obtain rfl : ao = some ⟨b1, o1, none⟩ := by cases e1; rfl
          obtain ⟨tg, nv, hr0, hlv⟩ := hat j hjl
          have hr := range_old hr0 c4
          obtain ⟨s, hse⟩ : ∃ s, s = str (hs.getD j hd0).1 := ⟨_, rfl⟩
          have hsl : s.data.toList = nmAt hs j := by rw [hse]; rfl
          have hsz : s.size ≤ maxLen := by
            have := HM.out.nm _ (NeedsPlain.nm_mem hjl)
            rw [hse, str_size]; unfold maxLen; exact Nat.le_trans this (by decide)
          rw [← hse] at hr
          have hone := one_cell (nm := s) (tg := tg) hlv
          obtain ⟨fs, hfs⟩ := under24
          obtain ⟨nvn, nvc, hnv, _, _, _⟩ := hlv
          subst hnv
          obtain ⟨nvl, hnvl⟩ : ∃ m, m = (hs.getD j hd0).2.length := ⟨_, rfl⟩
          rw [← hnvl] at hr hone
          have hj0 : (j : Int) < (k : Int) := by omega
          have hlook : ∀ w', Old wr w' → (Instr.lookup 46 (.map (some w.heap.size)) (.string s) false).run Try.prog w' = .ok (.int .i64 ((needL hs hs.length 0).count s.data.toList : Int)) w' := fun w' hw => by
            have := (c1.old hw).run_look s hsz
            rw [at_count (w := w) (M := 0) c2] at this
            exact this
          obtain ⟨c, hc⟩ : ∃ c, c = (needL hs hs.length 0).count s.data.toList := ⟨_, rfl⟩
          rw [← hc] at hlook
          have hwj : wrap64 ((j : Int) + 1) = (j : Int) + 1 := wrap_small (Nat.le_trans hj HL.out)
          obtain ⟨i9, hi9, z90, z91, z92⟩ := info_parts Try.inf9
          have HWJ := mkHid hwj
          have HJL := mkHid hjl
          have HR := mkHid hr
          have HSL := mkHid hsl
          have HONE := mkHid hone
          have HLOOK := mkHid hlook
          have HC := mkHid hc
          have C1 := mkHid c1
          have C2 := mkHid c2
          have C3 := mkHid c3
          have C4 := mkHid c4
          have HOLE := mkHid hole
          have HOL2 : Hid (ol ≤ 1000) := mkHid (by rw [hole]; exact Nat.le_trans hol (Nat.le_trans hj HL.out))
          rw [← hole]
          clear hwj hjl hr hr0 hsl hone hlook hc c1 c2 c3 c4 e1 hc1 hat hse hsz HS3 hole hol hnvl
          by_cases hcz : c = 0
          all_goals
            first | subst hcz | (have hcn : ((c : Int) == 0) = false := by simp; omega)
            go_wp2_with (first
              | ((with_reducible refine at_op (.load 24 (.tmp 35)) ?_); refine wpList_load_mid rfl 24 (.tmp 35) rfl b1 (o1 + j * 3) rfl _ _ HR.out hfs rfl size24 ?_)
              | ((with_reducible refine at_op (.store 24 (.tmp 10) (.tmp 36)) ?_)
                 refine wpList_store_row rfl 24 (.tmp 10) (.tmp 36) rfl wr.heap.size _ rfl rfl 24 hd0A (h10 _ _) size24 rfl HONE.out ?_
                 rw [World.setRow_alloc_new]
                 obtain ⟨X1, hX1⟩ : ∃ X1, X1 = wr.alloc (.cells #[.string s, .bool tg, .slice nvn nvl nvc] 24) := ⟨_, rfl⟩
                 have b1 : Old wr X1 := by rw [hX1]; exact old1 _ _
                 have HB1 := mkHid b1
                 have G6 : Hid (X1.heap[wr.heap.size]? = some (.cells #[.string s, .bool tg, .slice nvn nvl nvc] 24 (0, 0))) := by show _ = _; rw [hX1]; exact h10 _ _
                 have hlk := HLOOK.out X1 b1
                 rw [← hX1]
                 obtain ⟨r0, r1, r2⟩ := cell3 G6.out
                 clear b1 hX1)
              | (at_builtin
                 have hrow : X1.ownsRow w.heap.size 9 1 (.slice oo ol oc) ol ((topL hs j).map encStr) := by have := C3.out; rw [← HOLE.out] at this; exact own_at this (fun k9 e => HB1.out.block k9 (this.lt k9 e).2)
                 refine wpList_append_lies _ rfl (.tmp 42) (.tmp 45) 22 rfl w.heap.size 9 i9 (.string ⟨#[]⟩) 1 16 Try.underlying22s hi9 z90 z91 z92 rfl (by decide) _ ol ((topL hs j).map encStr) rfl (hrow.alloc _) ⟨X1.heap.size, 0, none⟩ 1 1 [.string s] rfl rfl (cell_one_new _ _ _) (by simp [Value.oneCell']) (by decide) (by have := HOL2.out; unfold maxLen; omega) (by have := HOL2.out; omega) (by have := C4.out.size; have := HB1.out.size; simp; omega) _ rfl ?_
                 intro g6 cap6 w6 hown hgrow hat hlt6
                 have HOWN := mkHid hown
                 have HM6 : Hid (MapI w6 w.heap.size N ks (fun x => ((needL hs hs.length 0).count x : Int))) := by
                   have h1 := (C1.out.old HB1.out).old (old1 X1 (.cells #[.string s] 9))
                   refine mkHid (h1.kept (hgrow.block _ h1.lt fun e => ?_))
                   obtain ⟨c', e2⟩ := own_type (hrow.alloc (.cells #[.string s] 9)) e.symm
                   exact h1.notCells e2
                 have KO3 : Hid (Old w w6) := ((C4.out.trans (HB1.out.mono C4.out.size)).trans ((Below.refl w.heap.size _).alloc (Nat.le_trans C4.out.size HB1.out.size) _)).trans ((Below.refl _ _).grown hgrow (by have := C4.out.size; have := HB1.out.size; simp; omega) (fun k9 e => (hrow.lt k9 e).1))
                 clear hown hgrow hat hlt6 hrow))
          · go_roundw
            case rel =>
              refine ⟨j + 1, by omega, by rw [HWJ.out]; rfl, mkHid ⟨N, ks, HM6.out, C2.out, ?_, KO3.out⟩⟩
              have hno : nmAt hs j ∉ needL hs hs.length 0 := by
                rw [← HSL.out]
                intro h
                have := List.count_pos_iff.2 h
                have := HC.out
                omega
              rw [topL_yes HJL.out hno, List.length_append, List.length_singleton, ← HOLE.out]
              have e : (topL hs j ++ [nmAt hs j]).map encStr = (topL hs j).map encStr ++ [.string s] := by rw [List.map_append, ← HSL.out]; simp [encStr]
              rw [e]
              exact HOWN.out
            case measure => rw [HWJ.out]; exact meas hjn
          · go_roundw
            case rel =>
              refine ⟨j + 1, by omega, by rw [HWJ.out]; rfl, mkHid ⟨N, ks, C1.out.old HB1.out, C2.out, ?_, C4.out.trans (HB1.out.mono C4.out.size)⟩⟩
              have hin : nmAt hs j ∈ needL hs hs.length 0 := by
                rw [← HSL.out]
                refine List.count_pos_iff.1 ?_
                have := HC.out
                omega
              rw [topL_no HJL.out hin, ← HOLE.out]
              have := C3.out
              rw [← HOLE.out] at this
              exact own_at this (fun k9 e => HB1.out.block k9 (this.lt k9 e).2)
            case measure => rw [HWJ.out]; exact meas hjn
        · obtain rfl : j = k := by omega
          have HID := mkHid (idset_walk wr _ _ (lies_own rfl c3) (Nat.le_trans hol (Nat.le_trans HL.out (by decide))))
          rw [← hole] at HID ⊢
          have C4 := mkHid c4
          clear c1 c2 c3 c4 hole hol HS3
          go_wp2_with (first | (go_at_call 29; (with_reducible refine HID.out.mono ?_); rintro e w9 ⟨v9, rfl, s1, s2⟩; have S1 := mkHid s1; have S2 := mkHid s2; clear s1 s2))
          go_ret
          refine ⟨_, _, rfl, lies_own rfl S1.out, setL_lt _, fun x => ?_, C4.out.trans (S2.out.mono C4.out.size), fun j9 e9 => ⟨Nat.le_trans C4.out.size (owns_lt S1.out j9 e9).1, (owns_lt S1.out j9 e9).2⟩⟩
          rw [setL_mem, HN.out, topL_all]
end Go.Proofs.Ytcogeebfldlpoaa
