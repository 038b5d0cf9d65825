/-
  Tops, Closed, Apart walked.
-/
import Derived.Test.YtcogeebfldlpoaaAa
set_option linter.unusedSimpArgs false
set_option linter.unusedVariables false
namespace Go.Proofs.Ytcogeebfldlpoaa
open Go.RowKit
open Go.Proofs.NeedsPlain (Hd names IsAll isTop nmAt ndAt ordM)

/-- All needs of the first k heads, and the first m of the next. -/
def needL (hs : List Hd) (k m : Nat) : List Txt := (hs.take k).flatMap (·.2) ++ (ndAt hs k).take m

theorem needL_snoc {hs : List Hd} {k m : Nat} (hm : m < (ndAt hs k).length) : needL hs k (m + 1) = needL hs k m ++ [(ndAt hs k).getD m []] := by
  unfold needL
  rw [NeedsPlain.take_snoc' hm, List.append_assoc]

theorem needL_next {hs : List Hd} {k : Nat} (hk : k < hs.length) : needL hs (k + 1) 0 = needL hs k (ndAt hs k).length := by
  unfold needL
  rw [List.take_succ_eq_append_getElem hk, List.flatMap_append, List.take_length]
  simp [ndAt, hk]

theorem needL_len {hs : List Hd} (hm : SmallH hs) {k m : Nat} (hmm : m ≤ 1000) : (needL hs k m).length ≤ 1000 * k + m := by
  unfold needL
  rw [List.length_append]
  have h1 : ((hs.take k).flatMap (·.2)).length ≤ 1000 * k := by
    have : ∀ (l : List Hd), (∀ h ∈ l, h.2.length ≤ 1000) → (l.flatMap (·.2)).length ≤ 1000 * l.length := by
      intro l
      induction l with
      | nil => simp
      | cons a r ih =>
        intro h
        have h1 := h a (by simp)
        have h2 := ih (fun x hx => h x (List.mem_cons_of_mem _ hx))
        simp at h2 ⊢
        omega
    have h2 := this (hs.take k) (fun h hh => hm.nl h (List.mem_of_mem_take hh))
    have h3 : (hs.take k).length ≤ k := by simp; omega
    omega
  have h2 : ((ndAt hs k).take m).length ≤ m := by simp; omega
  omega

theorem needL_all {hs : List Hd} {x : Txt} : x ∈ needL hs hs.length 0 ↔ ∃ g ∈ hs, x ∈ g.2 := by
  unfold needL
  simp

/-- The map of how often each is needed. -/
def TL (w : World) (hs : List Hd) (M k m : Nat) (wr : World) : Prop :=
  ∃ N ks, MapI wr M N ks (fun x => ((needL hs k m).count x : Int)) ∧ N ≤ 1000 * k + m ∧ (∀ x, x ∈ ks ↔ x ∈ needL hs k m) ∧ Old w wr

theorem TL.old {w : World} {hs : List Hd} {M k m : Nat} {wr w' : World} (h : TL w hs M k m wr) (hb : Old wr w') : TL w hs M k m w' := by
  obtain ⟨N, ks, h1, h2, h3, h4⟩ := h
  exact ⟨N, ks, h1.old hb, h2, h3, h4.trans (hb.mono h4.size)⟩

theorem TL.next {w : World} {hs : List Hd} {M k : Nat} {wr : World} (hk : k < hs.length) (hl : (ndAt hs k).length ≤ 1000) (h : TL w hs M k (ndAt hs k).length wr) : TL w hs M (k + 1) 0 wr := by
  obtain ⟨N, ks, h1, h2, h3, h4⟩ := h
  refine ⟨N, ks, ?_, by omega, ?_, h4⟩
  · rw [needL_next hk]; exact h1
  · rw [needL_next hk]; exact h3

theorem at_count {w : World} {hs : List Hd} {M k m : Nat} {ks : List Txt} (h : ∀ x, x ∈ ks ↔ x ∈ needL hs k m) (x : Txt) : atK ks (fun x => ((needL hs k m).count x : Int)) x = ((needL hs k m).count x : Int) := by
  unfold atK
  split
  · rfl
  · rename_i hx
    rw [h] at hx
    rw [List.count_eq_zero_of_not_mem hx]; rfl

theorem TL.put {w : World} {hs : List Hd} {M k m N : Nat} {ks : List Txt} {wr w2 : World} (hm : m < (ndAt hs k).length) (h1 : N ≤ 1000 * k + m) (h2 : ∀ x, x ∈ ks ↔ x ∈ needL hs k m) (ho : Old w wr) (hM : w.heap.size ≤ M)
    (hp : MapI w2 M (N + 1) (if (ndAt hs k).getD m [] ∈ ks then ks else ks ++ [(ndAt hs k).getD m []]) (fun x => if x = (ndAt hs k).getD m [] then (((needL hs k m).count ((ndAt hs k).getD m []) + 1 : Nat) : Int) else ((needL hs k m).count x : Int))) (hg : wr.grownBy w2 (some M)) :
    TL w hs M k (m + 1) w2 := by
  refine ⟨N + 1, _, hp.congr (fun x hx => ?_), by omega, fun x => ?_, ⟨hg.os.trans ho.os, hg.tape.trans ho.tape, hg.output.trans ho.output, Nat.le_trans ho.size hg.size, fun j hj => ?_⟩⟩
  · rw [needL_snoc hm, List.count_append]
    by_cases e : x = (ndAt hs k).getD m []
    · rw [if_pos e, e, List.count_singleton_self]
    · rw [if_neg e, List.count_singleton, if_neg (by simpa using fun k => e k.symm)]; rfl
  · rw [needL_snoc hm, List.mem_append, List.mem_singleton, ← h2]
    split
    · rename_i h
      exact ⟨.inl, fun k => k.elim id (fun e => e ▸ h)⟩
    · rw [List.mem_append, List.mem_singleton]
  · rw [hg.block j (Nat.lt_of_lt_of_le hj ho.size) (by simp; omega)]
    exact ho.block j hj

theorem needL_small {hs : List Hd} (hm : SmallH hs) {k m : Nat} (hk : k ≤ 999) (hmm : m ≤ 1000) : (needL hs k m).length ≤ 1000000 := by
  have := needL_len hm (k := k) hmm
  omega

theorem n_small {N k m : Nat} (h : N ≤ 1000 * k + m) (hk : k ≤ 999) (hm : m ≤ 1000) : N < maxLen := by unfold maxLen; omega

/-- What Tops answers. -/
def TopsP (w : World) (hs : List Hd) (e : Ending) (w' : World) : Prop := ∃ v out, e = .returned v ∧ LiesS w' v out ∧ out.Pairwise (· < ·) ∧ (∀ x, x ∈ out ↔ isTop hs x) ∧ Old w w'

/-- The names of the first k heads that none needs. -/
def topL (hs : List Hd) (k : Nat) : List Txt := (names (hs.take k)).filter fun x => !decide (x ∈ needL hs hs.length 0)

theorem topL_len (hs : List Hd) (k : Nat) : (topL hs k).length ≤ k := by
  unfold topL
  have h1 := List.length_filter_le (fun x => !decide (x ∈ needL hs hs.length 0)) (names (hs.take k))
  have h2 : (names (hs.take k)).length ≤ k := by simp [names]; omega
  omega

theorem topL_yes {hs : List Hd} {k : Nat} (hk : k < hs.length) (h : nmAt hs k ∉ needL hs hs.length 0) : topL hs (k + 1) = topL hs k ++ [nmAt hs k] := by
  unfold topL
  rw [names_take hk, List.filter_append]
  have : (hs.getD k hd0).1 = nmAt hs k := rfl
  rw [this]
  simp [h]

theorem topL_no {hs : List Hd} {k : Nat} (hk : k < hs.length) (h : nmAt hs k ∈ needL hs hs.length 0) : topL hs (k + 1) = topL hs k := by
  unfold topL
  rw [names_take hk, List.filter_append]
  have : (hs.getD k hd0).1 = nmAt hs k := rfl
  rw [this]
  simp [h]

theorem topL_all {hs : List Hd} {x : Txt} : x ∈ topL hs hs.length ↔ isTop hs x := by
  unfold topL isTop
  rw [List.mem_filter, List.take_length]
  simp only [Bool.not_eq_true', decide_eq_false_iff_not, needL_all]
  constructor
  · rintro ⟨h1, h2⟩; exact ⟨h1, fun g hg hx => h2 ⟨g, hg, hx⟩⟩
  · rintro ⟨h1, h2⟩; exact ⟨h1, fun ⟨g, hg, hx⟩ => h2 g hg hx⟩

/-- The second loop. -/
def TL2 (w : World) (hs : List Hd) (M k : Nat) (ov : Value) (wr : World) : Prop :=
  ∃ N ks, MapI wr M N ks (fun x => ((needL hs hs.length 0).count x : Int)) ∧ (∀ x, x ∈ ks ↔ x ∈ needL hs hs.length 0) ∧ wr.ownsRow w.heap.size 9 1 ov (topL hs k).length ((topL hs k).map encStr) ∧ Old w wr

theorem wf_le {k : Nat} (h : k ≤ 1000001) : (Lit.int .i64 (k : Int)).wf = true := WalkArith.wf_i64 (by omega)

theorem wrap_big {m : Nat} (h : m ≤ 1000000) : wrap64 ((m : Int) + 1) = ((m + 1 : Nat) : Int) := by unfold wrap64; omega

set_option maxRecDepth 20000 in
set_option maxHeartbeats 8000000 in
theorem tops_walk (w : World) (v : Value) (hs : List Hd) (hv : LiesH w v hs) (hm : SmallH hs) : Calls Try.prog 13 #[v] w (TopsP w hs) := by
  have H1 := mkHid hv
  have HM := mkHid hm
  obtain ⟨ao, cap, rfl, -⟩ := hv
  obtain ⟨n, hn⟩ : ∃ n, n = hs.length := ⟨_, rfl⟩
  have hl := hm.len
  rw [← hn] at hl ⊢
  have hmm := @run_makeMap Try.prog
  have HN := mkHid hn
  have HL := mkHid hl
  clear hn hl hm
  go_enter Try.func13, Try.ntmps13
  go_wp2
  go_loopw [14] (fun i wr => ∃ k : Nat, k ≤ n ∧ i = .int .i64 (k : Int) ∧ Hid (TL w hs w.heap.size k 0 wr)) (fun i _ => n - (intOf i).toNat)
  case atStart =>
    refine ⟨0, by omega, rfl, mkHid ⟨0, [], ?_, Nat.zero_le _, by simp [needL], old1 _ _⟩⟩
    exact MapI.made _ _
  case round =>
    obtain ⟨k, hk, rfl, HS⟩ := hrel
    by_cases hkn : k < n
    · have hkl : k < hs.length := by rw [← HN.out]; exact hkn
      have a5 : Old w wr := by obtain ⟨_, _, _, _, _, h⟩ := HS.out; exact h
      obtain ⟨b1, o1, c1, e1, hc1, hat⟩ := H1.out.form (by omega)
      obtain rfl : ao = some ⟨b1, o1, none⟩ := by cases e1; rfl
      obtain ⟨tg, nv, hr0, hlv⟩ := hat k hkl
      have hr := range_old hr0 a5
      obtain ⟨s, hse⟩ : ∃ s, s = str (hs.getD k hd0).1 := ⟨_, rfl⟩
      rw [← hse] at hr
      have hone := one_cell (nm := s) (tg := tg) hlv
      obtain ⟨fs, hfs⟩ := under24
      obtain ⟨nd, hnd⟩ : ∃ nd, nd = ndAt hs k := ⟨_, rfl⟩
      have hlv2 : LiesS w nv nd := by rw [hnd]; exact hlv
      have hndl : nd.length ≤ 1000 := by rw [hnd]; exact nd_le HM.out k
      obtain ⟨no, nc, hnv, _, _, _⟩ := hlv2
      subst hnv
      obtain ⟨m0, hm0⟩ : ∃ m0, m0 = nd.length := ⟨_, rfl⟩
      have hlv3 : LiesS w (.slice no m0 nc) nd := by rw [hm0, hnd]; rw [hnd] at hlv; exact hlv
      rw [← hm0] at hr hone
      have hk0 : (k : Int) < (n : Int) := by omega
      have hwk : wrap64 ((k : Int) + 1) = (k : Int) + 1 := wrap_small (by have := HL.out; omega)
      have HWK := mkHid hwk
      have A5 := mkHid a5
      have HKL := mkHid hkl
      have HR := mkHid hr
      have HONE := mkHid hone
      have HND := mkHid hnd
      have HNDL := mkHid hndl
      have HM0 := mkHid hm0
      have HLV := mkHid hlv3
      clear a5 hkl hr hr0 hone hnd hndl hm0 hlv3 hlv e1 hc1 hat hse hwk hmm
      go_wp2_with (first
        | ((with_reducible refine at_op (.load 24 (.tmp 16)) ?_); refine wpList_load_mid rfl 24 (.tmp 16) rfl b1 (o1 + k * 3) rfl _ _ HR.out hfs rfl size24 ?_)
        | ((with_reducible refine at_op (.store 24 (.tmp 5) (.tmp 17)) ?_)
           refine wpList_store_row rfl 24 (.tmp 5) (.tmp 17) rfl wr.heap.size _ rfl rfl 24 hd0A (h10 _ _) size24 rfl HONE.out ?_
           rw [World.setRow_alloc_new]
           obtain ⟨X1, hX1⟩ : ∃ X1, X1 = wr.alloc (.cells #[.string s, .bool tg, .slice no m0 nc] 24) := ⟨_, rfl⟩
           have b1 : Old wr X1 := by rw [hX1]; exact old1 _ _
           have HB1 := mkHid b1
           have G6 : Hid (X1.heap[wr.heap.size]? = some (.cells #[.string s, .bool tg, .slice no m0 nc] 24 (0, 0))) := by show _ = _; rw [hX1]; exact h10 _ _
           rw [← hX1]
           obtain ⟨r0, r1, r2⟩ := cell3 G6.out
           clear b1 hX1))
      go_loopw [21] (fun u wr2 => ∃ m : Nat, m ≤ m0 ∧ u = .int .i64 (m : Int) ∧ Hid (TL w hs w.heap.size k m wr2)) (fun u _ => m0 - (intOf u).toNat)
      case atStart => exact ⟨0, by omega, rfl, mkHid (HS.out.old HB1.out)⟩
      case round =>
        obtain ⟨m, hmm2, rfl, HS4⟩ := hrel
        by_cases hml : m < m0
        · obtain ⟨N, ks, c1, c2, c3, c4⟩ := HS4.out
          have hmd : m < nd.length := by rw [← HM0.out]; exact hml
          obtain ⟨b2, o2, c6, e4, _, hat4⟩ := (HLV.out.old c4).form (by omega)
          rw [← HM0.out] at e4
          obtain rfl : no = some ⟨b2, o2, none⟩ := by cases e4; rfl
          obtain ⟨x, hx⟩ : ∃ x, x = str (nd.getD m []) := ⟨_, rfl⟩
          have hcx : wr.cell? ⟨b2, o2 + m, none⟩ = some (.string x) := by rw [hx]; exact hat4 m hmd
          have hxl : x.data.toList = (ndAt hs k).getD m [] := by rw [hx, ← HND.out]; rfl
          have hxsz : x.size ≤ maxLen := by
            have := NeedsPlain.getD_in hmd
            rw [HND.out] at this
            have := HM.out.nn _ (NeedsPlain.nm_mem HKL.out) _ this
            rw [hx, str_size, HND.out]; unfold maxLen; omega
          have hmd2 : m < (ndAt hs k).length := by rw [← HND.out]; exact hmd
          have hlk := c1.run_look x hxsz
          rw [at_count (w := w) (M := 0) c3] at hlk
          obtain ⟨c, hc⟩ : ∃ c, c = (needL hs k m).count x.data.toList := ⟨_, rfl⟩
          rw [← hc] at hlk
          have hm1 : m ≤ 1000 := Nat.le_trans (Nat.le_of_lt hmd) HNDL.out
          have hk1 : k ≤ 999 := Nat.le_of_lt_succ (Nat.lt_of_lt_of_le hkn HL.out)
          have hcl : c ≤ 1000000 := by rw [hc]; exact Nat.le_trans (List.count_le_length) (needL_small HM.out hk1 hm1)
          obtain ⟨d, hd⟩ : ∃ d, d = c + 1 := ⟨_, rfl⟩
          have hwc := wrap_big hcl
          rw [← hd] at hwc
          have HD := mkHid hd
          have hmk : (m : Int) < (m0 : Int) := by omega
          have hwm : wrap64 ((m : Int) + 1) = (m : Int) + 1 := wrap_small (Nat.le_trans (Nat.le_of_lt hmd) HNDL.out)
          have hNl : N < maxLen := n_small c2 hk1 hm1
          have HWM := mkHid hwm
          have HXL := mkHid hxl
          have HXSZ := mkHid hxsz
          have HMD := mkHid hmd2
          have HC := mkHid hc
          have HNL := mkHid hNl
          have HWF : Hid ((Lit.int .i64 (d : Int)).wf = true) := wf_le (by rw [hd]; exact Nat.succ_le_succ hcl)
          have C1 := mkHid c1
          have C2 := mkHid c2
          have C3 := mkHid c3
          have C4 := mkHid c4
          clear hwm hxl hxsz hmd2 hc c1 c2 c3 c4 hx hat4 e4 hmd HS4 hcl hNl hm1 hk1 hd
          go_wp2_with (at_mapUpdate; refine wpList_put46 rfl (.tmp 25) (.tmp 26) (.tmp 28) rfl w.heap.size N ks _ rfl C1.out x rfl HXSZ.out HNL.out (d : Int) (congrArg (Value.int .i64) hwc) HWF.out ?_
                       intro w7 hp hg
                       have HP := mkHid hp
                       have HG := mkHid hg
                       clear hp hg)
          go_roundw
          case rel =>
            have hp := HP.out
            rw [HD.out, HC.out, HXL.out] at hp
            exact ⟨m + 1, by omega, by rw [HWM.out]; rfl, mkHid (TL.put HMD.out C2.out C3.out C4.out (Nat.le_refl _) hp HG.out)⟩
          case measure => rw [HWM.out]; exact meas hml
        · obtain rfl : m = m0 := by omega
          have hend : Hid (TL w hs w.heap.size (k + 1) 0 wr) := by
            have h := HS4.out
            rw [HM0.out, HND.out] at h
            exact h.next HKL.out (nd_le HM.out k)
          clear HS4
          go_wp2
          go_roundw
          case rel => exact ⟨k + 1, by omega, by rw [HWK.out]; rfl, hend⟩
          case measure => rw [HWK.out]; exact meas hkn
    · obtain rfl : k = n := by omega
      have HS2 : Hid (TL2 w hs w.heap.size 0 (.slice none 0 0) wr) := by
        obtain ⟨N, ks, h1, h2, h3, h4⟩ := HS.out
        rw [HN.out] at h1 h3
        exact ⟨N, ks, h1, h3, World.ownsRow_nil _ _ _ _, h4⟩
      clear HS hkn hk
      go_wp2
      go_loopw [8, 33] (fun ov i wr => ∃ j : Nat, j ≤ k ∧ i = .int .i64 (j : Int) ∧ Hid (TL2 w hs w.heap.size j ov wr)) (fun _ i _ => k - (intOf i).toNat)
      case atStart => exact ⟨0, by omega, rfl, HS2⟩
      case round =>
        obtain ⟨j, hj, rfl, HS3⟩ := hrel
        obtain ⟨N, ks, c1, c2, c3, c4⟩ := HS3.out
        obtain ⟨oo, oc, rfl⟩ := own_shape c3
        have hol := topL_len hs j
        obtain ⟨ol, hole⟩ : ∃ ol, ol = (topL hs j).length := ⟨_, rfl⟩
        by_cases hjn : j < k
        · have hjl : j < hs.length := by rw [← HN.out]; exact hjn
          obtain ⟨b1, o1, c9, e1, hc1, hat⟩ := H1.out.form (by omega)
          obtain rfl : ao = some ⟨b1, o1, none⟩ := by cases e1; rfl
          obtain ⟨tg, nv, hr0, hlv⟩ := hat j hjl
          have hr := range_old hr0 c4
          obtain ⟨s, hse⟩ : ∃ s, s = str (hs.getD j hd0).1 := ⟨_, rfl⟩
          have hsl : s.data.toList = nmAt hs j := by rw [hse]; rfl
          have hsz : s.size ≤ maxLen := by
            have := HM.out.nm _ (NeedsPlain.nm_mem hjl)
            rw [hse, str_size]; unfold maxLen; exact Nat.le_trans this (by decide)
          rw [← hse] at hr
          have hone := one_cell (nm := s) (tg := tg) hlv
          obtain ⟨fs, hfs⟩ := under24
          obtain ⟨nvn, nvc, hnv, _, _, _⟩ := hlv
          subst hnv
          obtain ⟨nvl, hnvl⟩ : ∃ m, m = (hs.getD j hd0).2.length := ⟨_, rfl⟩
          rw [← hnvl] at hr hone
          have hj0 : (j : Int) < (k : Int) := by omega
          have hlook : ∀ w', Old wr w' → (Instr.lookup 46 (.map (some w.heap.size)) (.string s) false).run Try.prog w' = .ok (.int .i64 ((needL hs hs.length 0).count s.data.toList : Int)) w' := fun w' hw => by
            have := (c1.old hw).run_look s hsz
            rw [at_count (w := w) (M := 0) c2] at this
            exact this
          obtain ⟨c, hc⟩ : ∃ c, c = (needL hs hs.length 0).count s.data.toList := ⟨_, rfl⟩
          rw [← hc] at hlook
          have hwj : wrap64 ((j : Int) + 1) = (j : Int) + 1 := wrap_small (Nat.le_trans hj HL.out)
          obtain ⟨i9, hi9, z90, z91, z92⟩ := info_parts Try.inf9
          have HWJ := mkHid hwj
          have HJL := mkHid hjl
          have HR := mkHid hr
          have HSL := mkHid hsl
          have HONE := mkHid hone
          have HLOOK := mkHid hlook
          have HC := mkHid hc
          have C1 := mkHid c1
          have C2 := mkHid c2
          have C3 := mkHid c3
          have C4 := mkHid c4
          have HOLE := mkHid hole
          have HOL2 : Hid (ol ≤ 1000) := mkHid (by rw [hole]; exact Nat.le_trans hol (Nat.le_trans hj HL.out))
          rw [← hole]
          clear hwj hjl hr hr0 hsl hone hlook hc c1 c2 c3 c4 e1 hc1 hat hse hsz HS3 hole hol hnvl
          by_cases hcz : c = 0
          all_goals
            first | subst hcz | (have hcn : ((c : Int) == 0) = false := by simp; omega)
            go_wp2_with (first
              | ((with_reducible refine at_op (.load 24 (.tmp 35)) ?_); refine wpList_load_mid rfl 24 (.tmp 35) rfl b1 (o1 + j * 3) rfl _ _ HR.out hfs rfl size24 ?_)
              | ((with_reducible refine at_op (.store 24 (.tmp 10) (.tmp 36)) ?_)
                 refine wpList_store_row rfl 24 (.tmp 10) (.tmp 36) rfl wr.heap.size _ rfl rfl 24 hd0A (h10 _ _) size24 rfl HONE.out ?_
                 rw [World.setRow_alloc_new]
                 obtain ⟨X1, hX1⟩ : ∃ X1, X1 = wr.alloc (.cells #[.string s, .bool tg, .slice nvn nvl nvc] 24) := ⟨_, rfl⟩
                 have b1 : Old wr X1 := by rw [hX1]; exact old1 _ _
                 have HB1 := mkHid b1
                 have G6 : Hid (X1.heap[wr.heap.size]? = some (.cells #[.string s, .bool tg, .slice nvn nvl nvc] 24 (0, 0))) := by show _ = _; rw [hX1]; exact h10 _ _
                 have hlk := HLOOK.out X1 b1
                 rw [← hX1]
                 obtain ⟨r0, r1, r2⟩ := cell3 G6.out
                 clear b1 hX1)
              | (at_builtin
                 have hrow : X1.ownsRow w.heap.size 9 1 (.slice oo ol oc) ol ((topL hs j).map encStr) := by have := C3.out; rw [← HOLE.out] at this; exact own_at this (fun k9 e => HB1.out.block k9 (this.lt k9 e).2)
                 refine wpList_append_lies _ rfl (.tmp 42) (.tmp 45) 22 rfl w.heap.size 9 i9 (.string ⟨#[]⟩) 1 16 Try.underlying22s hi9 z90 z91 z92 rfl (by decide) _ ol ((topL hs j).map encStr) rfl (hrow.alloc _) ⟨X1.heap.size, 0, none⟩ 1 1 [.string s] rfl rfl (cell_one_new _ _ _) (by simp [Value.oneCell']) (by decide) (by have := HOL2.out; unfold maxLen; omega) (by have := HOL2.out; omega) (by have := C4.out.size; have := HB1.out.size; simp; omega) _ rfl ?_
                 intro g6 cap6 w6 hown hgrow hat hlt6
                 have HOWN := mkHid hown
                 have HM6 : Hid (MapI w6 w.heap.size N ks (fun x => ((needL hs hs.length 0).count x : Int))) := by
                   have h1 := (C1.out.old HB1.out).old (old1 X1 (.cells #[.string s] 9))
                   refine mkHid (h1.kept (hgrow.block _ h1.lt fun e => ?_))
                   obtain ⟨c', e2⟩ := own_type (hrow.alloc (.cells #[.string s] 9)) e.symm
                   exact h1.notCells e2
                 have KO3 : Hid (Old w w6) := ((C4.out.trans (HB1.out.mono C4.out.size)).trans ((Below.refl w.heap.size _).alloc (Nat.le_trans C4.out.size HB1.out.size) _)).trans ((Below.refl _ _).grown hgrow (by have := C4.out.size; have := HB1.out.size; simp; omega) (fun k9 e => (hrow.lt k9 e).1))
                 clear hown hgrow hat hlt6 hrow))
          · go_roundw
            case rel =>
              refine ⟨j + 1, by omega, by rw [HWJ.out]; rfl, mkHid ⟨N, ks, HM6.out, C2.out, ?_, KO3.out⟩⟩
              have hno : nmAt hs j ∉ needL hs hs.length 0 := by
                rw [← HSL.out]
                intro h
                have := List.count_pos_iff.2 h
                have := HC.out
                omega
              rw [topL_yes HJL.out hno, List.length_append, List.length_singleton, ← HOLE.out]
              have e : (topL hs j ++ [nmAt hs j]).map encStr = (topL hs j).map encStr ++ [.string s] := by rw [List.map_append, ← HSL.out]; simp [encStr]
              rw [e]
              exact HOWN.out
            case measure => rw [HWJ.out]; exact meas hjn
          · go_roundw
            case rel =>
              refine ⟨j + 1, by omega, by rw [HWJ.out]; rfl, mkHid ⟨N, ks, C1.out.old HB1.out, C2.out, ?_, C4.out.trans (HB1.out.mono C4.out.size)⟩⟩
              have hin : nmAt hs j ∈ needL hs hs.length 0 := by
                rw [← HSL.out]
                refine List.count_pos_iff.1 ?_
                have := HC.out
                omega
              rw [topL_no HJL.out hin, ← HOLE.out]
              have := C3.out
              rw [← HOLE.out] at this
              exact own_at this (fun k9 e => HB1.out.block k9 (this.lt k9 e).2)
            case measure => rw [HWJ.out]; exact meas hjn
        · obtain rfl : j = k := by omega
          have HID := mkHid (idset_walk wr _ _ (lies_own rfl c3) (Nat.le_trans hol (Nat.le_trans HL.out (by decide))))
          rw [← hole] at HID ⊢
          have C4 := mkHid c4
          clear c1 c2 c3 c4 hole hol HS3
          go_wp2_with (first | (go_at_call 29; (with_reducible refine HID.out.mono ?_); rintro e w9 ⟨v9, rfl, s1, s2⟩; have S1 := mkHid s1; have S2 := mkHid s2; clear s1 s2))
          go_ret
          refine ⟨_, _, rfl, lies_own rfl S1.out, setL_lt _, fun x => ?_, C4.out.trans (S2.out.mono C4.out.size)⟩
          rw [setL_mem, HN.out, topL_all]
end Go.Proofs.Ytcogeebfldlpoaa
