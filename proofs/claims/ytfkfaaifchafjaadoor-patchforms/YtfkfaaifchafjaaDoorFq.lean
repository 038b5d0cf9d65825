/-
  keep.Same of texts; Head.
-/
import Derived.Test.YtfkfaaifchafjaaDoorFn
set_option linter.unusedSimpArgs false
set_option linter.unusedVariables false
namespace Go.Proofs.YtfkfaaifchafjaaDoor
open Go.RowKit

theorem txt_eq_getD {l l2 : List Txt} (hl : l.length = l2.length) (h : ∀ j, j < l.length → l.getD j [] = l2.getD j []) : l = l2 := by
  refine List.ext_getElem hl fun i h1 h2 => ?_
  have := h i h1
  rw [List.getD_eq_getElem?_getD, List.getD_eq_getElem?_getD, List.getElem?_eq_getElem h1, List.getElem?_eq_getElem h2] at this
  exact this

set_option maxRecDepth 20000 in
set_option maxHeartbeats 4000000 in
theorem eqK_walk (w : World) (av bv : Value) (l l2 : List Txt) (h1 : LiesS w av l) (h2 : LiesS w bv l2) (hl : l.length ≤ 1000000) (hl2 : l2.length ≤ 1000000) :
    Calls Tryd.prog 13 #[av, bv] w fun e w' => e = .returned (.bool (decide (l = l2))) ∧ ∃ n, w' = w.drewN n := by
  have H1 := mkHid h1
  have H2 := mkHid h2
  obtain ⟨ao, acap, rfl, -⟩ := h1
  obtain ⟨bo, bcap, rfl, -⟩ := h2
  obtain ⟨m, hm⟩ : ∃ m, m = l.length := ⟨_, rfl⟩
  obtain ⟨m2, hm2⟩ : ∃ m2, m2 = l2.length := ⟨_, rfl⟩
  rw [← hm] at hl ⊢
  rw [← hm2] at hl2 ⊢
  obtain ⟨d, hd⟩ : ∃ d, d = decide (l = l2) := ⟨_, rfl⟩
  rw [← hd]
  have HM := mkHid hm
  have HM2 := mkHid hm2
  have HD := mkHid hd
  have HL := mkHid hl
  clear hm hm2 hd hl2 hl
  by_cases he : m = m2
  · subst he
    go_enter Tryd.func13, Tryd.ntmps13
    go_wp2
    go_loopw [5] (fun i wr => ∃ k : Nat, k ≤ m ∧ i = .int .i64 k ∧ Hid (∀ j, j < k → l.getD j [] = l2.getD j []) ∧ ∃ n, wr = w.drewN n) (fun i _ => m - (intOf i).toNat)
    case atStart => exact ⟨0, by omega, rfl, (fun j hj => by omega), 0, rfl⟩
    case round =>
      obtain ⟨k, hk, rfl, HA, n, rfl⟩ := hrel
      by_cases hkm : k < m
      · obtain ⟨b1, o1, c1, e1, hc1, hh1⟩ := H1.out.form (by rw [← HM.out]; omega)
        obtain ⟨b2, o2, c2, e2, hc2, hh2⟩ := H2.out.form (by rw [← HM2.out]; omega)
        obtain rfl : ao = some ⟨b1, o1, none⟩ := by cases e1; rfl
        obtain rfl : c1 = acap := by cases e1; rfl
        obtain rfl : bo = some ⟨b2, o2, none⟩ := by cases e2; rfl
        obtain rfl : c2 = bcap := by cases e2; rfl
        have hr1 : w.cell? ⟨b1, o1 + k, none⟩ = some (.string (str (l.getD k []))) := hh1 k (by rw [← HM.out]; exact hkm)
        have hr2 : w.cell? ⟨b2, o2 + k, none⟩ = some (.string (str (l2.getD k []))) := hh2 k (by rw [← HM2.out]; exact hkm)
        obtain ⟨s, hs⟩ : ∃ s, s = str (l.getD k []) := ⟨_, rfl⟩
        obtain ⟨s2, hs2⟩ : ∃ s, s = str (l2.getD k []) := ⟨_, rfl⟩
        obtain ⟨q, hq⟩ : ∃ q, q = decide (l.getD k [] = l2.getD k []) := ⟨_, rfl⟩
        have HQ := mkHid hq
        have e0 : (s.toList == s2.toList) = q := by rw [hs, hs2, ByteArray.toList_eq, ByteArray.toList_eq, str_list, str_list, hq]; exact txt_beq _ _
        rw [← hs] at hr1
        rw [← hs2] at hr2
        have hwk : wrap64 ((k : Int) + 1) = (k : Int) + 1 := by have := HL.out; unfold wrap64; omega
        have HWK := mkHid hwk
        have hk0 : (k : Int) < (m : Int) := by omega
        clear hq hs hs2 hh1 hh2 hc1 hc2 e1 e2 hwk
        cases q
        · go_upto_region 6 with (fail)
          go_quiet (fail)
          go_wp2
          go_ret
          refine ⟨ret_bool ?_, n + nq, by first | rfl | rw [World.drewN_drewN]⟩
          rw [HD.out, eq_comm, decide_eq_false_iff_not]
          rintro rfl
          have := HQ.out
          simp at this
        · go_upto_region 6 with (fail)
          go_quiet (fail)
          go_wp2
          go_roundw
          case rel =>
            refine ⟨k + 1, by omega, by rw [HWK.out]; rfl, fun j hj => ?_, n + nq, by first | rfl | rw [World.drewN_drewN]⟩
            rcases (show j < k ∨ j = k by omega) with h | rfl
            · exact HA.out j h
            · have := HQ.out; simpa using this.symm
          case measure =>
            have e := HWK.out
            rw [e]
            exact meas hkm
      · have hkk : k = m := by omega
        subst hkk
        go_wp2
        go_ret
        refine ⟨ret_bool ?_, n, rfl⟩
        rw [HD.out, eq_comm, decide_eq_true_eq]
        exact txt_eq_getD (by rw [← HM.out, ← HM2.out]) (by rw [← HM.out]; exact HA.out)
  · have hne : ¬ (m : Int) = (m2 : Int) := by omega
    have HNE := mkHid he
    clear he
    go_enter Tryd.func13, Tryd.ntmps13
    go_wp2
    go_ret
    refine ⟨ret_bool ?_, 0, rfl⟩
    rw [HD.out, eq_comm, decide_eq_false_iff_not]
    rintro rfl
    exact HNE.out (by rw [HM.out, HM2.out])

theorem info9 : (Tryd.prog.info? 9).map (fun i => (i.zero, i.size, i.bytes)) = some (some (.string ⟨#[]⟩), 1, 16) := by kernel_rfl
theorem size34 : (Tryd.prog.info? 34).map (·.size) = some 3 := by kernel_rfl

theorem ret11 (tmps : Array Value) (w : World) (g : Nat) (cs : Array Value) (hp : tmps.getD 2 undef = .pointer (some ⟨g, 0, none⟩)) (hg : w.heap[g]? = some (.cells cs 34 (0, 0))) (hs : cs.size = 3) : (results Tryd.f11 tmps).run Tryd.prog w = .ok (.agg cs) w := by
  exact results_cell_row rfl tmps w g 34 cs (0, 0) _ hp hg Tryd.underlying34 rfl (by rw [hs]; exact size34)

def Ph3 (a b c : World) (k : Nat) (w : World) : Prop := w = match k with
  | 0 => a
  | 1 => b
  | _ => c
theorem Ph3.one {a b c w : World} {k : Nat} (h0 : 0 ≤ k) (h1 : k ≤ 1) (h : Ph3 a b c k w) : w = a ∨ w = b := by
  rcases (show k = 0 ∨ k = 1 by omega) with rfl | rfl
  · exact .inl h
  · exact .inr h
theorem Ph3.zero {a b c w : World} {k : Nat} (h0 : 0 ≤ k) (h1 : k ≤ 0) (h : Ph3 a b c k w) : w = a := by
  obtain rfl : k = 0 := by omega
  exact h

theorem upT_store' {P : Program} {C : World → Prop} {D : List PanicEntry → World → Prop} {o : Oper} {a : Act} {w w' : World} (ty : TypeId) (x y : Operand) (ho : o.op = .store ty x y) (p v : Value) (hx : a.eval x = p) (hy : a.eval y = v) (hr : (Instr.storeAt ty p v).run P w = .ok () w') (h : C w') :
    Rp.upT P C D undef false w ((execOp a.eval o).run P w) := by
  unfold execOp
  simp only [ho, hx, hy, Sem.run_bind, hr, Result.andThen_ok, Sem.run_pure]
  exact ⟨rfl, rfl, h⟩

theorem upT_append' {P : Program} {C : World → Prop} {D : List PanicEntry → World → Prop} {o : Oper} {a : Act} {w w' : World} {t : TypeId} {v' : Value} (s x : Operand) (ho : o.op = .call { callee := .builtin .append, args := #[s, x], argTypes := #[t, t] }) (v u : Value) (hs : a.eval s = v) (hx : a.eval x = u)
    (hr : (Builtin.append_ #[t, t] o.type #[v, u]).run P w = .ok v' w') (h : C w') : Rp.upT P C D v' false w ((execOp a.eval o).run P w) := by
  rw [exec_append s x ho hs hx hr]
  exact ⟨rfl, rfl, h⟩

/-- what Head answers where there are needs: a row of its own -/
def HeadP (w : World) (nm : ByteArray) (tg : Bool) (n : Nat) (needs : List Txt) (e : Ending) (w' : World) : Prop :=
  ∃ (g cap : Nat) (cs : Array Value), e = .returned (.agg #[.string nm, .bool tg, .slice (some ⟨g, 0, none⟩) n cap]) ∧ w.heap.size ≤ g ∧ n ≤ cap ∧ w'.heap[g]? = some (.cells cs 9 (0, 0)) ∧ (∀ (j : Nat) (u : Value), (needs.map encStr)[j]? = some u → cs[j]? = some u) ∧ Old w w'

set_option maxRecDepth 20000 in
set_option maxHeartbeats 4000000 in
theorem head_some (w : World) (nm : ByteArray) (tg : Bool) (nv cv : Value) (needs : List Txt) (hn : LiesS w nv needs) (h0 : 0 < needs.length) (hl : needs.length ≤ 1000000) :
    Calls Tryd.prog 11 #[.agg #[.string nm, .bool tg, nv, cv]] w (HeadP w nm tg needs.length needs) := by
  obtain ⟨b, off, cap, rfl, hcap, hcell⟩ := hn.form h0
  obtain ⟨W, hW⟩ : ∃ W, W = (w.alloc (.cells #[.string nm, .bool tg, .slice (some ⟨b, off, none⟩) needs.length cap, cv] 26)).alloc (.cells #[.string ⟨#[]⟩, .bool false, .slice none 0 0] 34) := ⟨_, rfl⟩
  have hO : Old w W := by rw [hW]; exact old2 _ _ _
  have hB : W.heap[w.heap.size]? = some (.cells #[.string nm, .bool tg, .slice (some ⟨b, off, none⟩) needs.length cap, cv] 26 (0, 0)) := by rw [hW]; exact h20 _ _ _
  have hZ : W.heap[w.heap.size + 1]? = some (.cells #[.string ⟨#[]⟩, .bool false, .slice none 0 0] 34 (0, 0)) := by rw [hW]; exact h21 _ _ _
  obtain ⟨i, hi, hz0, hz1, hz2⟩ := info_parts info9
  obtain ⟨V0, hV0⟩ : ∃ V0, V0 = W.drew := ⟨_, rfl⟩
  have hO0 : Old w V0 := by rw [hV0]; exact hO.drew
  have hB0 : V0.heap[w.heap.size]? = some (.cells #[.string nm, .bool tg, .slice (some ⟨b, off, none⟩) needs.length cap, cv] 26 (0, 0)) := by rw [hV0]; exact hB
  have hZ0 : V0.heap[w.heap.size + 1]? = some (.cells #[.string ⟨#[]⟩, .bool false, .slice none 0 0] 34 (0, 0)) := by rw [hV0]; exact hZ
  obtain ⟨g, c2, V1, hrun, hown, hgr, hat, hlt⟩ := run_append_lies (P := Tryd.prog) V0 22 22 w.heap.size 9 i _ 1 16 Tryd.underlying22 hi hz0 hz1 hz2 rfl (by decide) (.slice none 0 0) 0 [] ⟨rfl, .inl ⟨rfl, rfl⟩⟩ ⟨b, off, none⟩ needs.length cap (needs.map encStr) (by simp) (fun j u hj => by
      have hj2 : j < needs.length := by have := (List.getElem?_eq_some_iff.1 hj).1; simpa using this
      rw [add_none, cell_old hO0 (hcell j hj2), ← hj]
      simp [hj2]) (fun u hu => by
      obtain ⟨x, _, rfl⟩ := List.mem_map.1 hu
      rfl) h0 (by unfold maxLen; omega) (by omega) hO0.size V0.heap.size rfl
  simp only [Nat.zero_add, List.nil_append] at hrun hown
  have hg : w.heap.size ≤ g := by
    rcases hat with h | h
    · cases h
    · rw [h]; exact hO0.size
  obtain ⟨cs, hgc, hcs, hcap2⟩ : ∃ cs : Array Value, V1.heap[g]? = some (.cells cs 9 (0, 0)) ∧ (∀ j u, (needs.map encStr)[j]? = some u → cs[j]? = some u) ∧ needs.length ≤ c2 := by
    rcases hown.2 with ⟨h, _⟩ | ⟨g', cap', cur, h, _, h2, h3, _, h4, h5⟩
    · cases h
    · cases h
      refine ⟨cur, h2, fun j u hj => ?_, h3⟩
      rw [← h5] at hj
      rw [List.getElem?_take] at hj
      split at hj
      · simpa using hj
      · cases hj
  have hB1 : V1.heap[w.heap.size]? = some (.cells #[.string nm, .bool tg, .slice (some ⟨b, off, none⟩) needs.length cap, cv] 26 (0, 0)) := (hgr.block _ (Array.getElem?_eq_some_iff.1 hB0).1 (by simp [Value.ownBlock])).trans hB0
  have hZ1 : V1.heap[w.heap.size + 1]? = some (.cells #[.string ⟨#[]⟩, .bool false, .slice none 0 0] 34 (0, 0)) := (hgr.block _ (Array.getElem?_eq_some_iff.1 hZ0).1 (by simp [Value.ownBlock])).trans hZ0
  have hO1 : Old w V1 := hO0.trans ⟨hgr.os, hgr.tape, hgr.output, hgr.size, fun k hk => hgr.block k (by have := hO0.size; omega) (by simp [Value.ownBlock])⟩
  obtain ⟨n, hn⟩ : ∃ n, n = needs.length := ⟨_, rfl⟩
  rw [← hn] at hrun hown hB0 hB1 hcap2 hW hcap hB ⊢
  have HV0 := mkHid hV0
  have HRUN := mkHid hrun
  have HB0 := mkHid hB0
  have HB1 := mkHid hB1
  have HZ1 := mkHid hZ1
  have HO1 := mkHid hO1
  have HG := mkHid hg
  have HGC := mkHid hgc
  have HCS := mkHid hcs
  have HCAP := mkHid hcap2
  have HW := mkHid hW
  obtain ⟨fs, hfs⟩ : ∃ fs, Tryd.prog.underlying 34 = some (.struct fs) := ⟨_, Tryd.underlying34⟩
  clear hn h0 hl hcell hcap hO hB hZ hV0 hO0 hB0 hZ0 hrun hown hgr hat hlt hg hgc hcs hcap2 hB1 hZ1 hO1 hW hi hz0 hz1 hz2
  go_enter Tryd.func11, Tryd.ntmps11
  go_upto_region 1 with (fail)
  rw [← HW.out]
  refine Rp.wp_region_phases (by kernel_rfl) (by kernel_rfl) [6, 8] (by decide) (by decide) (Ph3 V0 V1 (V1.setRow (w.heap.size + 1) #[.string nm, .bool tg, .slice (some ⟨g, 0, none⟩) n c2])) (fun _ _ => False) HV0.out.symm (fun _ _ _ _ h => h.elim) ?_
  refine Rp.wpP_pure (by rfl) (by rfl) ?_ (fun w9 => ?_) (fun K hK => ?_)
  rotate_left 1
  · go_simp
    refine Rp.upT_value ?_; rfl
  go_simp
  refine hK _ _ ?_
  clear hK K
  refine Rp.wpP_read (by rfl) 0 1 (by kernel_rfl) (by kernel_rfl) (by rfl) (.string nm) (fun k hk1 hk2 w9 hk => ?_) (fun K hK => ?_)
  · have p5 : w9.cell? ⟨w.heap.size, 0, none⟩ = some (.string nm) := by
      rcases hk.one hk1 hk2 with rfl | rfl
      · exact (cell4 HB0.out).1
      · exact (cell4 HB1.out).1
    go_simp
    refine Rp.upT_value ?_; rfl
  go_simp
  refine hK _ _ ?_
  clear hK K
  refine Rp.wpP_pure (by rfl) (by rfl) ?_ (fun w9 => ?_) (fun K hK => ?_)
  rotate_left 1
  · go_simp
    refine Rp.upT_value ?_; rfl
  go_simp
  refine hK _ _ ?_
  clear hK K
  refine Rp.wpP_read (by rfl) 0 1 (by kernel_rfl) (by kernel_rfl) (by rfl) (.bool tg) (fun k hk1 hk2 w9 hk => ?_) (fun K hK => ?_)
  · have p5 : w9.cell? ⟨w.heap.size, 1, none⟩ = some (.bool tg) := by
      rcases hk.one hk1 hk2 with rfl | rfl
      · exact (cell4 HB0.out).2.1
      · exact (cell4 HB1.out).2.1
    go_simp
    refine Rp.upT_value ?_; rfl
  go_simp
  refine hK _ _ ?_
  clear hK K
  refine Rp.wpP_pure (by rfl) (by rfl) ?_ (fun w9 => ?_) (fun K hK => ?_)
  rotate_left 1
  · go_simp
    refine Rp.upT_value ?_; rfl
  go_simp
  refine hK _ _ ?_
  clear hK K
  refine Rp.wpP_read (by rfl) 0 0 (by kernel_rfl) (by kernel_rfl) (by rfl) (.slice (some ⟨b, off, none⟩) n cap) (fun k hk1 hk2 w9 hk => ?_) (fun K hK => ?_)
  · obtain rfl := hk.zero hk1 hk2
    have p5 := (cell4 HB0.out).2.2.1
    go_simp
    refine Rp.upT_value ?_; rfl
  go_simp
  refine hK _ _ ?_
  clear hK K
  refine Rp.wpP_one (by rfl) 0 (by kernel_rfl) (by kernel_rfl) (by rfl) (.slice (some ⟨g, 0, none⟩) n c2) (fun w9 hk => ?_) (fun K hK => ?_)
  · obtain rfl : w9 = V0 := hk
    refine upT_append' (t := 22) (.const (.slice none 0 0)) (.tmp 8) ?_ (.slice none 0 0) (.slice (some ⟨b, off, none⟩) n cap) ?_ ?_ (w' := V1) ?_ ?_
    · rfl
    · rfl
    · rfl
    · exact HRUN.out
    · rfl
  go_simp
  refine hK _ _ ?_
  clear hK K
  refine Rp.wpP_pure (by rfl) (by rfl) ?_ (fun w9 => ?_) (fun K hK => ?_)
  rotate_left 1
  · go_simp
    refine Rp.upT_value ?_; rfl
  go_simp
  refine hK _ _ ?_
  clear hK K
  refine Rp.wpP_one (by rfl) 1 (by kernel_rfl) (by kernel_rfl) (by rfl) undef (fun w9 hk => ?_) (fun K hK => ?_)
  · obtain rfl : w9 = V1 := hk
    refine upT_store' 34 (.tmp 2) (.tmp 10) rfl _ _ rfl rfl (run_storeAt_row _ (w.heap.size + 1) 34 34 _ _ HZ1.out size34 rfl (by simp [Value.oneCell'])) ?_
    rfl
  go_simp
  refine hK _ _ ?_
  clear hK K
  refine Rp.wpP_end (fun _ w9 hk => ?_)
  obtain rfl : w9 = V1.setRow (w.heap.size + 1) #[.string nm, .bool tg, .slice (some ⟨g, 0, none⟩) n c2] := hk
  go_wp2
  refine bodyPost_ret (v := .agg #[.string nm, .bool tg, .slice (some ⟨g, 0, none⟩) n c2]) (ret11 _ _ (w.heap.size + 1) _ rfl (setRow_heap _ _ _ _ _ _ HZ1.out) rfl) rfl ⟨g, c2, cs, rfl, HG.out, HCAP.out, setRow_ne (blocks_ne HGC.out HZ1.out (by decide)) HGC.out, HCS.out, below_setRow HO1.out (by omega) _⟩
end Go.Proofs.YtfkfaaifchafjaaDoor
