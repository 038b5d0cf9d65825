/-
  Same: two patches alike in all.
-/
import Derived.Test.YtfkfaaifchafjaaDoorFm
import Derived.Test.YtfkfaaifchafjaaDoorSc
set_option linter.unusedSimpArgs false
set_option linter.unusedVariables false
namespace Go.Proofs.YtfkfaaifchafjaaDoor
open Go.RowKit

theorem run_neq44 (w : World) (a : Act) (o : Oper) (x y : Operand) (ho : o.op = .binOp .neq 44 x y 44) (k k2 : Int) (f f2 : ByteArray) (fn fn2 : Int) (l l2 : ByteArray) (ln ln2 : Int) (t t2 : ByteArray)
    (hx : a.eval x = .agg #[.int .i64 k, .string f, .int .i64 fn, .string l, .int .i64 ln, .string t]) (hy : a.eval y = .agg #[.int .i64 k2, .string f2, .int .i64 fn2, .string l2, .int .i64 ln2, .string t2]) (b : Bool) (hb : b = decide (k = k2 ∧ f.toList = f2.toList ∧ fn = fn2 ∧ l.toList = l2.toList ∧ ln = ln2 ∧ t.toList = t2.toList)) :
    (execOp a.eval o).run Tryd.prog w = .ok (.value (.bool (!b))) w := by
  unfold execOp
  simp only [ho, hx, hy]
  go_simp
  by_cases h1 : k = k2
  case neg => simp [h1]
  by_cases h2 : f.toList = f2.toList
  case neg => simp [h1, h2]
  by_cases h3 : fn = fn2
  case neg => simp [h1, h2, h3]
  by_cases h4 : l.toList = l2.toList
  case neg => simp [h1, h2, h3, h4]
  by_cases h5 : ln = ln2
  case neg => simp [h1, h2, h3, h4, h5]
  by_cases h6 : t.toList = t2.toList <;> simp [h1, h2, h3, h4, h5, h6]

theorem eqChg (k k2 : Int) (f f2 : ByteArray) (fn fn2 : Int) (l l2 : ByteArray) (ln ln2 : Int) (t t2 : ByteArray) :
    decide (k = k2 ∧ f.toList = f2.toList ∧ fn = fn2 ∧ l.toList = l2.toList ∧ ln = ln2 ∧ t.toList = t2.toList) = decide (((k, (f.data.toList, fn), (l.data.toList, ln), t.data.toList) : Chg) = (k2, (f2.data.toList, fn2), (l2.data.toList, ln2), t2.data.toList)) := by
  simp only [ByteArray.toList_eq]
  congr 1
  simp only [Prod.mk.injEq, eq_iff_iff]
  constructor
  · rintro ⟨a, b, c, d, e, f⟩; exact ⟨a, ⟨b, c⟩, ⟨d, e⟩, f⟩
  · rintro ⟨a, ⟨b, c⟩, ⟨d, e⟩, f⟩; exact ⟨a, b, c, d, e, f⟩

theorem list_eq_getD {l l2 : List Chg} (hl : l.length = l2.length) (h : ∀ j, j < l.length → l.getD j chg0 = l2.getD j chg0) : l = l2 := by
  refine List.ext_getElem hl fun i h1 h2 => ?_
  have := h i h1
  rw [List.getD_eq_getElem?_getD, List.getD_eq_getElem?_getD, List.getElem?_eq_getElem h1, List.getElem?_eq_getElem h2] at this
  exact this

set_option maxHeartbeats 4000000 in
set_option maxRecDepth 20000 in
theorem eqC_walk (w : World) (av bv : Value) (l l2 : List Chg) (h1 : LiesC w av l) (h2 : LiesC w bv l2) (hl : l.length ≤ 1000000) (hl2 : l2.length ≤ 1000000) :
    Calls Tryd.prog 29 #[av, bv] w fun e w' => e = .returned (.bool (decide (l = l2))) ∧ ∃ n, w' = w.drewN n := by
  have H1 := mkHid h1
  have H2 := mkHid h2
  obtain ⟨-, ao, acap, rfl, -⟩ := h1
  obtain ⟨-, bo, bcap, rfl, -⟩ := h2
  obtain ⟨m, hm⟩ : ∃ m, m = l.length := ⟨_, rfl⟩
  obtain ⟨m2, hm2⟩ : ∃ m2, m2 = l2.length := ⟨_, rfl⟩
  rw [← hm] at hl ⊢
  rw [← hm2] at hl2 ⊢
  obtain ⟨d, hd⟩ : ∃ d, d = decide (l = l2) := ⟨_, rfl⟩
  rw [← hd]
  have HM := mkHid hm
  have HM2 := mkHid hm2
  have HD := mkHid hd
  have HL := mkHid hl
  clear hm hm2 hd hl2 hl
  by_cases he : m = m2
  · subst he
    go_enter Tryd.func29, Tryd.ntmps29
    go_wp2
    go_loopw [13] (fun i wr => ∃ k : Nat, k ≤ m ∧ i = .int .i64 k ∧ Hid (∀ j, j < k → l.getD j chg0 = l2.getD j chg0) ∧ ∃ n, wr = w.drewN n) (fun i _ => m - (intOf i).toNat)
    case atStart => exact ⟨0, by omega, rfl, (fun j hj => by omega), 0, rfl⟩
    case round =>
      obtain ⟨k, hk, rfl, HA, n, rfl⟩ := hrel
      by_cases hkm : k < m
      · obtain ⟨b1, o1, c1, e1, hc1, hh1⟩ := H1.out.form (by rw [← HM.out]; omega)
        obtain ⟨b2, o2, c2, e2, hc2, hh2⟩ := H2.out.form (by rw [← HM2.out]; omega)
        obtain rfl : ao = some ⟨b1, o1, none⟩ := by cases e1; rfl
        obtain rfl : c1 = acap := by cases e1; rfl
        obtain rfl : bo = some ⟨b2, o2, none⟩ := by cases e2; rfl
        obtain rfl : c2 = bcap := by cases e2; rfl
        have hr1 := LiesC.range hh1 k (by rw [← HM.out]; exact hkm)
        have hr2 := LiesC.range hh2 k (by rw [← HM2.out]; exact hkm)
        obtain ⟨kk, f, fn, x, ln, t, hx⟩ := chg_letters (l.getD k chg0)
        obtain ⟨kk2, f2, fn2, x2, ln2, t2, hx2⟩ := chg_letters (l2.getD k chg0)
        rw [hx] at hr1
        rw [hx2] at hr2
        obtain ⟨q, hq⟩ : ∃ q, q = decide (l.getD k chg0 = l2.getD k chg0) := ⟨_, rfl⟩
        have HQ := mkHid hq
        have hq2 : q = decide (kk = kk2 ∧ f.toList = f2.toList ∧ fn = fn2 ∧ x.toList = x2.toList ∧ ln = ln2 ∧ t.toList = t2.toList) := by rw [hq, hx, hx2, eqChg]
        have HQ2 := mkHid hq2
        have L1 : Hid ((Instr.loadAt 44 (.pointer (some ⟨b1, o1 + k * 6, none⟩))).run Tryd.prog (w.drewN n).drew = .ok (.agg #[.int .i64 kk, .string f, .int .i64 fn, .string x, .int .i64 ln, .string t]) (w.drewN n).drew) :=
          run_loadAt_mid (P := Tryd.prog) (w.drewN n).drew b1 (o1 + k * 6) 44 _ _ hr1 Tryd.underlying44 rfl size44
        have L2 : Hid ((Instr.loadAt 44 (.pointer (some ⟨b2, o2 + k * 6, none⟩))).run Tryd.prog (w.drewN n).drew = .ok (.agg #[.int .i64 kk2, .string f2, .int .i64 fn2, .string x2, .int .i64 ln2, .string t2]) (w.drewN n).drew) :=
          run_loadAt_mid (P := Tryd.prog) (w.drewN n).drew b2 (o2 + k * 6) 44 _ _ hr2 Tryd.underlying44 rfl size44
        have hwk : wrap64 ((k : Int) + 1) = (k : Int) + 1 := by have := HL.out; unfold wrap64; omega
        have HWK := mkHid hwk
        have hk0 : (k : Int) < (m : Int) := by omega
        clear hx hx2 hq hq2 hr1 hr2 hh1 hh2 hc1 hc2 e1 e2 hwk
        go_upto_region 6 with (fail)
        refine Rq.wp_region_try_lit (by kernel_rfl) (by kernel_rfl) (fun w1 => w1 = (w.drewN n).drew) (fun w1 => w1 = (w.drewN n).drew) (.inr rfl) (by decide) (fun _ _ => False) rfl (fun _ _ _ _ h => h.elim) ?_
        repeat (
          refine Rq.wpT_yes (by rfl) ?_ ?_ (fun w1 h1 => ?_) (fun K hK => ?_)
          rotate_left 2
          · subst h1
            first
              | (refine upT_load 44 (.tmp 18) ?_ (.pointer (some ⟨b1, o1 + k * 6, none⟩)) ?_ ?_ ?_ <;> first | rfl | exact L1.out)
              | (refine upT_load 44 (.tmp 22) ?_ (.pointer (some ⟨b2, o2 + k * 6, none⟩)) ?_ ?_ ?_ <;> first | rfl | exact L2.out)
              | (go_simp
                 refine Rq.upT_value ?_
                 rfl)
          go_simp
          refine hK _ _ ?_
          clear hK K)
        refine Rq.wpT_last (by rfl) (.bool (!q)) false (fun w1 h1 => ?_) (fun K hK => ?_)
        · subst h1
          rw [run_neq44 _ _ _ (.tmp 19) (.tmp 23) rfl kk kk2 f f2 fn fn2 x x2 ln ln2 t t2 rfl rfl q HQ2.out]
          refine Rq.upT_value ?_
          rfl
        go_simp
        refine hK _ _ (fun _ => ?_)
        clear hK K
        rintro w1 rfl
        cases q
        · go_wp2
          go_ret
          refine ⟨ret_bool ?_, n + 1, rfl⟩
          rw [HD.out, eq_comm, decide_eq_false_iff_not]
          rintro rfl
          have := HQ.out
          simp at this
        · go_wp2
          go_roundw
          case rel =>
            refine ⟨k + 1, by omega, by rw [HWK.out]; rfl, fun j hj => ?_, n + 1, rfl⟩
            rcases (show j < k ∨ j = k by omega) with h | rfl
            · exact HA.out j h
            · have := HQ.out; simpa using this.symm
          case measure =>
            have e := HWK.out
            rw [e]
            exact meas hkm
      · have hkk : k = m := by omega
        subst hkk
        go_wp2
        go_ret
        refine ⟨ret_bool ?_, n, rfl⟩
        rw [HD.out, eq_comm, decide_eq_true_eq]
        exact list_eq_getD (by rw [← HM.out, ← HM2.out]) (by rw [← HM.out]; exact HA.out)
  · have hne : ¬ (m : Int) = (m2 : Int) := by omega
    have HNE := mkHid he
    clear he
    go_enter Tryd.func29, Tryd.ntmps29
    go_wp2
    go_ret
    refine ⟨ret_bool ?_, 0, rfl⟩
    rw [HD.out, eq_comm, decide_eq_false_iff_not]
    rintro rfl
    exact HNE.out (by rw [HM.out, HM2.out])

theorem str_inj {a b : Txt} (h : str a = str b) : a = b := by
  have := congrArg (fun s => s.data.toList) h
  simpa [str] using this

theorem map_str_inj : ∀ {l l2 : List Txt}, l.map str = l2.map str → l = l2
  | [], [], _ => rfl
  | [], _ :: _, h => by simp at h
  | _ :: _, [], h => by simp at h
  | a :: l, b :: l2, h => by
    simp only [List.map_cons, List.cons.injEq] at h
    rw [str_inj h.1, map_str_inj h.2]

theorem eqS_walk (w : World) (av bv : Value) (l l2 : List Txt) (h1 : LiesS w av l) (h2 : LiesS w bv l2) (hl : l.length ≤ 1000000) (hl2 : l2.length ≤ 1000000) :
    Calls Tryd.prog 28 #[av, bv] w fun e w' => e = .returned (.bool (decide (l = l2))) ∧ ∃ n, w' = w.drewN n := by
  by_cases h0 : l.length = 0
  · obtain ⟨ao, acap, rfl, -⟩ := h1
    obtain ⟨bo, bcap, rfl, -⟩ := h2
    rw [h0]
    refine (Tryd.slices_Equal_string_empty ao bo acap l2.length bcap w (by omega)).mono ?_
    rintro e w' ⟨rfl, rfl⟩
    refine ⟨ret_bool ?_, 0, rfl⟩
    obtain rfl := List.length_eq_zero_iff.1 h0
    rw [decide_eq_decide]
    exact ⟨fun h => (List.length_eq_zero_iff.1 h).symm, fun h => by rw [← h]; rfl⟩
  · by_cases he : l.length = l2.length
    · obtain ⟨b1, o1, c1, rfl, _, k1⟩ := h1.form (by omega)
      obtain ⟨b2, o2, c2, rfl, _, k2⟩ := h2.form (by omega)
      refine (Tryd.slices_Equal_string b1 o1 l.length c1 b2 o2 l2.length c2 (l.map str) (l2.map str) w (by simp) (by simp) (by omega) (by omega) (fun j hj => ?_) (fun j hj => ?_)).mono ?_
      · rw [k1 j (by simpa using hj)]
        have hj' : j < l.length := by simpa using hj
        simp [hj', encStr_str, List.getD_eq_getElem?_getD]
      · rw [k2 j (by simpa using hj)]
        have hj' : j < l2.length := by simpa using hj
        simp [hj', encStr_str, List.getD_eq_getElem?_getD]
      · rintro e w' ⟨rfl, n, rfl⟩
        refine ⟨ret_bool ?_, n, rfl⟩
        rw [decide_eq_decide, List.take_of_length_le (by simp), List.take_of_length_le (by simp)]
        exact ⟨map_str_inj, fun h => by rw [h]⟩
    · obtain ⟨ao, acap, rfl, -⟩ := h1
      obtain ⟨bo, bcap, rfl, -⟩ := h2
      refine (Tryd.slices_Equal_string_lens ao bo l.length acap l2.length bcap w he).mono ?_
      rintro e w' ⟨rfl, rfl⟩
      refine ⟨ret_bool ?_, 0, rfl⟩
      rw [eq_comm, decide_eq_false_iff_not]
      rintro rfl
      exact he rfl

/-- a patch value in letters -/
structure PV (w : World) (nm : ByteArray) (tg : Bool) (nv cv : Value) (p : Pat) : Prop where
  nm : nm = str p.1
  tg : tg = p.2.1
  ns : LiesS w nv p.2.2.1
  cs : LiesC w cv p.2.2.2
  l1 : p.2.2.1.length ≤ 1000000
  l2 : p.2.2.2.length ≤ 1000000

theorem PV.old {w w' : World} {nm : ByteArray} {tg : Bool} {nv cv : Value} {p : Pat} (h : PV w nm tg nv cv p) (hb : Old w w') : PV w' nm tg nv cv p := ⟨h.nm, h.tg, h.ns.old hb, h.cs.old hb, h.l1, h.l2⟩

/-- alike in all -/
def sameP (p q : Pat) : Bool := decide (p.1 = q.1) && (decide (p.2.1 = q.2.1) && (decide (p.2.2.1 = q.2.2.1) && decide (p.2.2.2 = q.2.2.2)))
theorem sameP_iff {p q : Pat} : sameP p q = true ↔ p = q := by
  obtain ⟨a, b, c, d⟩ := p
  obtain ⟨a2, b2, c2, d2⟩ := q
  simp only [sameP, Prod.mk.injEq, Bool.and_eq_true, decide_eq_true_eq]

set_option maxRecDepth 20000 in
set_option maxHeartbeats 4000000 in
theorem samePat_any (w : World) (nm nm2 : ByteArray) (tg tg2 : Bool) (nv cv nv2 cv2 : Value) (p q : Pat) (h1 : PV w nm tg nv cv p) (h2 : PV w nm2 tg2 nv2 cv2 q) :
    Calls Tryd.prog 12 #[.agg #[.string nm, .bool tg, nv, cv], .agg #[.string nm2, .bool tg2, nv2, cv2]] w fun e w' => e = .returned (.bool (sameP p q)) ∧ Old w w' := by
  obtain ⟨b1, hb1⟩ : ∃ b, b = decide (p.1 = q.1) := ⟨_, rfl⟩
  obtain ⟨b2, hb2⟩ : ∃ b, b = decide (p.2.1 = q.2.1) := ⟨_, rfl⟩
  obtain ⟨b3, hb3⟩ : ∃ b, b = decide (p.2.2.1 = q.2.2.1) := ⟨_, rfl⟩
  obtain ⟨b4, hb4⟩ : ∃ b, b = decide (p.2.2.2 = q.2.2.2) := ⟨_, rfl⟩
  unfold sameP
  rw [← hb1, ← hb2, ← hb3, ← hb4]
  have e1 : (nm.toList == nm2.toList) = b1 := by rw [h1.nm, h2.nm, ByteArray.toList_eq, ByteArray.toList_eq, str_list, str_list, hb1]; exact txt_beq _ _
  have e2 : (tg == tg2) = b2 := by rw [h1.tg, h2.tg, hb2]; cases p.2.1 <;> cases q.2.1 <;> rfl
  obtain ⟨W, hW⟩ : ∃ W, W = (w.alloc (.cells #[.string nm, .bool tg, nv, cv] 26)).alloc (.cells #[.string nm2, .bool tg2, nv2, cv2] 26) := ⟨_, rfl⟩
  have hO : Old w W := by rw [hW]; exact old2 _ _ _
  have k28 : Hid (Calls Tryd.prog 28 #[nv, nv2] W fun e w' => e = .returned (.bool b3) ∧ ∃ m, w' = W.drewN m) := by
    have := eqS_walk W nv nv2 _ _ (h1.ns.old hO) (h2.ns.old hO) h1.l1 h2.l1
    rw [← hb3] at this
    exact this
  have k29 : Hid (∀ n, Calls Tryd.prog 29 #[cv, cv2] (W.drewN n) fun e w' => e = .returned (.bool b4) ∧ ∃ m, w' = W.drewN m) := fun n => by
    have := eqC_walk (W.drewN n) cv cv2 _ _ ((h1.cs.old hO).old (below_drewN _ n)) ((h2.cs.old hO).old (below_drewN _ n)) h1.l2 h2.l2
    rw [← hb4] at this
    exact this.mono fun e w' ⟨he, m, hm⟩ => ⟨he, n + m, by rw [hm, World.drewN_drewN]⟩
  have c1 : W.heap[w.heap.size]? = some (.cells #[.string nm, .bool tg, nv, cv] 26 (0, 0)) := by rw [hW]; exact h20 _ _ _
  have c2 : W.heap[w.heap.size + 1]? = some (.cells #[.string nm2, .bool tg2, nv2, cv2] 26 (0, 0)) := by rw [hW]; exact h21 _ _ _
  obtain ⟨p0, p1, p2, p3⟩ := cell4 c1
  obtain ⟨q0, q1, q2, q3⟩ := cell4 c2
  have HW := mkHid hW
  have HO := mkHid hO
  clear h1 h2 hb1 hb2 hb3 hb4 c1 c2 hO hW
  go_enter Tryd.func12, Tryd.ntmps12
  cases b1 <;> cases b2 <;> cases b3
  all_goals
    go_upto_region 1 with (fail)
    rw [← HW.out]
    go_wp2_with (first
      | (go_at_call 28; (with_reducible refine k28.out.mono ?_); rintro e w2 ⟨rfl, m, rfl⟩)
      | (go_at_call 29; (with_reducible refine (k29.out m).mono ?_); rintro e w3 ⟨rfl, m2, rfl⟩))
    go_ret
    first
      | exact ⟨rfl, HO.out⟩
      | exact ⟨rfl, below_drewB HO.out _⟩
end Go.Proofs.YtfkfaaifchafjaaDoor
