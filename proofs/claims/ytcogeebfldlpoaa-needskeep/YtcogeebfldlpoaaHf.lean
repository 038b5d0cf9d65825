/-
  The document's Set walked, with where its answer lies.
-/
import Derived.Test.YtcogeebfldlpoaaHc
set_option linter.unusedSimpArgs false
set_option linter.unusedVariables false
namespace Go.Proofs.Ytcogeebfldlpoaa
open Go.RowKit

/-- a slice whose row lies at B or above it, within the heap -/
def NewIn (B : Nat) (w : World) (v : Value) : Prop := ∀ j, v.ownBlock = some j → B ≤ j ∧ j < w.heap.size

theorem NewIn.mono {B C : Nat} {w w' : World} {v : Value} (h : NewIn B w v) (hc : C ≤ B) (hs : w.heap.size ≤ w'.heap.size) : NewIn C w' v := fun j e => ⟨Nat.le_trans hc (h j e).1, Nat.lt_of_lt_of_le (h j e).2 hs⟩
theorem newIn_nil (B : Nat) (w : World) : NewIn B w (.slice none 0 0) := fun j e => by cases e

theorem app_txtF (V : World) (ao : Option Addr) (n cap : Nat) (xs ys : List Txt) (v2 : Value) (hn : xs.length = n) (h1 : LiesS V (.slice ao n cap) xs) (h2 : LiesS V v2 ys) (hg : ys = [] ∨ cap < n + ys.length) (h63 : n + ys.length ≤ 10000000) :
    ∃ u V', (Builtin.append_ #[22, 22] 22 #[.slice ao n cap, v2]).run Try.prog V = .ok u V' ∧ LiesS V' u (xs ++ ys) ∧ Old V V' ∧ (0 < ys.length → NewIn V.heap.size V' u) := by
  subst hn
  obtain ⟨i, hi, hz0, hz1, hz2⟩ := info_parts Try.inf9
  have h1' := h1
  obtain ⟨_, _, e, hle, hno, hc⟩ := h1'
  cases e
  obtain ⟨a2, c2, rfl, hle2, hno2, hc2⟩ := h2
  rcases List.eq_nil_or_concat ys with rfl | ⟨_, _, hy⟩
  · refine ⟨_, _, run_append_nothing V 22 22 22 9 i Try.underlying22s hi ao xs.length cap hle _ ?_, by simpa using h1, Below.refl _ _, fun h => absurd h (by simp)⟩
    cases a2 with
    | none => exact Src.ofNil V Try.underlying22s _
    | some a => exact Src.ofSlice V Try.underlying22s a 0 c2 [] (by simp) (fun j u h => by simp at h) (fun u h => by simp at h)
  · have hpos : 0 < ys.length := by rw [hy]; simp
    have hg' : cap < xs.length + ys.length := by
      rcases hg with rfl | h
      · simp at hpos
      · exact h
    obtain ⟨a2, rfl⟩ : ∃ a, a2 = some a := by
      cases a2 with
      | none => have := hno2 rfl; omega
      | some a => exact ⟨a, rfl⟩
    cases ao with
    | some b =>
      obtain ⟨v', V', r1, r2, r3⟩ := run_append_arg_grows (P := Try.prog) V 22 22 9 i (.string ⟨#[]⟩) 1 16 Try.underlying22s hi hz0 hz1 hz2 rfl (by decide) b xs.length cap (xs.map encStr) (by simp) (hc b rfl) a2 ys.length c2 (ys.map encStr) (by simp) (hc2 a2 rfl) hg' (by unfold maxLen; omega) (by omega)
      refine ⟨v', V', r1, lies_own (n := xs.length + ys.length) (by simp) (by simpa using r2), (Below.refl _ V).grown r3 (Nat.le_refl _) (fun k hk => by cases hk), fun _ j e => owns_lt r2 j e⟩
    | none =>
      have := hno rfl
      subst this
      obtain rfl : xs = [] := List.eq_nil_of_length_eq_zero (by omega)
      obtain ⟨v', V', r1, r2, r3, _⟩ := run_append_own (P := Try.prog) V V.heap.size 22 22 9 i (.string ⟨#[]⟩) 1 16 Try.underlying22s hi hz0 hz1 hz2 rfl (by decide) (.slice none 0 0) 0 [] (World.ownsRow_nil V _ 9 1) a2 ys.length c2 (ys.map encStr) (by simp) (hc2 a2 rfl) (strs_one ys) (by unfold maxLen; simp at h63; omega) (by simp at h63; omega) (Nat.le_refl _)
      refine ⟨v', V', r1, lies_own (n := 0 + ys.length) (by simp) (by simpa using r2), (Below.refl _ V).grown r3 (Nat.le_refl _) (fun k hk => by simp [Value.ownBlock] at hk), fun _ j e => owns_lt r2 j e⟩

/-- the same at any world in which the row of one stands -/
theorem ins_runs2F (V : World) (g : Nat) (ao : Option Addr) (n cap k : Nat) (out : List Txt) (x : ByteArray) (h : LiesS V (.slice ao n cap) out) (hx : LiesS V (.slice (some ⟨g, 0, none⟩) 1 1) [x.data.toList]) (hk : k ≤ n) (hl : n ≤ 1000000) :
    ∃ u2 V2 u3 V3, (Builtin.append_ #[22, 22] 22 #[.slice (some ⟨g, 0, none⟩) 1 1, .slice (if cap = k then ao else ao.map (·.add k)) (n - k) (cap - k)]).run Try.prog V = .ok u2 V2
      ∧ (Builtin.append_ #[22, 22] 22 #[.slice ao k k, u2]).run Try.prog V2 = .ok u3 V3 ∧ LiesS V3 u3 (out.take k ++ x.data.toList :: out.drop k) ∧ Old V V3 ∧ NewIn V.heap.size V3 u3 := by
  have hn : out.length = n := by obtain ⟨_, _, e, _⟩ := h; cases e; rfl
  obtain ⟨u2, V2, r2, l2, o2, _⟩ := app_txtF _ _ 1 1 [x.data.toList] (out.drop k) _ rfl hx (lies_tail h hk) (by
    by_cases e : out.drop k = []
    · exact .inl e
    · right
      have := List.length_pos_iff.2 e
      omega) (by simp; omega)
  have hh := lies_head h hk
  rw [map_add0] at hh
  obtain ⟨u3, V3, r3, l3, o3, f3⟩ := app_txtF V2 _ k k (out.take k) ([x.data.toList] ++ out.drop k) u2 (by simp; omega) (hh.old o2) l2 (.inr (by simp)) (by simp; omega)
  exact ⟨u2, V2, u3, V3, r2, r3, by simpa using l3, o2.trans (o3.mono o2.size), (f3 (by simp)).mono o2.size (Nat.le_refl _)⟩

def SetPF (w : World) (ss : List Txt) (e : Ending) (w' : World) : Prop := ∃ v out, e = .returned v ∧ LiesS w' v out ∧ SetOf out ss ∧ Old w w' ∧ NewIn w.heap.size w' v

def SetSF (w wr : World) (v : Value) (ss : List Txt) : Prop := ∃ ao n cap out, v = .slice ao n cap ∧ LiesS wr v out ∧ SetOf out ss ∧ Old w wr ∧ NewIn w.heap.size wr v

set_option maxRecDepth 20000 in
set_option maxHeartbeats 4000000 in
theorem set_walkF (w : World) (v : Value) (ss : List Txt) (hv : LiesS w v ss) (hl : ss.length ≤ 1000000) : Calls Try.prog 18 #[v] w (SetPF w ss) := by
  have H1 := mkHid hv
  obtain ⟨ao, cap, rfl, -⟩ := hv
  obtain ⟨m, hm⟩ : ∃ m, m = ss.length := ⟨_, rfl⟩
  rw [← hm] at hl ⊢
  have HM := mkHid hm
  have HL := mkHid hl
  clear hm hl
  go_enter Try.func18, Try.ntmps18
  go_wp2
  go_loopw [3, 9] (fun u i wr => ∃ k : Nat, k ≤ m ∧ i = .int .i64 k ∧ Hid (SetSF w wr u (ss.take k))) (fun _ i _ => m - (intOf i).toNat)
  case atStart => exact ⟨0, by omega, rfl, mkHid ⟨none, 0, 0, [], rfl, ⟨none, 0, rfl, by simp, fun _ => rfl, fun a h => by cases h⟩, ⟨by simp, by simp, by simp⟩, Below.refl _ _, newIn_nil _ _⟩⟩
  case round =>
    obtain ⟨k, hk, rfl, HS⟩ := hrel
    obtain ⟨wo, hwo⟩ : ∃ wo, wo = wr := ⟨_, rfl⟩
    subst hwo
    by_cases hkm : k < m
    · obtain ⟨a1, n1, c1, out, rfl, r1, r2, r3, r4⟩ := HS.out
      have hno : n1 ≤ k := by
        obtain ⟨_, _, e, _⟩ := r1
        cases e
        have := r2.2.2
        rw [List.length_take] at this
        omega
      have hn1 : out.length = n1 := by obtain ⟨_, _, e, _⟩ := r1; cases e; rfl
      obtain ⟨b0, o0, c0, e0, hc0, hh0⟩ := (H1.out.old r3).form (by rw [← HM.out]; omega)
      obtain rfl : ao = some ⟨b0, o0, none⟩ := by cases e0; rfl
      obtain rfl : c0 = cap := by cases e0; rfl
      have hr1 : wo.cell? ⟨b0, o0 + k, none⟩ = some (.string (str (ss.getD k []))) := hh0 k (by rw [← HM.out]; exact hkm)
      obtain ⟨s, hs⟩ : ∃ s, s = str (ss.getD k []) := ⟨_, rfl⟩
      rw [← hs] at hr1
      have hsl : ss.getD k [] = s.data.toList := by rw [hs]; rfl
      have hk0 : (k : Int) < (m : Int) := by omega
      have hwk : wrap64 ((k : Int) + 1) = (k : Int) + 1 := by have := HL.out; unfold wrap64; omega
      have HWK := mkHid hwk
      have htk : ss.take (k + 1) = ss.take k ++ [s.data.toList] := by
        rw [← hsl, List.take_add_one, List.getD_eq_getElem?_getD, List.getElem?_eq_getElem (by rw [← HM.out]; exact hkm)]; rfl
      have HTK := mkHid htk
      obtain ⟨q, hq⟩ : ∃ q, q = decide (s.data.toList ∈ out) := ⟨_, rfl⟩
      have HC := mkHid (din_walk wo (.slice a1 n1 c1) out s r1 (by rw [hn1]; have := HL.out; omega))
      rw [← hq] at HC
      have HQ := mkHid hq
      have HR1 := mkHid r1
      have HR2 := mkHid r2
      have HR3 := mkHid r3
      have HR4 := mkHid r4
      have HN := mkHid hn1
      clear hs hsl hh0 hc0 e0 hwk htk hq r1 r2 r3 r4 hn1 HS
      cases q
      · go_upto_region 6 with (first | (go_at_call 24; (with_reducible refine HC.out.mono ?_); rintro e w2 ⟨rfl, hx⟩; have hx := hx.symm; subst hx))
        have hjw : ∀ j : Nat, 0 < j → j ≤ n1 → wrap64 ((j : Int) - 1) = ((j - 1 : Nat) : Int) := by have := HL.out; intro j h1 h2; unfold wrap64; omega
        have HJW := mkHid hjw
        clear hjw
        iterate 14 go_step
        go_cut [6] (fun u wx => ∃ j : Nat, j ≤ n1 ∧ u = .int .i64 j ∧ Hid ((∀ i, j ≤ i → i < n1 → s.data.toList < out.getD i []) ∧ (j = 0 ∨ ¬ s.data.toList < out.getD (j - 1) [])) ∧ wx = wo)
        case first =>
          go_wp2
          go_loopw [6] (fun u wx => ∃ j : Nat, j ≤ n1 ∧ u = .int .i64 j ∧ Hid (∀ i, j ≤ i → i < n1 → s.data.toList < out.getD i []) ∧ wx = wo) (fun u _ => (intOf u).toNat)
          case atStart => exact ⟨n1, Nat.le_refl _, rfl, mkHid (fun i h1 h2 => by omega), rfl⟩
          case round =>
            obtain ⟨j, hj, rfl, HJ, hwx⟩ := hrel
            subst hwx
            by_cases hj0 : 0 < j
            · obtain ⟨b2, o2, c2, e2, hc2, hh2⟩ := HR1.out.form (by rw [HN.out]; omega)
              obtain rfl : a1 = some ⟨b2, o2, none⟩ := by cases e2; rfl
              obtain rfl : c2 = c1 := by cases e2; rfl
              have hr2 : wr.cell? ⟨b2, o2 + (j - 1), none⟩ = some (.string (str (out.getD (j - 1) []))) := hh2 (j - 1) (by rw [HN.out]; omega)
              obtain ⟨y, hy⟩ : ∃ y, y = str (out.getD (j - 1) []) := ⟨_, rfl⟩
              have hyl : out.getD (j - 1) [] = y.data.toList := by rw [hy]; rfl
              rw [← hy] at hr2
              have HYL := mkHid hyl
              have hjz : (0 : Int) < (j : Int) := by omega
              have hjn : ((j - 1 : Nat) : Int) < (n1 : Int) := by omega
              have hw1 := HJW.out j hj0 hj
              clear hh2 hc2 e2 hy hyl
              by_cases hlt : s.data.toList < y.data.toList
              · have f1 : Op.bytesLess y.toList s.toList = false := by rw [bytesLess_eq, ByteArray.toList_eq, ByteArray.toList_eq]; simpa using txt_asym hlt
                have f2 : (y.toList == s.toList) = false := by rw [ByteArray.toList_eq, ByteArray.toList_eq]; simpa using (fun e : y.data.toList = s.data.toList => txt_irr _ (e ▸ hlt))
                have HLT := mkHid hlt
                clear hlt
                go_wp2
                go_roundw
                case rel =>
                  refine ⟨j - 1, by omega, by first | rfl | rw [hw1], mkHid (fun i h1 h2 => ?_), trivial⟩
                  rcases (show i = j - 1 ∨ j ≤ i by omega) with rfl | h
                  · rw [HYL.out]; exact HLT.out
                  · exact HJ.out i h h2
                case measure =>
                  rw [hw1]
                  exact measD hj0
              · have f1 : (!Op.bytesLess y.toList s.toList && !(y.toList == s.toList)) = false := by
                  rw [bytesLess_eq, ByteArray.toList_eq, ByteArray.toList_eq]
                  rcases List.le_iff_lt_or_eq.1 (List.not_lt.1 hlt) with h3 | h3
                  · simp [h3]
                  · simp [h3]
                have HLT := mkHid hlt
                clear hlt
                go_wp2
                go_meet
                case rel => exact ⟨j, hj, rfl, mkHid ⟨HJ.out, .inr (by rw [HYL.out]; exact HLT.out)⟩, rfl⟩
            · obtain rfl : j = 0 := by omega
              go_wp2
              go_meet
              case rel => exact ⟨0, by omega, rfl, mkHid ⟨HJ.out, .inl rfl⟩, rfl⟩
        case rest =>
          obtain ⟨j, hj, rfl, HJ, hwx⟩ := hcut
          subst hwx
          obtain ⟨V, hV⟩ : ∃ V, V = wc.drew := ⟨_, rfl⟩
          have hOV : Old wc V := by rw [hV]; exact (Below.refl _ _).drew
          have hO1 : Old wc (V.alloc (.cells #[.string s] 9)) := hOV.trans ((Below.refl _ _).alloc hOV.size _)
          obtain ⟨u2, V2, u3, V3, q1, q2, q3, q4, q5⟩ := ins_runs2F (V.alloc (.cells #[.string s] 9)) V.heap.size a1 n1 c1 j out s (HR1.out.old hO1) (lies_one V s) hj (by have := HL.out; omega)
          have hcn : n1 ≤ c1 := by
            obtain ⟨_, _, e, h, _⟩ := HR1.out
            cases e
            rw [← HN.out]
            exact h
          have hjc : j ≤ c1 := by omega
          have hOld := HR3.out.trans ((hO1.trans (q4.mono hO1.size)).mono HR3.out.size)
          have HQ3 := mkHid q3
          have HQ5 : Hid (NewIn w.heap.size V3 u3) := q5.mono (Nat.le_trans HR3.out.size hO1.size) (Nat.le_refl _)
          have HOLD := mkHid hOld
          have HQ1 := mkHid q1
          have HQ2 := mkHid q2
          have HV := mkHid hV
          clear q1 q2 q3 q4 q5 hOld hO1 hV hOV
          go_upto_region 9 with (fail)
          refine Rt.wp_region_phases (by kernel_rfl) (by kernel_rfl) [5, 9, 10] (by decide) (by decide) (Ph5 V (V.alloc (.cells #[.string s] 9)) V2 V3) (fun _ _ => False) HV.out.symm (fun _ _ _ _ h => h.elim) ?_
          iterate 5
            (refine Rt.wpP_pure (by rfl) (by rfl) ?_ (fun w9 => ?_) (fun K hK => ?_)
             rotate_left 1
             · go_simp
               refine Rt.upT_value ?_; rfl
             go_simp
             refine hK _ _ ?_
             clear hK K)
          refine Rt.wpP_one (by rfl) 0 (by kernel_rfl) (by kernel_rfl) (by rfl) (.slice (some ⟨V.heap.size, 0, none⟩) 1 1) (fun w9 hk => ?_) (fun K hK => ?_)
          · obtain rfl : w9 = V := hk
            go_simp
            refine Rt.upT_value ?_; rfl
          go_simp
          refine hK _ _ ?_
          clear hK K
          iterate 3
            (refine Rt.wpP_pure (by rfl) (by rfl) ?_ (fun w9 => ?_) (fun K hK => ?_)
             rotate_left 1
             · go_simp
               refine Rt.upT_value ?_; rfl
             go_simp
             refine hK _ _ ?_
             clear hK K)
          refine Rt.wpP_one (by rfl) 1 (by kernel_rfl) (by kernel_rfl) (by rfl) u2 (fun w9 hk => ?_) (fun K hK => ?_)
          · obtain rfl : w9 = V.alloc (.cells #[.string s] 9) := hk
            refine upT_append2 (t := 22) (.tmp 36) (.tmp 39) ?_ _ _ rfl rfl (w' := V2) HQ1.out ?_
            · rfl
            · rfl
          go_simp
          refine hK _ _ ?_
          clear hK K
          refine Rt.wpP_one (by rfl) 2 (by kernel_rfl) (by kernel_rfl) (by rfl) u3 (fun w9 hk => ?_) (fun K hK => ?_)
          · obtain rfl : w9 = V2 := hk
            refine upT_append2 (t := 22) (.tmp 34) (.tmp 40) ?_ _ _ rfl rfl (w' := V3) HQ2.out ?_
            · rfl
            · rfl
          go_simp
          refine hK _ _ ?_
          clear hK K
          refine Rt.wpP_pure (by rfl) (by rfl) ?_ (fun w9 => ?_) (fun K hK => ?_)
          rotate_left 1
          · go_simp
            refine Rt.upT_value ?_; rfl
          go_simp
          refine hK _ _ ?_
          clear hK K
          refine Rt.wpP_end fun _ w9 hk => ?_
          obtain rfl : w9 = V3 := hk
          go_wp2
          go_roundw
          case rel =>
            refine ⟨k + 1, by omega, by rw [HWK.out]; rfl, ?_⟩
            show SetSF _ _ _ _
            rw [HTK.out]
            obtain ⟨a3, c3, e3, _⟩ := HQ3.out
            exact ⟨a3, _, c3, _, e3, HQ3.out, setOf_put HR2.out (by simpa using HQ.out.symm) (by rw [HN.out]; exact hj) (by rw [HN.out]; exact HJ.out.1) HJ.out.2, HOLD.out, HQ5.out⟩
          case measure => exact (by rw [HWK.out]; exact meas hkm)
      · go_wp2_with (first | (go_at_call 24; (with_reducible refine HC.out.mono ?_); rintro e w2 ⟨rfl, hx⟩; have hx := hx.symm; subst hx))
        go_roundw
        case rel =>
          refine ⟨k + 1, by omega, by rw [HWK.out]; rfl, ?_⟩
          show SetSF _ _ _ _
          rw [HTK.out]
          exact ⟨a1, n1, c1, out, rfl, HR1.out, setOf_skip HR2.out (by simpa using HQ.out.symm), HR3.out, HR4.out⟩
        case measure => exact (by rw [HWK.out]; exact meas hkm)
    · have hkk : k = m := by omega
      subst hkk
      go_wp2
      go_ret
      obtain ⟨a1, n1, c1, out, rfl, r1, r2, r3, r4⟩ := HS.out
      refine ⟨_, out, rfl, r1, ?_, r3, r4⟩
      rw [HM.out, List.take_length] at r2
      exact r2
end Go.Proofs.Ytcogeebfldlpoaa
