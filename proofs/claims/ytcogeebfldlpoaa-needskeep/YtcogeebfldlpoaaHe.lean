/-
  Heads walked.
-/
import Derived.Test.YtcogeebfldlpoaaHg
import Derived.Test.YtcogeebfldlpoaaFb
set_option linter.unusedSimpArgs false
set_option linter.unusedVariables false
namespace Go.Proofs.Ytcogeebfldlpoaa
open Go.RowKit
open Go.Proofs.NeedsPlain (Hd names getD_set)

def HeadsP (w : World) (e : Ending) (w' : World) : Prop := ∃ v hs cs, e = .returned v ∧ HBag w.heap.size w' v hs cs ∧ GoodH hs ∧ Old w w'

set_option maxRecDepth 20000 in
set_option maxHeartbeats 8000000 in
theorem heads_walk (w : World) (v : Value) (n : Nat) (hv : Rows2 w v n) : Calls Try.prog 17 #[v] w (HeadsP w) := by
  have H1 := mkHid hv
  obtain ⟨ao, cap, rfl, -⟩ := hv
  go_enter Try.func17, Try.ntmps17
  go_wp2
  go_loopw [3, 4] (fun u i wr => ∃ k : Nat, k ≤ 10 ∧ k ≤ n ∧ i = .int .i64 k ∧ Hid (HdL w k u wr)) (fun _ i _ => 10 - (intOf i).toNat)
  case atStart => exact ⟨0, by omega, by omega, rfl, mkHid ⟨[], [], HBag.nil _ _, rfl, GoodH.nil, Below.refl _ _⟩⟩
  case round =>
    obtain ⟨i, hi10, hin, rfl, HS⟩ := hrel
    obtain ⟨wo, hwo⟩ : ∃ wo, wo = wr := ⟨_, rfl⟩
    subst hwo
    by_cases hgo : i < n ∧ i < 10
    · obtain ⟨h1, h2⟩ := hgo
      obtain ⟨hs, cs, c1, c2, c3, c4⟩ := HS.out
      obtain ⟨b0, o0, cap0, u0, zs, e0, hcell, hz⟩ := (H1.out.old c4).at h1
      obtain rfl : ao = some ⟨b0, o0, none⟩ := by cases e0; rfl
      obtain rfl : cap0 = cap := by cases e0; rfl
      obtain ⟨uo, hs1⟩ := c1.shape
      obtain ⟨ucap, rfl⟩ := hs1
      rw [c2] at HS
      obtain ⟨nm, hnm⟩ : ∃ s, s = str (N10.getD i []) := ⟨_, rfl⟩
      have hc10 : (wo.alloc (.cells n10A 9)).cell? ⟨wo.heap.size, i, none⟩ = some (.string nm) := by
        rw [cell_of_row _ _ _ _ 9 (0, 0) (h10 wo _), hnm]
        exact n10A_at i h2
      have hone := one_cell (nm := nm) (tg := false) (lies_nil wo)
      have hsr : ∀ c, ((wo.alloc (.cells n10A 9)).alloc (.cells hd0A 24)).setRow (wo.heap.size + 1) c = (wo.alloc (.cells n10A 9)).alloc (.cells c 24) := fun c => by
        have := World.setRow_alloc_new (wo.alloc (.cells n10A 9)) hd0A c 24
        rw [show (wo.alloc (.cells n10A 9)).heap.size = wo.heap.size + 1 by simp] at this
        exact this
      have hi1 : (i : Int) < (n : Int) := by omega
      have hi2 : (i : Int) < 10 := by omega
      have HC := mkHid hcell
      have HZ := mkHid hz
      have HC1 := mkHid c1
      have HC2 := mkHid c2
      have HC3 := mkHid c3
      have HC4 := mkHid c4
      have HNM := mkHid hnm
      have HSR := mkHid hsr
      have HONE := mkHid hone
      have HI2 := mkHid h2
      have HI1 := mkHid h1
      clear hcell hz c1 c2 c3 c4 hnm hsr hone h1 h2 HS e0
      go_upto_region 6 with (first
        | ((with_reducible refine at_op (.store 24 (.tmp 5) (.tmp 21)) ?_)
           refine wpList_store_row rfl 24 (.tmp 5) (.tmp 21) rfl (wo.heap.size + 1) _ rfl rfl 24 hd0A (h21 _ _ _) size24 rfl HONE.out ?_
           rw [HSR.out]))
      obtain ⟨X1, hX1⟩ : ∃ X1, X1 = (wo.alloc (.cells n10A 9)).alloc (.cells #[.string nm, .bool false, .slice none 0 0] 24) := ⟨_, rfl⟩
      have hIn : InL wo (wo.heap.size + 1) i 0 nm X1 := by
        rw [hX1]
        exact ⟨.slice none 0 0, [], h21 _ _ _, World.ownsRow_nil _ _ 9 1, rfl, (fun x hx => by cases hx), old2 _ _ _⟩
      have HIN := mkHid hIn
      have hX1' : (wo.alloc (.cells #[.string ⟨#[107]⟩, .string ⟨#[99]⟩, .string ⟨#[120]⟩, .string ⟨#[97]⟩, .string ⟨#[109]⟩, .string ⟨#[98]⟩, .string ⟨#[122]⟩, .string ⟨#[102]⟩, .string ⟨#[100]⟩, .string ⟨#[112]⟩] 9)).alloc (.cells #[.string nm, .bool false, .slice none 0 0] 24) = X1 := hX1.symm
      rw [hX1']
      obtain ⟨q, hq⟩ : ∃ q, q = wo.heap.size + 1 := ⟨_, rfl⟩
      rw [← hq] at HIN ⊢
      have HQ := mkHid hq
      clear hX1 hX1' hIn hq HSR HONE hc10
      iterate 7 go_step
      obtain ⟨a2, cap2, hu0, -⟩ := HZ.out
      obtain ⟨m, hm⟩ : ∃ m, m = zs.length := ⟨_, rfl⟩
      rw [← hm] at hu0
      subst hu0
      have HM := mkHid hm
      clear hm
      go_cut [6] (fun u wx => ∃ j : Nat, u = .int .i64 j ∧ Hid (j ≤ 3 ∧ InL wo q i j nm wx))
      case first =>
        go_wp2
        go_loopw [6] (fun u wx => ∃ j : Nat, j ≤ 3 ∧ u = .int .i64 j ∧ Hid (InL wo q i j nm wx)) (fun u _ => 3 - (intOf u).toNat)
        case atStart => exact ⟨0, by omega, rfl, HIN⟩
        case round =>
          obtain ⟨j, hj, rfl, HJ⟩ := hrel
          have hOw : Old wo wr := by obtain ⟨_, _, _, _, _, _, h⟩ := HJ.out; exact h
          have hcell : wr.cell? ⟨b0, o0 + i, none⟩ = some (.slice a2 m cap2) := cell_old hOw HC.out
          by_cases hjm : j < m
          · have hjm1 : (j : Int) < (m : Int) := by omega
            by_cases hj3 : j < 3
            · have hj31 : (j : Int) < 3 := by omega
              by_cases hi0 : 0 < i
              · have hi01 : (0 : Int) < (i : Int) := by omega
                go_upto_region 9 with (fail)
                have hjml : j < zs.length := by rw [← HM.out]; exact hjm
                obtain ⟨b2, o2, cap3, e2, hz2⟩ := (HZ.out.old hOw).form (by omega)
                rw [← HM.out] at e2
                obtain rfl : a2 = some ⟨b2, o2, none⟩ := by cases e2; rfl
                have hcz := hz2 j hjml
                obtain ⟨z, hz⟩ : ∃ z, z = zs.getD j 0 := ⟨_, rfl⟩
                rw [← hz] at hcz
                have KW := mkHid (fun w1 => within_walk z i hi01 (by have := HI2.out; omega) w1)
                obtain ⟨r, hr⟩ : ∃ r : Nat, z % (i : Int) = (r : Int) := ⟨(z % (i : Int)).toNat, by have := Int.emod_nonneg z (show (i : Int) ≠ 0 by omega); omega⟩
                have hri : r < i := by have := Int.emod_lt_of_pos z hi01; omega
                rw [hr] at KW
                have hbag := HC1.out.old hOw
                obtain ⟨g, ucap', hu, hucap, hgB, hrow⟩ := hbag.hrow (by rw [HC2.out]; exact hi0)
                obtain rfl : uo = some ⟨g, 0, none⟩ := by cases hu; rfl
                obtain ⟨tg, nv0, hrg, _, _⟩ := hrow.at' r (by rw [HC2.out]; exact hri)
                obtain ⟨x, hx⟩ : ∃ x, x = str (hs.getD r hd0).1 := ⟨_, rfl⟩
                have hcx : wr.cell? ⟨g, r * 3, none⟩ = some (.string x) := by
                  have := hrg 0 (.string (str (hs.getD r hd0).1)) rfl
                  rw [← hx] at this
                  simpa using this
                have hx2 : ∃ k, k < i ∧ x.data.toList = N10.getD k [] := ⟨r, hri, by
                  rw [hx]
                  exact HC3.out.nm r (by rw [HC2.out]; exact hri)⟩
                obtain ⟨nv, u, V2, p1, p2, p3, p4, p5, p6, u9, uc9, hu9⟩ := HJ.out.put (by rw [HQ.out]; omega) hj3 hx2
                obtain ⟨V, hV⟩ : ∃ V, V = wr.drew := ⟨_, rfl⟩
                have hszV : V.heap.size = wr.heap.size := by rw [hV]; rfl
                obtain ⟨V1, hV1⟩ : ∃ V1, V1 = V.alloc (.cells #[.string x] 9) := ⟨_, rfl⟩
                rw [← hV, ← hV1] at p2 p3
                rw [← hV] at p1
                have d1 : V.cell? ⟨b0, o0 + i, none⟩ = some (.slice (some ⟨b2, o2, none⟩) m cap2) := by rw [hV]; exact hcell
                have d2 : V.cell? ⟨b2, o2 + j, none⟩ = some (.int .i64 z) := by rw [hV]; exact hcz
                have d3 : V.cell? ⟨g, r * 3, none⟩ = some (.string x) := by rw [hV]; exact hcx
                have hri1 : (r : Int) < (hs.length : Int) := by rw [HC2.out]; omega
                have hwj : wrap64 ((j : Int) + 1) = (j : Int) + 1 := wrap_small (by omega)
                have HWJ := mkHid hwj
                have HP3 := mkHid p3
                have HP6 := mkHid p6
                have HV := mkHid hV
                have HV1 := mkHid hV1
                rw [← hszV] at HP3
                have HHJ := mkHid hj3
                subst hu9
                clear p3 p6 hV hV1 hx2 hcx hx hrg hrow hu hucap hgB hbag hr hz hz2 e2 hjml hri hszV hcz hcell HJ hwj
                refine Rt.wp_region_phases (by kernel_rfl) (by kernel_rfl) [15, 16, 18] (by decide) (by decide) (Ph5 V V1 V2 (V2.setCell ⟨q, 2, none⟩ (.slice u9 (j + 1) uc9))) (fun _ _ => False) HV.out.symm (fun _ _ _ _ h => h.elim) ?_
                refine Rt.wpP_pure (by rfl) (by rfl) ?_ (fun w9 => ?_) (fun K hK => ?_)
                rotate_left 1
                · go_simp
                  refine Rt.upT_value ?_; rfl
                go_simp
                refine hK _ _ ?_
                clear hK K
                refine Rt.wpP_read (by rfl) 0 1 (by kernel_rfl) (by kernel_rfl) (by rfl) (nv) (fun k1 hk1 hk2 w9 hk => ?_) (fun K hK => ?_)
                · rcases (show k1 = 0 ∨ k1 = 1 by omega) with rfl | rfl
                  · obtain rfl : w9 = V := hk
                    go_simp
                    refine Rt.upT_value ?_; rfl
                  · obtain rfl : w9 = V1 := hk
                    go_simp
                    refine Rt.upT_value ?_; rfl
                go_simp
                refine hK _ _ ?_
                clear hK K
                refine Rt.wpP_pure (by rfl) (by rfl) ?_ (fun w9 => ?_) (fun K hK => ?_)
                rotate_left 1
                · go_simp
                  refine Rt.upT_value ?_; rfl
                go_simp
                refine hK _ _ ?_
                clear hK K
                refine Rt.wpP_pure (by rfl) (by rfl) ?_ (fun w9 => ?_) (fun K hK => ?_)
                rotate_left 1
                · go_simp
                  refine Rt.upT_value ?_; rfl
                go_simp
                refine hK _ _ ?_
                clear hK K
                refine Rt.wpP_pure (by rfl) (by rfl) ?_ (fun w9 => ?_) (fun K hK => ?_)
                rotate_left 1
                · go_simp
                  refine Rt.upT_value ?_; rfl
                go_simp
                refine hK _ _ ?_
                clear hK K
                refine Rt.wpP_pure (by rfl) (by rfl) ?_ (fun w9 => ?_) (fun K hK => ?_)
                rotate_left 1
                · go_simp
                  refine Rt.upT_value ?_; rfl
                go_simp
                refine hK _ _ ?_
                clear hK K
                refine Rt.wpP_read (by rfl) 0 0 (by kernel_rfl) (by kernel_rfl) (by rfl) (.slice (some ⟨b2, o2, none⟩) m cap2) (fun k1 hk1 hk2 w9 hk => ?_) (fun K hK => ?_)
                · obtain rfl : k1 = 0 := by omega
                  obtain rfl : w9 = V := hk
                  go_simp
                  refine Rt.upT_value ?_; rfl
                go_simp
                refine hK _ _ ?_
                clear hK K
                refine Rt.wpP_pure (by rfl) (by rfl) ?_ (fun w9 => ?_) (fun K hK => ?_)
                rotate_left 1
                · go_simp
                  refine Rt.upT_value ?_; rfl
                go_simp
                refine hK _ _ ?_
                clear hK K
                refine Rt.wpP_pure (by rfl) (by rfl) ?_ (fun w9 => ?_) (fun K hK => ?_)
                rotate_left 1
                · go_simp
                  refine Rt.upT_value ?_; rfl
                go_simp
                refine hK _ _ ?_
                clear hK K
                refine Rt.wpP_read (by rfl) 0 0 (by kernel_rfl) (by kernel_rfl) (by rfl) (.int .i64 z) (fun k1 hk1 hk2 w9 hk => ?_) (fun K hK => ?_)
                · obtain rfl : k1 = 0 := by omega
                  obtain rfl : w9 = V := hk
                  go_simp
                  refine Rt.upT_value ?_; rfl
                go_simp
                refine hK _ _ ?_
                clear hK K
                refine Rt.wpP_pure (by rfl) (by rfl) ?_ (fun w9 => ?_) (fun K hK => ?_)
                rotate_left 1
                · go_simp
                  refine Rt.upT_value ?_; rfl
                go_simp
                refine hK _ _ ?_
                clear hK K
                refine Rt.wpP_read (by rfl) 0 0 (by kernel_rfl) (by kernel_rfl) (by rfl) (.int .i64 (r : Int)) (fun k1 hk1 hk2 w9 hk => ?_) (fun K hK => ?_)
                · obtain rfl : k1 = 0 := by omega
                  obtain rfl : w9 = V := hk
                  go_simp
                  refine Rt.upT_call (v := .int .i64 (r : Int)) ?_
                  go_at_call 9
                  refine (KW.out _).mono ?_
                  rintro e w8 ⟨rfl, rfl⟩
                  exact ⟨rfl, rfl⟩
                go_simp
                refine hK _ _ ?_
                clear hK K
                refine Rt.wpP_pure (by rfl) (by rfl) ?_ (fun w9 => ?_) (fun K hK => ?_)
                rotate_left 1
                · go_simp
                  refine Rt.upT_value ?_; rfl
                go_simp
                refine hK _ _ ?_
                clear hK K
                refine Rt.wpP_pure (by rfl) (by rfl) ?_ (fun w9 => ?_) (fun K hK => ?_)
                rotate_left 1
                · go_simp
                  refine Rt.upT_value ?_; rfl
                go_simp
                refine hK _ _ ?_
                clear hK K
                refine Rt.wpP_read (by rfl) 0 0 (by kernel_rfl) (by kernel_rfl) (by rfl) (.string x) (fun k1 hk1 hk2 w9 hk => ?_) (fun K hK => ?_)
                · obtain rfl : k1 = 0 := by omega
                  obtain rfl : w9 = V := hk
                  go_simp
                  refine Rt.upT_value ?_; rfl
                go_simp
                refine hK _ _ ?_
                clear hK K
                refine Rt.wpP_one (by rfl) 0 (by kernel_rfl) (by kernel_rfl) (by rfl) (.slice (some ⟨V.heap.size, 0, none⟩) 1 1) (fun w9 hk => ?_) (fun K hK => ?_)
                · obtain rfl : w9 = V := hk
                  go_simp
                  refine Rt.upT_value ?_; exact HV1.out.symm
                go_simp
                refine hK _ _ ?_
                clear hK K
                refine Rt.wpP_one (by rfl) 1 (by kernel_rfl) (by kernel_rfl) (by rfl) (.slice u9 (j + 1) uc9) (fun w9 hk => ?_) (fun K hK => ?_)
                · obtain rfl : w9 = V1 := hk
                  refine upT_append2 (t := 22) (.tmp 40) (.tmp 54) ?_ _ _ rfl rfl (w' := V2) HP3.out ?_
                  · rfl
                  · rfl
                go_simp
                refine hK _ _ ?_
                clear hK K
                refine Rt.wpP_pure (by rfl) (by rfl) ?_ (fun w9 => ?_) (fun K hK => ?_)
                rotate_left 1
                · go_simp
                  refine Rt.upT_value ?_; rfl
                go_simp
                refine hK _ _ ?_
                clear hK K
                refine Rt.wpP_one (by rfl) 2 (by kernel_rfl) (by kernel_rfl) (by rfl) (undef) (fun w9 hk => ?_) (fun K hK => ?_)
                · obtain rfl : w9 = V2 := hk
                  go_simp
                  refine Rt.upT_skip ?_; rfl
                go_simp
                refine hK _ _ ?_
                clear hK K
                refine Rt.wpP_end fun _ w9 hk => ?_
                obtain rfl : w9 = V2.setCell ⟨q, 2, none⟩ (.slice u9 (j + 1) uc9) := hk
                go_wp2
                go_roundw
                case rel => exact ⟨j + 1, by have := HHJ.out; omega, by rfl, HP6⟩
                case measure => show 3 - ((j : Int) + 1).toNat < 3 - (j : Int).toNat; have := HHJ.out; omega
              · have hi01 : (i : Int) ≤ 0 := by omega
                go_wp2
                go_meet
                case rel => exact ⟨j, rfl, mkHid ⟨hj, HJ.out⟩⟩
            · have hj31 : 3 ≤ (j : Int) := by omega
              go_wp2
              go_meet
              case rel => exact ⟨j, rfl, mkHid ⟨hj, HJ.out⟩⟩
          · have hjm1 : (m : Int) ≤ (j : Int) := by omega
            go_wp2
            go_meet
            case rel => exact ⟨j, rfl, mkHid ⟨hj, HJ.out⟩⟩
      case rest =>
        obtain ⟨j, rfl, HJ⟩ := hcut
        obtain ⟨hj3, nv, nd, b1, b2, b3, b4, b5⟩ := HJ.out
        obtain ⟨ao9, c9, hnv⟩ : ∃ ao c, nv = .slice ao j c := by
          rcases b2.2 with ⟨rfl, e⟩ | ⟨g, cap, cur, rfl, _⟩
          · exact ⟨none, 0, by rw [e]⟩
          · exact ⟨_, _, rfl⟩
        subst hnv
        have KS := mkHid (set_walkF wc _ nd (lies_own b3 b2) (by omega))
        have hq2 := (cell3 b1).2.2
        have B1 := mkHid b1
        have B3 := mkHid b3
        have B4 := mkHid b4
        have B5 := mkHid b5
        have HJ3 := mkHid hj3
        clear b1 b2 b3 b4 b5 HJ hj3
        go_upto_region 11 with (first
          | (go_at_call 18; (with_reducible refine KS.out.mono ?_); rintro e w5 ⟨u, out, rfl, l5, s5, o5, n5⟩; have hb5 := block_old o5 B1.out; have hc5 := (cell3 hb5).2.2; have hf5 := free_at hb5 2; have HB5 := mkHid hb5; have L5 := mkHid l5; have S5 := mkHid s5; have O5 := mkHid o5; have N5 := mkHid n5; obtain ⟨ao5, c5, hu5, -⟩ := l5; subst hu5; clear hb5 s5 o5 n5))
        obtain ⟨X6, hX6⟩ : ∃ X6, X6 = w5.setCell ⟨q, 2, none⟩ (.slice ao5 out.length c5) := ⟨_, rfl⟩
        rw [← hX6]
        have hrow6 : X6.heap[q]? = some (.cells #[.string nm, .bool false, .slice ao5 out.length c5] 24 (0, 0)) := by rw [hX6]; exact setCell_row HB5.out _
        have hsz6 : X6.heap.size = w5.heap.size := by rw [hX6]; simp
        have hq6 : wo.heap.size ≤ q := by rw [HQ.out]; omega
        have hold6 : Old wo X6 := by
          rw [hX6]
          exact Below.setCell (B5.out.trans (O5.out.mono B5.out.size)) hq6 _
        have hne : (Value.slice ao5 out.length c5).ownBlock ≠ some q := fun e => by
          have h1 := (N5.out q e).1
          have h2 : q < wc.heap.size := by
            rcases Nat.lt_or_ge q wc.heap.size with h' | h'
            · exact h'
            · have := B1.out; rw [Array.getElem?_eq_none h'] at this; cases this
          omega
        have hlies6 : LiesS X6 (.slice ao5 out.length c5) out := by rw [hX6]; exact L5.out.setCell q 2 _ hne
        have hbag6 := HC1.out.old hold6
        have hapt6 : Apt X6 (.slice uo hs.length ucap) (.slice ao5 out.length c5) := fun a n' c' e => by
          have e2 : (Value.slice ao5 out.length c5).ownBlock = some a.block := by rw [e]; rfl
          obtain ⟨h1, h2⟩ := N5.out _ e2
          refine ⟨by rw [hsz6]; exact h2, fun e3 => ?_⟩
          have h3 := (HC1.out.row.lt _ e3).2
          have h4 := B5.out.size
          omega
        have hgood : GoodH (hs ++ [(nm.data.toList, out)]) := HC3.out.snoc (by rw [HC2.out]; exact HI2.out) (by rw [HC2.out, HNM.out]; rfl) S5.out.1 (by have h1 := S5.out.2.2; have h2 := B3.out; have h3 := HJ3.out; omega) (fun x hx => by
          rw [HC2.out]; exact B4.out x ((S5.out.2.1 x).1 hx))
        have KA : Hid (∀ (ops : Array Oper) (rest : List Oper) (o : Oper) (a : Act) (Q : Exit → Act → World → Prop), o.guard = none → o.op = .call { callee := .builtin .append, args := #[.tmp 61, .tmp 63], argTypes := #[25, 25] } →
            a.eval (.tmp 61) = .slice uo hs.length ucap → a.eval (.tmp 63) = .slice (some ⟨X6.heap.size, 0, none⟩) 1 1 →
            (∀ v' w', Hid (HdL w (i + 1) v' w') → wpList Try.prog ops Q rest (a.put o.dst v') w') →
            wpList Try.prog ops Q (o :: rest) a (X6.alloc (.cells #[.string nm, .bool false, .slice ao5 out.length c5] 24))) := by
          intro ops rest o a Q g1 g2 g3 g4 g5
          refine wpList_appH g1 (.tmp 61) (.tmp 63) g2 w.heap.size _ hs cs g3 hbag6 ?_ (by rw [HC2.out]; have := HI2.out; omega) nm false _ out X6.heap.size rfl g4 hlies6 hapt6 ?_
          · exact Nat.le_trans HC4.out.size hold6.size
          · intro v' w' cs' q1 q2
            exact g5 _ _ (mkHid ⟨_, cs', q1, by rw [List.length_append, HC2.out]; rfl, hgood, (HC4.out.trans (hold6.mono HC4.out.size)).trans q2⟩)
        obtain ⟨fs, hfs⟩ := under24
        have hrange : X6.rangeAt q 0 [.string nm, .bool false, .slice ao5 out.length c5] := fun j u hu => by
          rw [cell_of_row _ _ _ _ 24 (0, 0) hrow6, Nat.zero_add]
          simpa using hu
        have HRANGE := mkHid hrange
        have hwi : wrap64 ((i : Int) + 1) = (i : Int) + 1 := wrap_small (by have := HI2.out; omega)
        have HWI := mkHid hwi
        clear hX6 hrow6 hsz6 hq6 hold6 hne hlies6 hbag6 hapt6 hgood hrange hq2 hc5 hf5 hwi
        go_wp2_with (first
          | ((with_reducible refine at_op (.load 24 (.tmp 5)) ?_); refine wpList_load_mid rfl 24 (.tmp 5) rfl q 0 rfl _ _ HRANGE.out hfs rfl size24 ?_)
          | ((with_reducible refine at_op (.call { callee := .builtin .append, args := #[.tmp 61, .tmp 63], argTypes := #[25, 25] }) ?_)
             refine KA.out _ _ _ _ _ rfl rfl rfl rfl (fun v4 w4 h4 => ?_)))
        go_roundw
        case rel => exact ⟨i + 1, by have := HI2.out; omega, by have := HI1.out; omega, by rfl, h4⟩
        case measure =>
          have := HI2.out
          show 10 - ((i : Int) + 1).toNat < 10 - (i : Int).toNat
          omega
    · obtain ⟨hs, cs, c1, c2, c3, c4⟩ := HS.out
      have HP := mkHid (show HBag w.heap.size wo u3 hs cs ∧ GoodH hs ∧ Old w wo from ⟨c1, c3, c4⟩)
      clear c1 c2 c3 c4 HS
      by_cases h1 : i < n
      · have h2 : 10 ≤ (i : Int) := by omega
        have h3 : (i : Int) < (n : Int) := by omega
        clear h1
        go_wp2
        go_ret
        exact ⟨_, hs, cs, rfl, HP.out⟩
      · have h3 : (n : Int) ≤ (i : Int) := by omega
        clear h1
        go_wp2
        go_ret
        exact ⟨_, hs, cs, rfl, HP.out⟩
end Go.Proofs.Ytcogeebfldlpoaa
