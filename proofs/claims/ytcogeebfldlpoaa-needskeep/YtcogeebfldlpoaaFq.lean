/-
  keep.Same of texts; Head.
-/
import Derived.Test.YtcogeebfldlpoaaCa
set_option linter.unusedSimpArgs false
set_option linter.unusedVariables false
namespace Go.Proofs.Ytcogeebfldlpoaa
open Go.RowKit

theorem txt_eq_getD {l l2 : List Txt} (hl : l.length = l2.length) (h : ∀ j, j < l.length → l.getD j [] = l2.getD j []) : l = l2 := by
  refine List.ext_getElem hl fun i h1 h2 => ?_
  have := h i h1
  rw [List.getD_eq_getElem?_getD, List.getD_eq_getElem?_getD, List.getElem?_eq_getElem h1, List.getElem?_eq_getElem h2] at this
  exact this

set_option maxRecDepth 20000 in
set_option maxHeartbeats 4000000 in
theorem eqK_walk (w : World) (av bv : Value) (l l2 : List Txt) (h1 : LiesS w av l) (h2 : LiesS w bv l2) (hl : l.length ≤ 1000000) (hl2 : l2.length ≤ 1000000) :
    Calls Try.prog 11 #[av, bv] w fun e w' => e = .returned (.bool (decide (l = l2))) ∧ ∃ n, w' = w.drewN n := by
  have H1 := mkHid h1
  have H2 := mkHid h2
  obtain ⟨ao, acap, rfl, -⟩ := h1
  obtain ⟨bo, bcap, rfl, -⟩ := h2
  obtain ⟨m, hm⟩ : ∃ m, m = l.length := ⟨_, rfl⟩
  obtain ⟨m2, hm2⟩ : ∃ m2, m2 = l2.length := ⟨_, rfl⟩
  rw [← hm] at hl ⊢
  rw [← hm2] at hl2 ⊢
  obtain ⟨d, hd⟩ : ∃ d, d = decide (l = l2) := ⟨_, rfl⟩
  rw [← hd]
  have HM := mkHid hm
  have HM2 := mkHid hm2
  have HD := mkHid hd
  have HL := mkHid hl
  clear hm hm2 hd hl2 hl
  by_cases he : m = m2
  · subst he
    go_enter Try.func11, Try.ntmps11
    go_wp2
    go_loopw [5] (fun i wr => ∃ k : Nat, k ≤ m ∧ i = .int .i64 k ∧ Hid (∀ j, j < k → l.getD j [] = l2.getD j []) ∧ ∃ n, wr = w.drewN n) (fun i _ => m - (intOf i).toNat)
    case atStart => exact ⟨0, by omega, rfl, (fun j hj => by omega), 0, rfl⟩
    case round =>
      obtain ⟨k, hk, rfl, HA, n, rfl⟩ := hrel
      by_cases hkm : k < m
      · obtain ⟨b1, o1, c1, e1, hc1, hh1⟩ := H1.out.form (by rw [← HM.out]; omega)
        obtain ⟨b2, o2, c2, e2, hc2, hh2⟩ := H2.out.form (by rw [← HM2.out]; omega)
        obtain rfl : ao = some ⟨b1, o1, none⟩ := by cases e1; rfl
        obtain rfl : c1 = acap := by cases e1; rfl
        obtain rfl : bo = some ⟨b2, o2, none⟩ := by cases e2; rfl
        obtain rfl : c2 = bcap := by cases e2; rfl
        have hr1 : w.cell? ⟨b1, o1 + k, none⟩ = some (.string (str (l.getD k []))) := hh1 k (by rw [← HM.out]; exact hkm)
        have hr2 : w.cell? ⟨b2, o2 + k, none⟩ = some (.string (str (l2.getD k []))) := hh2 k (by rw [← HM2.out]; exact hkm)
        obtain ⟨s, hs⟩ : ∃ s, s = str (l.getD k []) := ⟨_, rfl⟩
        obtain ⟨s2, hs2⟩ : ∃ s, s = str (l2.getD k []) := ⟨_, rfl⟩
        obtain ⟨q, hq⟩ : ∃ q, q = decide (l.getD k [] = l2.getD k []) := ⟨_, rfl⟩
        have HQ := mkHid hq
        have e0 : (s.toList == s2.toList) = q := by rw [hs, hs2, ByteArray.toList_eq, ByteArray.toList_eq, str_list, str_list, hq]; exact txt_beq _ _
        rw [← hs] at hr1
        rw [← hs2] at hr2
        have hwk : wrap64 ((k : Int) + 1) = (k : Int) + 1 := by have := HL.out; unfold wrap64; omega
        have HWK := mkHid hwk
        have hk0 : (k : Int) < (m : Int) := by omega
        clear hq hs hs2 hh1 hh2 hc1 hc2 e1 e2 hwk
        cases q
        · go_upto_region 6 with (fail)
          go_quiet (fail)
          go_wp2
          go_ret
          refine ⟨ret_bool ?_, n + nq, by first | rfl | rw [World.drewN_drewN]⟩
          rw [HD.out, eq_comm, decide_eq_false_iff_not]
          rintro rfl
          have := HQ.out
          simp at this
        · go_upto_region 6 with (fail)
          go_quiet (fail)
          go_wp2
          go_roundw
          case rel =>
            refine ⟨k + 1, by omega, by rw [HWK.out]; rfl, fun j hj => ?_, n + nq, by first | rfl | rw [World.drewN_drewN]⟩
            rcases (show j < k ∨ j = k by omega) with h | rfl
            · exact HA.out j h
            · have := HQ.out; simpa using this.symm
          case measure =>
            have e := HWK.out
            rw [e]
            exact meas hkm
      · have hkk : k = m := by omega
        subst hkk
        go_wp2
        go_ret
        refine ⟨ret_bool ?_, n, rfl⟩
        rw [HD.out, eq_comm, decide_eq_true_eq]
        exact txt_eq_getD (by rw [← HM.out, ← HM2.out]) (by rw [← HM.out]; exact HA.out)
  · have hne : ¬ (m : Int) = (m2 : Int) := by omega
    have HNE := mkHid he
    clear he
    go_enter Try.func11, Try.ntmps11
    go_wp2
    go_ret
    refine ⟨ret_bool ?_, 0, rfl⟩
    rw [HD.out, eq_comm, decide_eq_false_iff_not]
    rintro rfl
    exact HNE.out (by rw [HM.out, HM2.out])

end Go.Proofs.Ytcogeebfldlpoaa
