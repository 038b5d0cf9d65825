/-
  The document's In; a text put among others.
-/
import Derived.Test.YtcogeebfldlpoaaFq
import Derived.ArgAppend
set_option linter.unusedSimpArgs false
set_option linter.unusedVariables false
namespace Go.Proofs.Ytcogeebfldlpoaa
open Go.RowKit

set_option maxHeartbeats 2000000 in
theorem din_walk (w : World) (v : Value) (ss : List Txt) (x : ByteArray) (hv : LiesS w v ss) (hl : ss.length ≤ 1000000) :
    Calls Try.prog 24 #[v, .string x] w fun e w' => e = .returned (.bool (decide (x.data.toList ∈ ss))) ∧ w' = w := by
  have H1 := mkHid hv
  obtain ⟨ao, cap, rfl, -⟩ := hv
  obtain ⟨m, hm⟩ : ∃ m, m = ss.length := ⟨_, rfl⟩
  rw [← hm] at hl ⊢
  obtain ⟨d, hd⟩ : ∃ d, d = decide (x.data.toList ∈ ss) := ⟨_, rfl⟩
  rw [← hd]
  have HM := mkHid hm
  have HD := mkHid hd
  have HL := mkHid hl
  clear hm hd hl
  go_enter Try.func24, Try.ntmps24
  go_wp2
  go_loopw [9] (fun i wr => ∃ k : Nat, k ≤ m ∧ i = .int .i64 k ∧ Hid (∀ j, j < k → ss.getD j [] ≠ x.data.toList) ∧ wr = w) (fun i _ => m - (intOf i).toNat)
  case atStart => exact ⟨0, by omega, rfl, (fun j hj => by omega), rfl⟩
  case round =>
    obtain ⟨k, hk, rfl, HA, hw⟩ := hrel
    subst hw
    by_cases hkm : k < m
    · obtain ⟨b1, o1, c1, e1, hc1, hh1⟩ := H1.out.form (by rw [← HM.out]; omega)
      obtain rfl : ao = some ⟨b1, o1, none⟩ := by cases e1; rfl
      obtain rfl : c1 = cap := by cases e1; rfl
      have hr1 : wr.cell? ⟨b1, o1 + k, none⟩ = some (.string (str (ss.getD k []))) := hh1 k (by rw [← HM.out]; exact hkm)
      obtain ⟨s, hs⟩ : ∃ s, s = str (ss.getD k []) := ⟨_, rfl⟩
      obtain ⟨q, hq⟩ : ∃ q, q = decide (ss.getD k [] = x.data.toList) := ⟨_, rfl⟩
      have HQ := mkHid hq
      have e0 : (s.toList == x.toList) = q := by rw [hs, ByteArray.toList_eq, ByteArray.toList_eq, str_list, hq]; exact txt_beq _ _
      rw [← hs] at hr1
      have hwk : wrap64 ((k : Int) + 1) = (k : Int) + 1 := by have := HL.out; unfold wrap64; omega
      have HWK := mkHid hwk
      have hk0 : (k : Int) < (m : Int) := by omega
      clear hq hs hh1 hc1 e1 hwk
      cases q
      · go_wp2
        go_roundw
        case rel =>
          refine ⟨k + 1, by omega, by first | rfl | (rw [HWK.out]; rfl), fun j hj => ?_, trivial⟩
          rcases (show j < k ∨ j = k by omega) with h | rfl
          · exact HA.out j h
          · have := HQ.out; simpa using this.symm
        case measure => first | exact meas hkm | (rw [HWK.out]; exact meas hkm)
      · go_wp2
        go_ret
        refine ⟨ret_bool ?_, rfl⟩
        rw [HD.out, eq_comm, decide_eq_true_eq]
        have := HQ.out
        have e : ss.getD k [] = x.data.toList := by simpa using this.symm
        rw [← e]
        have hk2 : k < ss.length := by rw [← HM.out]; exact hkm
        rw [List.getD_eq_getElem?_getD, List.getElem?_eq_getElem hk2]
        exact List.getElem_mem hk2
    · have hkk : k = m := by omega
      subst hkk
      go_wp2
      go_ret
      refine ⟨ret_bool ?_, rfl⟩
      rw [HD.out, eq_comm, decide_eq_false_iff_not]
      intro h
      obtain ⟨j, hj, e⟩ := List.getElem_of_mem h
      refine HA.out j (by rw [HM.out]; exact hj) ?_
      rw [List.getD_eq_getElem?_getD, List.getElem?_eq_getElem hj]
      exact e

/-- append onto a slice that has no room: a new row of its own -/
theorem grow_txt (V : World) (b : Addr) (n cap : Nat) (olds : List Txt) (hlo : olds.length = n) (holds : ∀ j, j < n → V.cell? (b.add j) = some (encStr (olds.getD j [])))
    (a : Addr) (m c : Nat) (news : List Txt) (hl : news.length = m) (hnews : ∀ j, j < m → V.cell? (a.add j) = some (encStr (news.getD j []))) (hg : cap < n + m) (h63 : n + m ≤ 10000000) :
    ∃ g c' V', (Builtin.append_ #[22, 22] 22 #[.slice (some b) n cap, .slice (some a) m c]).run Try.prog V = .ok (.slice (some ⟨g, 0, none⟩) (n + m) c') V' ∧ V.heap.size ≤ g ∧ n + m ≤ c' ∧ (∀ j, j < n + m → V'.cell? ⟨g, j, none⟩ = some (encStr ((olds ++ news).getD j []))) ∧ Old V V' := by
  obtain ⟨i, hi, hz0, hz1, hz2⟩ := info_parts Try.inf9
  have get : ∀ (L : List Txt) (j : Nat) (u : Value), (L.map encStr)[j]? = some u → j < L.length ∧ u = encStr (L.getD j []) := by
    intro L j u h
    have hj := (List.getElem?_eq_some_iff.1 h).1
    rw [List.length_map] at hj
    refine ⟨hj, ?_⟩
    rw [List.getElem?_map, List.getElem?_eq_getElem hj] at h
    rw [List.getD_eq_getElem?_getD, List.getElem?_eq_getElem hj]
    exact (Option.some.inj h).symm
  obtain ⟨v', V', h1, h2, h3⟩ := run_append_arg_grows (P := Try.prog) V 22 22 9 i _ 1 16 Try.underlying22 hi hz0 hz1 hz2 rfl (by decide) b n cap (olds.map encStr) (by simp [hlo]) (fun j u hj => by
      obtain ⟨a1, rfl⟩ := get _ _ _ hj
      exact holds j (by omega)) a m c (news.map encStr) (by simp [hl]) (fun j u hj => by
      obtain ⟨a1, rfl⟩ := get _ _ _ hj
      exact hnews j (by omega)) hg (by unfold maxLen; omega) (by omega)
  rcases h2.2 with ⟨_, h⟩ | ⟨g, c', cur, rfl, hB, hgc, hn, _, hsz, ht⟩
  · omega
  · refine ⟨g, c', V', h1, hB, hn, fun j hj => ?_, ⟨h3.os, h3.tape, h3.output, h3.size, fun k hk => h3.block k hk (by simp)⟩⟩
    rw [cell_of_row _ _ j _ 9 (0, 0) hgc]
    have hj2 : j < (olds ++ news).length := by simp; omega
    have e : ((olds ++ news).map encStr)[j]? = some (encStr ((olds ++ news).getD j [])) := by
      rw [List.getElem?_map, List.getElem?_eq_getElem hj2, List.getD_eq_getElem?_getD, List.getElem?_eq_getElem hj2]; rfl
    rw [List.map_append, ← ht, List.getElem?_take] at e
    rw [if_pos (by omega)] at e
    simpa using e
end Go.Proofs.Ytcogeebfldlpoaa
