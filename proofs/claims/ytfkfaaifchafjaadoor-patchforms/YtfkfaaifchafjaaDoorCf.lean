/-
  rightNeeds walked.
-/
import Derived.Test.YtfkfaaifchafjaaDoorCd
import Derived.Sort.Walk0
set_option linter.unusedSimpArgs false
set_option linter.unusedVariables false
namespace Go.Proofs.YtfkfaaifchafjaaDoor
open Go.RowKit

theorem txt_irr (a : List UInt8) : ¬ a < a := List.lt_irrefl a
theorem txt_asym {a b : List UInt8} (h : a < b) : ¬ b < a := fun k => txt_irr a (List.lt_trans h k)
theorem txt_three (a b : List UInt8) : a < b ∨ a = b ∨ b < a := by
  rcases List.le_total a b with h | h
  · rcases (List.le_iff_lt_or_eq).1 h with h | h
    · exact .inl h
    · exact .inr (.inl h)
  · rcases (List.le_iff_lt_or_eq).1 h with h | h
    · exact .inr (.inr h)
    · exact .inr (.inl h.symm)

theorem needsOk_no {name : Txt} {l : List Txt} {k : Nat} (hk : k < l.length) (h : needOk name l k = false) : needsOk name l = false := by
  unfold needsOk
  rw [List.all_eq_false]
  exact ⟨k, by simpa using hk, by rw [h]; simp⟩

theorem needsOk_yes {name : Txt} {l : List Txt} (h : ∀ j, j < l.length → needOk name l j = true) : needsOk name l = true := by
  unfold needsOk
  rw [List.all_eq_true]
  intro j hj
  exact h j (by simpa using hj)

set_option maxHeartbeats 2000000 in
theorem rightNeeds_walk (w : World) (nm : ByteArray) (nv : Value) (needs : List Txt) (hn : LiesS w nv needs) (hl : needs.length ≤ 1000000) (hs : ∀ x ∈ needs, x.length ≤ 1000000) :
    Calls Tryd.prog 32 #[.string nm, nv] w fun e w' => e = .returned (.bool (needsOk nm.data.toList needs)) ∧ w' = w := by
  by_cases h0 : needs.length = 0
  · obtain ⟨ao, cap, rfl, _⟩ := hn
    have e1 : needs = [] := List.length_eq_zero_iff.1 h0
    subst e1
    go_enter Tryd.func32, Tryd.ntmps32
    go_wp2
    refine wp_loop_rounds 1 ?_
    rw [rounds_succ]
    go_wp2
    go_ret
    exact ⟨rfl, rfl⟩
  obtain ⟨b, off, cap, rfl, _, hc⟩ := hn.form (by omega)
  obtain ⟨n, hN⟩ : ∃ n, n = needs.length := ⟨_, rfl⟩
  rw [← hN] at hc hl h0 ⊢
  have HN := mkHid hN
  have HS := mkHid hs
  have HC := mkHid hc
  clear hN hs hc hn
  go_enter Tryd.func32, Tryd.ntmps32
  go_wp2
  go_loop [9] (fun i => ∃ k : Nat, k ≤ n ∧ i = .int .i64 k ∧ Hid (∀ j, j < k → needOk nm.data.toList needs j = true)) (fun i => n - (intOf i).toNat)
  case atStart => exact ⟨0, by omega, rfl, fun j hj => by omega⟩
  case round =>
    obtain ⟨k, hk, rfl, HA⟩ := hrel
    by_cases hkn : k < n
    · have hx := HC.out k hkn
      unfold encStr at hx
      obtain ⟨x, hX⟩ : ∃ x : ByteArray, x = ⟨(needs.getD k []).toArray⟩ := ⟨_, rfl⟩
      rw [← hX] at hx
      have hXs : x.size ≤ 1000000 := by
        have hk2 : k < needs.length := by rw [← HN.out]; exact hkn
        have := HS.out (needs.getD k []) (by rw [List.getD_eq_getElem?_getD, List.getElem?_eq_getElem hk2]; exact List.getElem_mem hk2)
        rw [hX]; simpa [ByteArray.size] using this
      obtain ⟨c1, hc1⟩ : ∃ c, c = rightL x.data.toList := ⟨_, rfl⟩
      have k1 := right_w x hXs c1 hc1
      obtain ⟨c2, hc2⟩ : ∃ c, c = decide (x.data.toList = nm.data.toList) := ⟨_, rfl⟩
      have e2 : (x.toList == nm.toList) = c2 := by rw [hc2, ByteArray.toList_eq, ByteArray.toList_eq]; exact txt_beq _ _
      have HX : Hid (needs.getD k [] = x.data.toList ∧ c1 = rightL x.data.toList ∧ c2 = decide (x.data.toList = nm.data.toList)) := ⟨by rw [hX], hc1, hc2⟩
      clear hX hXs hc1 hc2
      cases c1
      · go_wp2_with (go_at_call 31; (with_reducible refine (k1.out _).mono ?_); rintro e w1 ⟨rfl, rfl⟩)
        go_ret
        refine ⟨ret_bool ?_, rfl⟩
        rw [needsOk_no (by rw [← HN.out]; exact hkn)]
        unfold needOk
        rw [HX.out.1, ← HX.out.2.1]; rfl
      cases c2
      · rcases Nat.eq_zero_or_pos k with rfl | hp
        · clear hkn
          have hkn : 0 < n := by omega
          have hx' : w.cell? ⟨b, off, none⟩ = some (.string x) := hx
          clear hx
          go_wp2_with (go_at_call 31; (with_reducible refine (k1.out _).mono ?_); rintro e w1 ⟨rfl, rfl⟩)
          go_round
          case rel =>
            refine ⟨1, by omega, rfl, fun j hj => ?_⟩
            obtain rfl : j = 0 := by omega
            unfold needOk
            rw [HX.out.1, ← HX.out.2.1, ← HX.out.2.2]; rfl
          case measure => simp [intOf]; omega
        · obtain ⟨j, rfl⟩ : ∃ j, k = j + 1 := ⟨k - 1, by omega⟩
          have hy := HC.out j (by omega)
          unfold encStr at hy
          obtain ⟨y, hY⟩ : ∃ y : ByteArray, y = ⟨(needs.getD j []).toArray⟩ := ⟨_, rfl⟩
          rw [← hY] at hy
          have HY : Hid (needs.getD (j + 1 - 1) [] = y.data.toList) := by show _ = _; rw [hY]; rfl
          clear hY
          have hj1 : (j : Int) + 1 < (n : Int) := by omega
          have hj2 : (j : Int) < (n : Int) := by omega
          have hj3 : (0 : Int) < (j : Int) + 1 := by omega
          clear hp
          by_cases hlt : y.data.toList < x.data.toList
          · have f1 : Op.bytesLess x.toList y.toList = false := by rw [bytesLess_eq, ByteArray.toList_eq, ByteArray.toList_eq]; simpa using txt_asym hlt
            have f2 : (x.toList == y.toList) = false := by rw [ByteArray.toList_eq, ByteArray.toList_eq]; simpa using (fun e : x.data.toList = y.data.toList => txt_irr _ (e ▸ hlt))
            have HL := mkHid hlt
            clear hlt
            go_wp2_with (go_at_call 31; (with_reducible refine (k1.out _).mono ?_); rintro e w1 ⟨rfl, rfl⟩)
            go_round
            case rel =>
              refine ⟨j + 1 + 1, by omega, by go_num, fun i hi => ?_⟩
              rcases (show i < j + 1 ∨ i = j + 1 by omega) with h | rfl
              · exact HA.out i h
              · unfold needOk
                rw [HX.out.1, ← HX.out.2.1, ← HX.out.2.2, HY.out]
                simp [HL.out]
            case measure => simp [intOf]; omega
          · have HL := mkHid hlt
            have hret : needsOk nm.data.toList needs = false := by
              rw [needsOk_no (k := j + 1) (by rw [← HN.out]; exact hkn)]
              unfold needOk
              rw [HX.out.1, ← HX.out.2.1, ← HX.out.2.2, HY.out]
              simp [hlt]
            rcases txt_three x.data.toList y.data.toList with h | h | h
            · have f1 : Op.bytesLess x.toList y.toList = true := by rw [bytesLess_eq, ByteArray.toList_eq, ByteArray.toList_eq]; simpa using h
              clear hlt h
              have HRET := mkHid hret
              clear hret
              go_wp2_with (go_at_call 31; (with_reducible refine (k1.out _).mono ?_); rintro e w1 ⟨rfl, rfl⟩)
              go_ret
              exact ⟨ret_bool HRET.out.symm, rfl⟩
            · have f2 : (x.toList == y.toList) = true := by rw [ByteArray.toList_eq, ByteArray.toList_eq]; simpa using h
              clear hlt h
              have HRET := mkHid hret
              clear hret
              go_wp2_with (go_at_call 31; (with_reducible refine (k1.out _).mono ?_); rintro e w1 ⟨rfl, rfl⟩)
              go_ret
              exact ⟨ret_bool HRET.out.symm, rfl⟩
            · exact absurd h hlt
      · go_wp2_with (go_at_call 31; (with_reducible refine (k1.out _).mono ?_); rintro e w1 ⟨rfl, rfl⟩)
        go_ret
        refine ⟨ret_bool ?_, rfl⟩
        rw [needsOk_no (by rw [← HN.out]; exact hkn)]
        unfold needOk
        rw [HX.out.1, ← HX.out.2.1, ← HX.out.2.2]; rfl
    · have hkk : k = n := by omega
      subst hkk
      go_wp2
      go_ret
      exact ⟨ret_bool (needsOk_yes (by rw [← HN.out]; exact HA.out)).symm, rfl⟩
end Go.Proofs.YtfkfaaifchafjaaDoor
