/-
  Right, Line, Text walked.
-/
import Derived.Test.YtfkfaaifchafjaaDoorGa
import Derived.Test.YtfkfaaifchafjaaDoorRb
set_option linter.unusedSimpArgs false
set_option linter.unusedVariables false
namespace Go.Proofs.YtfkfaaifchafjaaDoor
open Go.RowKit


theorem sign_walk (c : UInt8) (w : World) : Calls Tryd.prog 46 #[.int .u8 (c.toNat : Int)] w fun e w' => e = .returned (.bool (rsB c)) ∧ w' = w := by
  have hc : (c.toNat : Int) < 256 := by have := c.toNat_lt; omega
  obtain ⟨b, hb⟩ : ∃ b, b = rsB c := ⟨_, rfl⟩
  unfold rsB at hb
  rw [show rsB c = b by rw [hb]; rfl]
  have HB := mkHid hb
  clear hb
  by_cases h1 : 97 ≤ (c.toNat : Int)
  · by_cases h2 : (c.toNat : Int) ≤ 122
    · go_enter Tryd.func46, Tryd.ntmps46
      go_wp2
      go_ret
      exact ⟨ret_bool (by rw [HB.out]; simp [h1, h2]), rfl⟩
    · have h3 : 48 ≤ (c.toNat : Int) := by omega
      have h4 : ¬ (c.toNat : Int) ≤ 57 := by omega
      go_enter Tryd.func46, Tryd.ntmps46
      go_wp2
      go_ret
      exact ⟨ret_bool (by rw [HB.out]; simp [h1, h2, h3, h4]), rfl⟩
  · by_cases h3 : 48 ≤ (c.toNat : Int)
    · by_cases h4 : (c.toNat : Int) ≤ 57
      all_goals
        go_enter Tryd.func46, Tryd.ntmps46
        go_wp2
        go_ret
        exact ⟨ret_bool (by rw [HB.out]; simp [h1, h3, h4] <;> omega), rfl⟩
    · go_enter Tryd.func46, Tryd.ntmps46
      go_wp2
      go_ret
      exact ⟨ret_bool (by rw [HB.out]; simp [h1, h3] <;> omega), rfl⟩


theorem take_snoc (s : ByteArray) (k : Nat) (h : k < s.size) : s.data.toList.take (k + 1) = s.data.toList.take k ++ [s[k]] := by
  rw [List.take_succ_eq_append_getElem (by simpa using h)]; rfl

theorem get_list (s : ByteArray) (k : Nat) (h : k < s.size) : s[k] = s.data.toList[k]'(by simpa using h) := rfl

set_option maxHeartbeats 1000000 in
theorem right_walk (s : ByteArray) (w : World) (hs : s.size ≤ maxLen) : Calls Tryd.prog 31 #[.string s] w fun e w' => e = .returned (.bool (rightL s.data.toList)) ∧ w' = w := by
  have hsz : s.data.toList.length = s.size := by simp
  unfold maxLen at hs
  by_cases h1 : s.size < 1
  · have hf : rightL s.data.toList = false := by simp [rightL, hsz]; omega
    rw [hf]
    have d1 : (s.size : Int) < 1 := by omega
    clear hf hsz
    go_enter Tryd.func31, Tryd.ntmps31
    go_wp2
    go_ret
    exact ⟨rfl, rfl⟩
  by_cases h8 : 8 < s.size
  · have hf : rightL s.data.toList = false := by simp [rightL, hsz]; omega
    rw [hf]
    have d1 : ¬ (s.size : Int) < 1 := by omega
    have d2 : (8 : Int) < (s.size : Int) := by omega
    clear hf hsz
    go_enter Tryd.func31, Tryd.ntmps31
    go_wp2
    go_ret
    exact ⟨rfl, rfl⟩
  have d1 : ¬ (s.size : Int) < 1 := by omega
  have d2 : ¬ (8 : Int) < (s.size : Int) := by omega
  have HZ := mkHid hsz
  clear hsz
  go_enter Tryd.func31, Tryd.ntmps31
  go_wp2
  go_loop [14] (fun i => ∃ k : Nat, k ≤ s.size ∧ i = .int .i64 k ∧ Hid ((s.data.toList.take k).all rsB = true)) (fun i => s.size - (intOf i).toNat)
  case atStart => exact ⟨0, by omega, rfl, rfl⟩
  case round =>
    obtain ⟨k, hk, rfl, HA⟩ := hrel
    by_cases hlt : k < s.size
    · have hk2 : (k : Int) < 9 := by omega
      obtain ⟨b, hb⟩ : ∃ b, b = rsB s[k] := ⟨_, rfl⟩
      have k1 : Hid (∀ w, Calls Tryd.prog 46 #[.int .u8 (s[k].toNat : Int)] w fun e w' => e = .returned (.bool b) ∧ w' = w) := by rw [hb]; exact sign_walk s[k]
      have HB := mkHid hb
      clear hb
      cases b
      · go_wp2_with (go_at_call 46; (with_reducible refine (k1.out _).mono ?_); rintro e w' ⟨rfl, rfl⟩)
        go_ret
        refine ⟨ret_bool ?_, rfl⟩
        have : s.data.toList.all rsB = false := by
          rw [List.all_eq_false]
          exact ⟨s[k], by rw [get_list s k hlt]; exact List.getElem_mem _, by rw [← HB.out]; simp⟩
        simp [rightL, this]
      · go_wp2_with (go_at_call 46; (with_reducible refine (k1.out _).mono ?_); rintro e w' ⟨rfl, rfl⟩)
        go_round
        case rel =>
          refine ⟨k + 1, by omega, by go_num, ?_⟩
          show _ = _
          rw [take_snoc s k hlt, List.all_append, HA.out, List.all_cons, ← HB.out]
          rfl
        case measure => exact meas hlt
    · have hkk : k = s.size := by omega
      subst hkk
      go_wp2
      go_ret
      refine ⟨ret_bool ?_, rfl⟩
      have h := HA.out
      rw [List.take_of_length_le (by rw [HZ.out]; exact Nat.le_refl _)] at h
      have z := HZ.out
      simp only [rightL, h, z, Bool.and_true, Bool.true_eq, Bool.and_eq_true, decide_eq_true_eq]
      omega


set_option maxHeartbeats 1000000 in
theorem line_walk (s : ByteArray) (w : World) (hs : s.size ≤ maxLen) : Calls Tryd.prog 48 #[.string s] w fun e w' => e = .returned (.bool (lineL s.data.toList)) ∧ w' = w := by
  have hsz : s.data.toList.length = s.size := by simp
  unfold maxLen at hs
  by_cases h8 : 40 < s.size
  · have hf : lineL s.data.toList = false := by simp [lineL, hsz]; omega
    rw [hf]
    have d2 : (40 : Int) < (s.size : Int) := by omega
    clear hf hsz
    go_enter Tryd.func48, Tryd.ntmps48
    go_wp2
    go_ret
    exact ⟨rfl, rfl⟩
  have d2 : ¬ (40 : Int) < (s.size : Int) := by omega
  have HZ := mkHid hsz
  clear hsz
  go_enter Tryd.func48, Tryd.ntmps48
  go_wp2
  go_loop [9] (fun i => ∃ k : Nat, k ≤ s.size ∧ i = .int .i64 k ∧ Hid ((s.data.toList.take k).all lsB = true)) (fun i => s.size - (intOf i).toNat)
  case atStart => exact ⟨0, by omega, rfl, rfl⟩
  case round =>
    obtain ⟨k, hk, rfl, HA⟩ := hrel
    by_cases hlt : k < s.size
    · have hk2 : (k : Int) < 41 := by omega
      by_cases ha : (s[k].toNat : Int) < 32
      · go_wp2
        go_ret
        refine ⟨ret_bool ?_, rfl⟩
        have : s.data.toList.all lsB = false := by
          rw [List.all_eq_false]
          refine ⟨s[k], by rw [get_list s k hlt]; exact List.getElem_mem _, ?_⟩
          unfold lsB
          simp; omega
        simp [lineL, this]
      · by_cases hb : (126 : Int) < (s[k].toNat : Int)
        · go_wp2
          go_ret
          refine ⟨ret_bool ?_, rfl⟩
          have : s.data.toList.all lsB = false := by
            rw [List.all_eq_false]
            refine ⟨s[k], by rw [get_list s k hlt]; exact List.getElem_mem _, ?_⟩
            unfold lsB
            simp; omega
          simp [lineL, this]
        · go_wp2
          go_round
          case rel =>
            refine ⟨k + 1, by omega, by go_num, ?_⟩
            show _ = _
            rw [take_snoc s k hlt, List.all_append, HA.out, List.all_cons]
            unfold lsB
            simp; omega
          case measure => exact meas hlt
    · have hkk : k = s.size := by omega
      subst hkk
      go_wp2
      go_ret
      refine ⟨ret_bool ?_, rfl⟩
      have h := HA.out
      rw [List.take_of_length_le (by rw [HZ.out]; exact Nat.le_refl _)] at h
      have z := HZ.out
      simp only [lineL, h, z, Bool.and_true, Bool.true_eq, decide_eq_true_eq]
      omega

end Go.Proofs.YtfkfaaifchafjaaDoor
