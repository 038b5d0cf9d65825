/-
  IdForms: the law's walk.
-/
import Derived.Test.YtbjgldpnichoeaaDoorPb
import Derived.Deep.RegionHeld3
import Derived.Laws.BytesString
set_option linter.unusedSimpArgs false
set_option linter.unusedVariables false
namespace Go.Proofs.YtbjgldpnichoeaaDoor
open Go.RowKit

theorem within_nat (n : Int) (m : Nat) (h0 : 0 < m) (h1 : m < 4611686018427387904) : ∃ k : Nat, k < m ∧ Hid (∀ w, Calls Tryd.prog 6 #[.int .i64 n, .int .i64 (m : Int)] w fun e w' => e = .returned (.int .i64 (k : Int)) ∧ w' = w) := by
  have a := Int.emod_nonneg n (show (m : Int) ≠ 0 by omega)
  have b := Int.emod_lt_of_pos n (show (0 : Int) < m by omega)
  refine ⟨(n % (m : Int)).toNat, by omega, fun w => ?_⟩
  refine (within_walk n m (by omega) (by omega) w).mono ?_
  rintro e w' ⟨rfl, rfl⟩
  exact ⟨ret_int (by omega), rfl⟩

theorem one_conv (c : UInt8) (W : World) : (convert 23 9 (.slice (some ⟨W.heap.size, 0, none⟩) 1 1)).run Tryd.prog (W.alloc (.cells #[.int .u8 (c.toNat : Int)] 5)).drew = .ok (.string ⟨#[c]⟩) (W.alloc (.cells #[.int .u8 (c.toNat : Int)] 5)).drew := by
  rw [run_convert_bytes_string _ 23 9 5 _ _ _ Tryd.underlying23 Tryd.underlying5 Tryd.underlying9]
  rw [run_bytesToString _ ⟨W.heap.size, 0, none⟩ 1 1 [(c.toNat : Int)] ?_]
  · show Result.ok (Value.string ⟨#[UInt8.ofNat c.toNat]⟩) _ = _
    rw [UInt8.ofNat_toNat]
  · have h := run_loadCells_list (P := Tryd.prog) (w := (W.alloc (.cells #[.int .u8 (c.toNat : Int)] 5)).drew) ⟨W.heap.size, 0, none⟩ [.int .u8 (c.toNat : Int)] (fun j u hu => ?_)
    · exact h
    · have hj : j = 0 := by
        rcases Nat.eq_zero_or_pos j with h | h
        · exact h
        · rw [List.getElem?_eq_none (by simp; omega)] at hu; cases hu
      subst hj
      simp at hu
      subst hu
      exact cell_of_row _ _ 0 _ 5 (0, 0) (heap_alloc_new W _)

def lets (k : Nat) : ByteArray := ⟨(List.replicate k 97).toArray⟩

theorem lets_succ (k : Nat) : lets k ++ ⟨#[97]⟩ = lets (k + 1) := by
  apply ByteArray.ext
  apply Array.toList_inj.1
  rw [ByteArray.data_append, Array.toList_append]
  simp [lets, List.replicate_succ']

theorem lets_size (k : Nat) : (lets k).size = k := by simp [lets, ByteArray.size]

theorem line_hid (p : ByteArray) (hp : p.size ≤ maxLen) (b : Bool) (hb : b = lineL p.data.toList) : Hid (∀ w, Calls Tryd.prog 8 #[.string p] w fun e w' => e = .returned (.bool b) ∧ w' = w) := by
  subst hb
  exact fun w => line_walk p w hp

theorem mid_list (s : ByteArray) (n k : Nat) (c : UInt8) (hn : s.size = n) (hk : k < n) : (s.extract 0 k ++ ⟨#[c]⟩ ++ s.extract (k + 1) n).data.toList = s.data.toList.take k ++ [c] ++ s.data.toList.drop (k + 1) := by
  rw [ByteArray.data_append, ByteArray.data_append, Array.toList_append, Array.toList_append, ByteArray.data_extract, ByteArray.data_extract, Array.toList_extract, Array.toList_extract]
  have : s.data.toList.length = n := by simpa using hn
  simp [List.extract]
  rw [List.take_of_length_le (by simp; omega)]

theorem mid_all (f : UInt8 → Bool) (l : List UInt8) (c : UInt8) (k : Nat) (h : l.all f = true) : (l.take k ++ [c] ++ l.drop (k + 1)).all f = f c := by
  have h1 : (l.take k).all f = true := by
    rw [List.all_eq_true] at *
    exact fun x hx => h x (List.mem_of_mem_take hx)
  have h2 : (l.drop (k + 1)).all f = true := by
    rw [List.all_eq_true] at *
    exact fun x hx => h x (List.mem_of_mem_drop hx)
  rw [List.all_append, List.all_append, h1, h2]
  simp

theorem mid_len (l : List UInt8) (c : UInt8) (k : Nat) (h : k < l.length) : (l.take k ++ [c] ++ l.drop (k + 1)).length = l.length := by
  simp; omega

def lit8 : ByteArray := ⟨#[97, 98, 99, 100, 48, 49, 56, 57]⟩

theorem lets_all (n : Nat) : (lets n).data.toList.all lsB = true := by
  simp [lets]
  right
  decide

set_option maxRecDepth 100000 in
set_option maxHeartbeats 8000000 in
theorem forms_walk (n : Int) (c : UInt8) (w : World) : Calls Tryd.prog 3 #[.int .i64 n, .int .u8 (c.toNat : Int)] w fun e w' => e = .returned (.bool true) ∧ Below w.heap.size w w' := by
  obtain ⟨k, hk, k1⟩ := within_nat n 8 (by decide) (by decide)
  have k1' : Hid (∀ w, Calls Tryd.prog 6 #[.int .i64 n, .int .i64 8] w fun e w' => e = .returned (.int .i64 (k : Int)) ∧ w' = w) := k1
  clear k1
  have hc : (c.toNat : Int) < 256 := by have := c.toNat_lt; omega
  have hki : (k : Int) < 8 := by omega
  have hcv := one_conv c
  obtain ⟨T, hT⟩ : ∃ T : ByteArray, T = (⟨#[97, 98, 99, 100, 48, 49, 56, 57]⟩ : ByteArray).extract 0 k ++ ⟨#[c]⟩ ++ (⟨#[97, 98, 99, 100, 48, 49, 56, 57]⟩ : ByteArray).extract (k + 1) 8 := ⟨_, rfl⟩
  obtain ⟨L, hL⟩ : ∃ L : ByteArray, L = lets 40 := ⟨_, rfl⟩
  have hLs : L.size = 40 := by rw [hL]; exact lets_size 40
  obtain ⟨U, hU⟩ : ∃ U : ByteArray, U = L.extract 0 k ++ ⟨#[c]⟩ ++ L.extract (k + 1) 40 := ⟨_, rfl⟩
  obtain ⟨b, hb⟩ : ∃ b, b = rsB c := ⟨_, rfl⟩
  obtain ⟨b2, hb2⟩ : ∃ b, b = lsB c := ⟨_, rfl⟩
  have hTl : T.data.toList = lit8.data.toList.take k ++ [c] ++ lit8.data.toList.drop (k + 1) := by rw [hT]; exact mid_list lit8 8 k c rfl hk
  have hUl : U.data.toList = L.data.toList.take k ++ [c] ++ L.data.toList.drop (k + 1) := by rw [hU]; exact mid_list L 40 k c hLs (by omega)
  have hTs : T.size = 8 := by
    show T.data.toList.length = 8
    rw [hTl, mid_len _ _ _ (by exact hk)]; rfl
  have hUs : U.size = 40 := by
    show U.data.toList.length = 40
    rw [hUl, mid_len _ _ _ (by show k < L.size; omega)]; exact hLs
  have kS := right_hid ⟨#[97, 98, 99, 100, 48, 49, 56, 57]⟩ (by decide) true (by decide +kernel)
  have kT := right_hid T (by unfold maxLen; omega) b (by
    rw [hb]; unfold rightL
    rw [show T.data.toList.length = 8 from hTs, hTl, mid_all rsB _ c k (by decide +kernel)]
    simp)
  have kSa := right_hid (⟨#[97, 98, 99, 100, 48, 49, 56, 57]⟩ ++ ⟨#[97]⟩) (by decide) false (by decide +kernel)
  have kN := right_hid ⟨#[]⟩ (by decide) false (by decide)
  have kL := line_hid L (by unfold maxLen; omega) true (by
    unfold lineL
    rw [show L.data.toList.length = 40 from hLs, hL, lets_all]; rfl)
  have kU := line_hid U (by unfold maxLen; omega) b2 (by
    rw [hb2]; unfold lineL
    rw [show U.data.toList.length = 40 from hUs, hUl, mid_all lsB _ c k (by rw [hL]; exact lets_all 40)]
    simp)
  have kLa := line_hid (L ++ ⟨#[97]⟩) (by rw [hL, lets_succ, lets_size]; decide) false (by
    unfold lineL
    rw [show (L ++ ⟨#[97]⟩).data.toList.length = 41 by rw [hL, lets_succ]; exact lets_size 41]; rfl)
  have kLN := line_hid ⟨#[]⟩ (by decide) true (by decide)
  have kP : Hid (∀ w, Calls Tryd.prog 9 #[.agg #[.string ⟨#[97]⟩, .int .i64 40]] w fun e w' => e = .returned (.string ⟨#[97, 46, 52, 48]⟩) ∧ Below w.heap.size w w') :=
    print_lit ⟨#[97]⟩ 40 (by decide) _ (by decide +kernel) (by decide) (by decide)
  have HTs := mkHid hTs
  have HUs := mkHid hUs
  have HL := mkHid hL
  have HB := mkHid hb
  have HB2 := mkHid hb2
  clear hTl hUl hTs hUs hL hb hb2
  go_enter Tryd.func3, Tryd.ntmps3
  go_wp2_with (go_at_call 6; (with_reducible refine (k1'.out _).mono ?_); rintro e w1 ⟨rfl, rfl⟩)
  go_region
  rw [← hT]
  have HT := mkHid hT
  clear hT
  obtain ⟨W, hW⟩ : ∃ W, W = (w1.alloc (Obj.cells #[Value.int IntKind.u8 ↑c.toNat] 5)).drew := ⟨_, rfl⟩
  have HW : Hid (Below w1.heap.size w1 W) := by rw [hW]; exact ((Below.refl _ w1).alloc (Nat.le_refl _) _).trans ⟨rfl, rfl, rfl, Nat.le_refl _, fun _ _ => rfl⟩
  rw [← hW]
  clear hW
  go_wp2
  go_loop [7, 8] (fun t i => ∃ j : Nat, j ≤ 40 ∧ t = .string (lets j) ∧ i = .int .i64 j) (fun _ i => 40 - (intOf i).toNat)
  case atStart => exact ⟨0, by omega, rfl, rfl⟩
  case round =>
    obtain ⟨j, hj, rfl, rfl⟩ := hrel
    have hls := lets_size j
    have hl1 := lets_succ j
    by_cases hj4 : j < 40
    · go_wp2
      go_round
      case rel => exact ⟨j + 1, by omega, rfl, by go_num⟩
      case measure => exact meas hj4
    · obtain rfl : j = 40 := by omega
      rw [← HL.out, show (((40 : Nat) : Int)) = 40 from rfl]
      clear hls hl1
      have d40 : (k : Int) ≤ 40 := by omega
      have d41 : (k : Int) + 1 ≤ 40 := by omega
      go_wp2
      go_region
      rw [← hU]
      have HU := mkHid hU
      obtain ⟨W2, hW2⟩ : ∃ W2, W2 = (W.alloc (Obj.cells #[Value.int IntKind.u8 ↑c.toNat] 5)).drew := ⟨_, rfl⟩
      have HW2 : Hid (Below w1.heap.size w1 W2) := by rw [hW2]; exact below_then HW.out (((Below.refl _ W).alloc (Nat.le_refl _) _).trans ⟨rfl, rfl, rfl, Nat.le_refl _, fun _ _ => rfl⟩)
      rw [← hW2]
      clear hW2 hU hcv
      iterate 3 go_step
      go_cut [10] (fun r wx => r = .bool b ∧ wx = W2)
      case first =>
        clear kS kT kSa kN kL kU kLa kLN kP k1'
        by_cases h1 : 97 ≤ (c.toNat : Int)
        · by_cases h2 : (c.toNat : Int) ≤ 122
          · have hb : b = true := by rw [HB.out]; simp [rsB, h1, h2]
            go_wp2
            go_meet
            case rel => exact ⟨by rw [hb], rfl⟩
          · have h3 : 48 ≤ (c.toNat : Int) := by omega
            have h4 : ¬ (c.toNat : Int) ≤ 57 := by omega
            have hb : b = false := by rw [HB.out]; simp [rsB, h1, h2, h3, h4]
            go_wp2
            go_meet
            case rel => exact ⟨by rw [hb], rfl⟩
        · by_cases h3 : 48 ≤ (c.toNat : Int)
          · by_cases h4 : (c.toNat : Int) ≤ 57
            · have hb : b = true := by rw [HB.out]; simp [rsB, h3, h4]
              go_wp2
              go_meet
              case rel => exact ⟨by rw [hb], rfl⟩
            · have hb : b = false := by rw [HB.out]; simp [rsB, h1, h4] <;> omega
              go_wp2
              go_meet
              case rel => exact ⟨by rw [hb], rfl⟩
          · have hb : b = false := by rw [HB.out]; simp [rsB]; omega
            go_wp2
            go_meet
            case rel => exact ⟨by rw [hb], rfl⟩
      case rest =>
        obtain ⟨rfl, rfl⟩ := hcut
        have kW : Hid (∀ w, Calls Tryd.prog 10 #[] w fun e w' => e = .returned (.bool true) ∧ Below w.heap.size w w') := wakes_walk
        have hbb : (b == b) = true := by simp
        by_cases h1 : 32 ≤ (c.toNat : Int)
        · by_cases h2 : (c.toNat : Int) ≤ 126
          · have hb : b2 = true := by rw [HB2.out]; simp [lsB, h1, h2]
            subst hb
            go_wp2_with (first
              | (go_at_call 7; (with_reducible refine (kS.out _).mono ?_); rintro e w3 ⟨rfl, rfl⟩)
              | (go_at_call 7; (with_reducible refine (kT.out _).mono ?_); rintro e w3 ⟨rfl, rfl⟩)
              | (go_at_call 7; (with_reducible refine (kSa.out _).mono ?_); rintro e w3 ⟨rfl, rfl⟩)
              | (go_at_call 7; (with_reducible refine (kN.out _).mono ?_); rintro e w3 ⟨rfl, rfl⟩)
              | (go_at_call 8; (with_reducible refine (kL.out _).mono ?_); rintro e w3 ⟨rfl, rfl⟩)
              | (go_at_call 8; (with_reducible refine (kU.out _).mono ?_); rintro e w3 ⟨rfl, rfl⟩)
              | (go_at_call 8; (with_reducible refine (kLa.out _).mono ?_); rintro e w3 ⟨rfl, rfl⟩)
              | (go_at_call 8; (with_reducible refine (kLN.out _).mono ?_); rintro e w3 ⟨rfl, rfl⟩)
              | (go_at_call 9; (with_reducible refine (kP.out _).mono ?_); rintro e w4 ⟨rfl, hb4⟩)
              | (go_at_call 10; (with_reducible refine (kW.out _).mono ?_); rintro e w5 ⟨rfl, hb5⟩))
            go_ret
            exact ⟨rfl, (HW2.out.trans (hb4.mono HW2.out.size)).trans (hb5.mono (Nat.le_trans HW2.out.size hb4.size))⟩
          · have hb : b2 = false := by rw [HB2.out]; simp [lsB, h1, h2]
            subst hb
            have d2 : decide ((c.toNat : Int) ≤ 126) = false := by simp [h2]
            clear h2
            go_wp2_with (first
              | (go_at_call 7; (with_reducible refine (kS.out _).mono ?_); rintro e w3 ⟨rfl, rfl⟩)
              | (go_at_call 7; (with_reducible refine (kT.out _).mono ?_); rintro e w3 ⟨rfl, rfl⟩)
              | (go_at_call 7; (with_reducible refine (kSa.out _).mono ?_); rintro e w3 ⟨rfl, rfl⟩)
              | (go_at_call 7; (with_reducible refine (kN.out _).mono ?_); rintro e w3 ⟨rfl, rfl⟩)
              | (go_at_call 8; (with_reducible refine (kL.out _).mono ?_); rintro e w3 ⟨rfl, rfl⟩)
              | (go_at_call 8; (with_reducible refine (kU.out _).mono ?_); rintro e w3 ⟨rfl, rfl⟩)
              | (go_at_call 8; (with_reducible refine (kLa.out _).mono ?_); rintro e w3 ⟨rfl, rfl⟩)
              | (go_at_call 8; (with_reducible refine (kLN.out _).mono ?_); rintro e w3 ⟨rfl, rfl⟩)
              | (go_at_call 9; (with_reducible refine (kP.out _).mono ?_); rintro e w4 ⟨rfl, hb4⟩)
              | (go_at_call 10; (with_reducible refine (kW.out _).mono ?_); rintro e w5 ⟨rfl, hb5⟩))
            go_ret
            exact ⟨rfl, (HW2.out.trans (hb4.mono HW2.out.size)).trans (hb5.mono (Nat.le_trans HW2.out.size hb4.size))⟩
        · have hb : b2 = false := by rw [HB2.out]; simp [lsB, h1]
          subst hb
          go_wp2_with (first
            | (go_at_call 7; (with_reducible refine (kS.out _).mono ?_); rintro e w3 ⟨rfl, rfl⟩)
            | (go_at_call 7; (with_reducible refine (kT.out _).mono ?_); rintro e w3 ⟨rfl, rfl⟩)
            | (go_at_call 7; (with_reducible refine (kSa.out _).mono ?_); rintro e w3 ⟨rfl, rfl⟩)
            | (go_at_call 7; (with_reducible refine (kN.out _).mono ?_); rintro e w3 ⟨rfl, rfl⟩)
            | (go_at_call 8; (with_reducible refine (kL.out _).mono ?_); rintro e w3 ⟨rfl, rfl⟩)
            | (go_at_call 8; (with_reducible refine (kU.out _).mono ?_); rintro e w3 ⟨rfl, rfl⟩)
            | (go_at_call 8; (with_reducible refine (kLa.out _).mono ?_); rintro e w3 ⟨rfl, rfl⟩)
            | (go_at_call 8; (with_reducible refine (kLN.out _).mono ?_); rintro e w3 ⟨rfl, rfl⟩)
            | (go_at_call 9; (with_reducible refine (kP.out _).mono ?_); rintro e w4 ⟨rfl, hb4⟩)
            | (go_at_call 10; (with_reducible refine (kW.out _).mono ?_); rintro e w5 ⟨rfl, hb5⟩))
          go_ret
          exact ⟨rfl, (HW2.out.trans (hb4.mono HW2.out.size)).trans (hb5.mono (Nat.le_trans HW2.out.size hb4.size))⟩

theorem forms_any (n c : Int) (w : World) (hc : 0 ≤ c ∧ c ≤ 255) : Calls Tryd.prog 3 #[.int .i64 n, .int .u8 c] w fun e w' => e = .returned (.bool true) ∧ Below w.heap.size w w' := by
  have e : c = ((UInt8.ofNat c.toNat).toNat : Int) := by
    rw [UInt8.toNat_ofNat']
    omega
  rw [e]
  exact forms_walk n _ w

end Go.Proofs.YtbjgldpnichoeaaDoor
