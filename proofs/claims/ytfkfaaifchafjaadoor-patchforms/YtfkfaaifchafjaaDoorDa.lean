/-
  words walked: a line.
-/
import Derived.Test.YtfkfaaifchafjaaDoorBu
import Derived.Test.YtfkfaaifchafjaaDoorCd
set_option linter.unusedSimpArgs false
set_option linter.unusedVariables false
namespace Go.Proofs.YtfkfaaifchafjaaDoor
open Go.RowKit

theorem wordsT_succ (a : Txt) (ws : List Txt) (k : Nat) (hk : k < ws.length) : wordsT a (ws.take (k + 1)) = wordsT a (ws.take k) ++ [32] ++ ws.getD k [] := by
  unfold wordsT
  rw [List.take_succ_eq_append_getElem hk, List.flatMap_append]
  simp [hk]

theorem wordsT_le (a : Txt) (ws : List Txt) (k : Nat) : (wordsT a (ws.take k)).length ≤ (wordsT a ws).length := by
  have e : wordsT a ws = wordsT a (ws.take k) ++ (ws.drop k).flatMap fun x => 32 :: x := by
    unfold wordsT
    rw [List.append_assoc, ← List.flatMap_append, List.take_append_drop]
  rw [e, List.length_append]
  omega

theorem cell_old2 {B : Nat} {w w' : World} (h : Below B w w') (hB : w.heap.size ≤ B) {a : Addr} {v : Value} (hc : w.cell? a = some v) : w'.cell? a = some v :=
  (h.cell (Nat.lt_of_lt_of_le (cell_lt hc) hB)).trans hc

set_option maxHeartbeats 2000000 in
theorem words_walk (w : World) (a : ByteArray) (lv : Value) (ws : List Txt) (hv : LiesS w lv ws) (hlen : (wordsT a.data.toList ws).length ≤ 100000000000000) (hws : ws.length ≤ 1000000) (t : ByteArray) (ht : t = ⟨(wordsT a.data.toList ws ++ [10]).toArray⟩) :
    Calls Tryd.prog 23 #[.string a, lv] w fun e w' => e = .returned (.string t) ∧ Old w w' := by
  have HV := mkHid hv
  obtain ⟨ao, cap, rfl, -⟩ := hv
  obtain ⟨m, hM⟩ : ∃ m, m = ws.length := ⟨_, rfl⟩
  obtain ⟨B, hB⟩ : ∃ B, B = w.heap.size := ⟨_, rfl⟩
  obtain ⟨W0, hW0⟩ : ∃ W0, W0 = w.alloc (.cells #[.pointer none, .slice none 0 0] 56) := ⟨_, rfl⟩
  have HW0 := mkHid hW0
  have HB := mkHid hB
  have HMM := mkHid hM
  have HLEN := mkHid hlen
  have HWS := mkHid hws
  have HT := mkHid ht
  rw [← hM]
  have kA := write_hid a
  have kS := write_hid ⟨#[32]⟩
  have kN := write_hid ⟨#[10]⟩
  have kT := fun b => string_hid B b (wordsT a.data.toList ws ++ [10]) t ht
  have HKT := mkHid kT
  have hb0 : Bld B B [] W0 := by rw [hB, hW0]; exact bld_new w
  have HB0 := mkHid hb0
  have HO0 : Hid (Below B w W0) := by show Below _ _ _; rw [hB, hW0]; exact old1 _ _
  have HZ0 : Hid (B ≤ W0.heap.size) := by show _ ≤ _; have := HO0.out.size; omega
  have hla : a.size ≤ 100000000000000 := by
    have h1 := wordsT_le a.data.toList ws 0
    have h2 : (wordsT a.data.toList (ws.take 0)).length = a.size := by
      unfold wordsT
      rw [List.take_zero, List.flatMap_nil, List.append_nil]
      exact Array.length_toList
    omega
  have HLA := mkHid hla
  clear hb0 ht hlen hws hM kT hla hB hW0
  go_enter Tryd.func23, Tryd.ntmps23
  go_upto_region 2 with (fail)
  rw [← HB.out, ← HW0.out]
  go_wp2_with (first
    | (go_at_call 21; (with_reducible refine (kA.out B B [] _ HB0.out (by have := HLA.out; simp; omega) HZ0.out).mono ?_); rintro e w1 ⟨rfl, h1, hb1, -⟩
       have H1 : Hid (Bld B B (wordsT a.data.toList (ws.take 0)) w1) := by show Bld _ _ _ _; simpa [wordsT] using h1
       have HO1 : Hid (Below B w w1) := by show Below _ _ _; exact HO0.out.trans hb1
       clear h1 hb1))
  go_loopw [12] (fun i wr => ∃ k : Nat, k ≤ m ∧ i = .int .i64 k ∧ Hid (Bld B B (wordsT a.data.toList (ws.take k)) wr) ∧ Hid (Below B w wr)) (fun i _ => m - (intOf i).toNat)
  case atStart => exact ⟨0, by omega, rfl, H1, HO1⟩
  case round =>
    obtain ⟨k, hk, rfl, H2, HO2⟩ := hrel
    clear H1 HO1 HB0 kA
    have HZ2 : Hid (B ≤ wr.heap.size) := by
      show _ ≤ _
      have := HO2.out.size
      have := HB.out
      omega
    have hle := wordsT_le a.data.toList ws k
    by_cases hkm : k < m
    · have hk2 : k < ws.length := by rw [← HMM.out]; exact hkm
      obtain ⟨b, off, cap', he, -, hc⟩ := HV.out.form (by omega)
      obtain rfl : ao = some ⟨b, off, none⟩ := by cases he; rfl
      have hx := cell_old2 HO2.out (by rw [HB.out]; exact Nat.le_refl _) (hc k hk2)
      unfold encStr at hx
      obtain ⟨x, hX⟩ : ∃ x : ByteArray, x = ⟨(ws.getD k []).toArray⟩ := ⟨_, rfl⟩
      rw [← hX] at hx
      have kX := write_hid x
      have hsx : x.size = (ws.getD k []).length := by rw [hX]; rfl
      have hse := wordsT_succ a.data.toList ws k hk2
      have hle2 := wordsT_le a.data.toList ws (k + 1)
      have hl3 := HLEN.out
      have hb1 : (wordsT a.data.toList (ws.take k)).length + (⟨#[32]⟩ : ByteArray).size ≤ 140737488355328 := by show _ + 1 ≤ _; omega
      have hb2 : (wordsT a.data.toList (ws.take k) ++ [32]).length + x.size ≤ 140737488355328 := by
        rw [hse] at hle2
        simp only [List.length_append, List.length_singleton] at hle2 ⊢
        omega
      have HB1 := mkHid hb1
      have HB2 := mkHid hb2
      have HE : Hid (wordsT a.data.toList (ws.take k) ++ [32] ++ x.data.toList = wordsT a.data.toList (ws.take (k + 1))) := by show _ = _; rw [hse, hX]
      clear hX hsx hse hle hle2 hl3 hb1 hb2 hc he
      have hk0 : (k : Int) < (m : Int) := by omega
      have hwk : wrap64 ((k : Int) + 1) = (k : Int) + 1 := by have := HWS.out; have := HMM.out; unfold wrap64; omega
      have HWK := mkHid hwk
      go_wp2_with (first
        | (go_at_call 21; (with_reducible refine (kS.out B B _ _ H2.out HB1.out HZ2.out).mono ?_); rintro e w2 ⟨rfl, h2, hb2, -⟩
           have H3 : Hid (Bld B B (wordsT a.data.toList (ws.take k) ++ [32]) w2) := h2
           have HO3 := mkHid (HO2.out.trans hb2)
           have HZ3 : Hid (B ≤ w2.heap.size) := Nat.le_trans HZ2.out hb2.size
           clear h2 hb2)
        | (go_at_call 21; (with_reducible refine (kX.out B B _ _ H3.out HB2.out HZ3.out).mono ?_); rintro e w3 ⟨rfl, h3, hb3, -⟩
           have H4 := mkHid h3
           have HO4 := mkHid (HO3.out.trans hb3)
           clear h3 hb3))
      go_roundw
      case rel => exact ⟨k + 1, by omega, by rw [HWK.out]; go_num, HE.out ▸ H4.out, HO4⟩
      case measure =>
        have e := HWK.out
        rw [e]
        exact meas hkm
    · have hkk : k = m := by omega
      subst hkk
      have HE : Hid (ws.take k = ws) := List.take_of_length_le (by rw [← HMM.out]; exact Nat.le_refl _)
      rw [HE.out] at H2
      have HL1 : Hid ((wordsT a.data.toList ws).length + (⟨#[10]⟩ : ByteArray).size ≤ 140737488355328) := by have := HLEN.out; show _ + 1 ≤ _; omega
      clear hle
      go_wp2_with (first
        | (go_at_call 21; (with_reducible refine (kN.out B B _ _ H2.out HL1.out HZ2.out).mono ?_); rintro e w2 ⟨rfl, h2, hb2, -⟩
           have H3 : Hid (Bld B B (wordsT a.data.toList ws ++ [10]) w2) := h2
           have HO3 := mkHid (HO2.out.trans hb2)
           have HZ3 : Hid (B ≤ w2.heap.size) := Nat.le_trans HZ2.out hb2.size
           clear h2 hb2)
        | (go_at_call 25; (with_reducible refine ((HKT.out B).out _ H3.out HZ3.out).mono ?_); rintro e w3 ⟨rfl, hb3⟩
           have HO4 := mkHid (HO3.out.trans hb3); clear hb3))
      go_ret
      exact ⟨rfl, by have h := HO4.out; rw [HB.out] at h; exact h⟩
end Go.Proofs.YtfkfaaifchafjaaDoor
