/-
  AdlerParts: the law's walk.
-/
import Derived.Test.YtnldjcjhhenppaaAc
set_option linter.unusedSimpArgs false
set_option linter.unusedVariables false
namespace Go.Proofs.Ytnldjcjhhenppaa
open Go.RowKit

theorem of_hid (bs : List Nat) (S : Nat) (hS : S = sumOf bs) (hs : Small bs) (hl : bs.length ≤ 281474976710656) : Hid (∀ w v, Lies w v bs → Calls Try.prog 8 #[v] w fun e w' => e = .returned (.int .i64 (S : Nat)) ∧ w' = w) := by
  subst hS
  exact fun w v h => of_walk w v bs h hs hl

theorem small_snoc {bs : List Nat} {x : Nat} (h : Small bs) (hx : x < 256) : Small (bs ++ [x]) := by
  intro b hb
  rcases List.mem_append.1 hb with hb | hb
  · exact h b hb
  · simp at hb; omega

theorem one_sum (x : Nat) (hx : x < 256) : sumOf [x] = (1 + x) * 65537 := by
  simp only [sumOf, adl, stp, List.foldl]
  omega

theorem parts_num (S : Nat) (A C : Nat) (hA : A < 65521) (hC : C < 65521) (h : S = C * 65536 + A) : (S : Int).tmod 65536 = A ∧ (S : Int).tdiv 65536 = C := by
  subst h
  rw [Int.tmod_eq_emod_of_nonneg (by omega), Int.tdiv_eq_ediv_of_nonneg (by omega)]
  omega

set_option maxRecDepth 100000 in
set_option maxHeartbeats 4000000 in
theorem parts_law (w : World) (v : Value) (bs : List Nat) (x : Nat) (hx : x < 256) (hv : Lies w v bs) (hs : Small bs) (hl : bs.length ≤ 140737488351232) :
    Calls Try.prog 3 #[v, .int .u8 (x : Int)] w fun e w' => e = .returned (.bool true) ∧ Below w.heap.size w w' := by
  obtain ⟨A, C, hAC⟩ : ∃ A C, (A, C) = adl bs := ⟨_, _, rfl⟩
  have hlt := adl_lt bs
  rw [← hAC] at hlt
  obtain ⟨hA, hC⟩ := hlt
  obtain ⟨S, hS⟩ : ∃ S, S = sumOf bs := ⟨_, rfl⟩
  have hS1 : S = C * 65536 + A := by rw [hS]; unfold sumOf; rw [← hAC]
  obtain ⟨A2, hA2⟩ : ∃ A2, A2 = (A + x) % 65521 := ⟨_, rfl⟩
  obtain ⟨C2, hC2⟩ : ∃ C2, C2 = (C + A2) % 65521 := ⟨_, rfl⟩
  obtain ⟨T, hT⟩ : ∃ T, T = sumOf (bs ++ [x]) := ⟨_, rfl⟩
  have hT1 : T = C2 * 65536 + A2 := by
    rw [hT]; unfold sumOf; rw [adl_snoc, ← hAC, hC2, hA2]; rfl
  obtain ⟨U, hU⟩ : ∃ U, U = sumOf [x] := ⟨_, rfl⟩
  have hU1 : U = (1 + x) * 65537 := by rw [hU]; exact one_sum x hx
  have k1 := of_hid bs S hS hs (by omega)
  have k2 := of_hid (bs ++ [x]) T hT (small_snoc hs hx) (by simp; omega)
  have k3 := of_hid [x] U hU (by intro b hb; simp at hb; omega) (by simp)
  have kc : Hid (Calls Try.prog 9 #[v] w fun e w' => ∃ v', e = .returned v' ∧ w'.ownsRow w.heap.size 5 1 v' bs.length (bs.map byteV) ∧ Below w.heap.size w w') := copy_walk w v bs hv (by omega)
  have kw := wakes_hid
  obtain ⟨e1, e2⟩ := parts_num S A C hA hC hS1
  have HV := mkHid hv
  have HL := mkHid hl
  have HT1 := mkHid hT1
  have HU1 := mkHid hU1
  have HA2 := mkHid hA2
  have HC2 := mkHid hC2
  have hA2l : A2 < 65521 := by omega
  have hC2l : C2 < 65521 := by omega
  have r1 : ((A : Int) + (x : Int)).tmod 65521 = A2 := by rw [Int.tmod_eq_emod_of_nonneg (by omega)]; omega
  have r2 : ((C : Int) + (A2 : Int)).tmod 65521 = C2 := by rw [Int.tmod_eq_emod_of_nonneg (by omega)]; omega
  have g1 : ((T : Int) == (C2 : Int) * 65536 + (A2 : Int)) = true := by simp; omega
  have g2 : ((U : Int) == (1 + (x : Int)) * 65537) = true := by simp; omega
  have hxi : (x : Int) < 256 := by omega
  clear hS hT hU hS1 hT1 hU1 hAC hv hl hA2 hC2 HA2 HC2 HT1 HU1
  go_enter Try.func3, Try.ntmps3
  go_wp2_with (first
    | (go_at_call 8; (with_reducible refine (k1.out _ _ HV.out).mono ?_); rintro e w2 ⟨rfl, rfl⟩; clear k1)
    | (go_at_call 9; (with_reducible refine kc.out.mono ?_); rintro e w3 ⟨v3, rfl, o3, b3⟩; have O3 := mkHid o3; have hz3 := b3.size; have B3 := mkHid b3; clear o3 b3 kc)
    | (at_builtin; refine wpList_pushB rfl (.tmp 24) (.tmp 26) rfl w2.heap.size _ _ _ rfl O3.out x _ rfl _ rfl rfl (by have := HL.out; omega) hz3 ?_; intro v4 w4 o4 b4
       have L4 : Hid (Lies w4 v4 (bs ++ [x])) := lies_n (by simp) (show w4.ownsRow w2.heap.size 5 1 v4 (bs.length + 1) ((bs ++ [x]).map byteV) by simpa using o4)
       have B4 := mkHid (B3.out.trans b4)
       clear o4 b4)
    | (go_at_call 8; (with_reducible refine (k2.out _ _ L4.out).mono ?_); rintro e w5 ⟨rfl, rfl⟩
       have L5 : Hid (Lies (w5.alloc (.cells #[.int .u8 (x : Int)] 5)) (.slice (some ⟨w5.heap.size, 0, none⟩) 1 1) [x]) := lies_lit w5 [x] _ rfl)
    | (go_at_call 8; (with_reducible refine (k3.out _ _ L5.out).mono ?_); rintro e w6 ⟨rfl, rfl⟩)
    | (go_at_call 10; (with_reducible refine (kw.out _).mono ?_); rintro e w7 ⟨rfl, b7⟩))
  go_ret
  refine ⟨rfl, ?_⟩
  have h1 := B4.out
  have h2 := h1.alloc h1.size (.cells #[.int .u8 (x : Int)] 5)
  exact h2.trans (b7.mono (by have := h1.size; simp; omega))

/-- The law, at any byte. -/
theorem parts_any (w : World) (v : Value) (bs : List Nat) (x : Int) (hx : 0 ≤ x ∧ x < 256) (hv : Lies w v bs) (hs : Small bs) (hl : bs.length ≤ 140737488351232) :
    Calls Try.prog 3 #[v, .int .u8 x] w fun e w' => e = .returned (.bool true) ∧ Below w.heap.size w w' := by
  have h := parts_law w v bs x.toNat (by omega) hv hs hl
  rwa [Int.toNat_of_nonneg hx.1] at h

end Go.Proofs.Ytnldjcjhhenppaa
