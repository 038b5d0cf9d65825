/-
  LzBack: its walk.
-/
import Derived.Test.YthjnkoagmjcjfaaTa
import Derived.Test.YthjnkoagmjcjfaaSf
set_option linter.unusedSimpArgs false
set_option linter.unusedVariables false
namespace Go.Proofs.Ythjnkoagmjcjfaa
open Go.RowKit

theorem back_fits (t : List Nat) (a : Nat) (h : a < t.length) : (stepOf t a = ⟨t.getD a 0, 0, 0⟩ ∧ wide t a = 1) ∨ ∃ L D : Nat, stepOf t a = ⟨0, L, D⟩ ∧ wide t a = L ∧ 3 ≤ L ∧ L ≤ 258 ∧ a + L ≤ t.length ∧ 1 ≤ D ∧ D ≤ a ∧ D ≤ 1024 ∧ ∀ k, k < L → t.getD (a - D + k) 0 = t.getD (a + k) 0 := by
  have hs := best_spec t a (min 1024 a)
  have hf := fun L D => longest_fits t a L D h
  obtain ⟨L, D, hLD⟩ : ∃ L D, best t a (min 1024 a) = (L, D) := ⟨_, _, rfl⟩
  rw [hLD] at hs
  rcases hf L D hLD with ⟨h1, h2, h3, h4⟩ | ⟨h3, hL258, hLN, hD1, hDk, hse, hwe⟩
  · exact .inl ⟨h3, h4⟩
  · refine .inr ⟨L, D, hse, hwe, h3, hL258, hLN, hD1, hDk, ?_, ?_⟩
    · obtain ⟨_, _, h5, _⟩ := hs.some (by simp only; omega)
      simp only at h5; omega
    · obtain ⟨_, _, h5, h6⟩ := hs.some (by simp only; omega)
      simp only at h6
      have := lik_spec t (a - D) a (by omega)
      rw [← h6] at this
      exact this.eq

theorem join_hid (l : List St) (out : List Nat) (hl : l.length ≤ 140737488355328) (h : joinL [] l = some out) : Hid (∀ w v, Tells w v l → Calls Try.prog 11 #[v] w fun e w' => ∃ v', e = .returned (.tuple #[v', .bool true]) ∧ Lies w' v' out ∧ Below w.heap.size w w') := by
  intro w v hv
  refine (join_walk w v l hv hl).mono ?_
  rintro e w' ⟨⟨out', v', h1, rfl, h2⟩ | ⟨h1, _⟩, hb⟩
  · rw [h] at h1
    cases h1
    exact ⟨v', rfl, lies_own h2, hb⟩
  · rw [h] at h1; cases h1

theorem join_bad (l : List St) (hl : l.length ≤ 140737488355328) (h : joinL [] l = none) : Hid (∀ w v, Tells w v l → Calls Try.prog 11 #[v] w fun e w' => e = .returned (.tuple #[.slice none 0 0, .bool false]) ∧ Below w.heap.size w w') := by
  intro w v hv
  refine (join_walk w v l hv hl).mono ?_
  rintro e w' ⟨⟨out', v', h1, rfl, h2⟩ | ⟨h1, rfl⟩, hb⟩
  · rw [h] at h1; cases h1
  · exact ⟨rfl, hb⟩

theorem sameB_hid (xs : List Nat) (hl : xs.length ≤ 281474976710656) : Hid (∀ w u v, Lies w u xs → Lies w v xs → Calls Try.prog 12 #[u, v] w fun e w' => e = .returned (.bool true) ∧ Below w.heap.size w w') := by
  intro w u v hu hv
  refine (same_any w u v xs xs hu hv hl).mono ?_
  rintro e w' ⟨rfl, hb⟩
  exact ⟨by simp, hb⟩

theorem text_hid (w : World) (v u1 u2 : Value) (bs : List Nat) (zs ys : List Int) (hv : Lies w v bs) (hu1 : Ints w u1 zs) (hu2 : Ints w u2 ys) (hbl : bs.length ≤ 140737488355328) (hzl : zs.length ≤ 140737488355328) (hyl : ys.length ≤ 140737488355328) :
    Hid (Calls Try.prog 14 #[v, u1, u2] w fun e w' => Texted w.heap.size w' e ∧ Below w.heap.size w w') := text_walk w v u1 u2 bs zs ys hv hu1 hu2 hbl hzl hyl

theorem runL_cons {t : List Nat} {f a : Nat} {l : List St} {s : St} (h : s :: l = runL t f a) (hf : t.length - a ≤ f) : a < t.length ∧ s = stepOf t a ∧ l = runL t (f - 1) (a + wide t a) := by
  by_cases ha : a < t.length
  · rw [runL_step t f a ha hf] at h
    injection h with h1 h2
    exact ⟨ha, h1, h2⟩
  · rw [runL_end t f a (by omega)] at h
    cases h

theorem runL_nil {t : List Nat} {f a : Nat} (h : [] = runL t f a) (hf : t.length - a ≤ f) (ha : a ≤ t.length) : a = t.length := by
  by_cases ha' : a < t.length
  · rw [runL_step t f a ha' hf] at h
    cases h
  · omega

set_option maxRecDepth 100000 in
set_option maxHeartbeats 8000000 in
theorem back_law (w : World) (v u1 u2 : Value) (bs : List Nat) (zs ys : List Int) (hv : Lies w v bs) (hu1 : Ints w u1 zs) (hu2 : Ints w u2 ys) (hbl : bs.length ≤ 140737488355328) (hzl : zs.length ≤ 140737488355328) (hyl : ys.length ≤ 140737488355328) :
    Calls Try.prog 6 #[v, u1, u2] w fun e w' => e = .returned (.bool true) ∧ Below w.heap.size w w' := by
  have htx := text_hid w v u1 u2 bs zs ys hv hu1 hu2 hbl hzl hyl
  have hwk := wakes_hid
  clear hv hu1 hu2 hbl hzl hyl
  obtain ⟨P, hP⟩ : ∃ P, P = w.heap.size := ⟨_, rfl⟩
  rw [← hP] at htx ⊢
  have HP : Hid (P = w.heap.size) := hP
  clear hP
  go_enter Try.func6, Try.ntmps6
  go_wp2_with (first
    | (go_at_call 14; (with_reducible refine htx.out.mono ?_); rintro e w1 ⟨⟨v1, t, rfl, ho1, htl⟩, hb1⟩
       have hsp := split_hid t (splitL t) rfl (by omega)
       have hly : Lies w1 v1 t := lies_own ho1
       have HTL : Hid (t.length ≤ 712) := htl
       have HLY : Hid (Lies w1 v1 t) := hly
       clear ho1 htl hly)
    | (go_at_call 9; (with_reducible refine (hsp.out _ _ HLY.out).mono ?_); rintro e w2 ⟨v2, rfl, ht2, hb2⟩
       obtain ⟨la, lcap, rfl, hlc⟩ := ht2.cells
       have HT2 : Hid (Tells w2 (.slice la (splitL t).length lcap) (splitL t)) := ht2
       clear ht2))
  obtain ⟨va, vcap, rfl, hvc⟩ := HLY.out.cell
  obtain ⟨n, hn⟩ : ∃ n, n = (splitL t).length := ⟨_, rfl⟩
  obtain ⟨N, hN⟩ : ∃ N, N = t.length := ⟨_, rfl⟩
  have hjo := join_hid (splitL t) t (by have := runL_len t t.length 0; have := HTL.out; unfold splitL; omega) (join_split t (by have := HTL.out; omega))
  have hsb := sameB_hid t (by have := HTL.out; omega)
  have hvc2 : 0 < t.length → ∃ a, va = some a ∧ ∀ k, k < t.length → w2.cell? (a.add k) = some (.int .u8 (t.getD k 0 : Nat)) := fun h => by
    obtain ⟨a, h1, h2⟩ := hvc h
    exact ⟨a, h1, fun k hk => cell_old hb2 (h2 k hk)⟩
  have HLY2 : Hid (Lies w2 (.slice va t.length vcap) t) := HLY.out.old hb2
  have HB2 : Hid (Below P w w2) := hb1.trans (hb2.mono (by have := HP.out; have := hb1.size; omega))
  have hnn : (n : Int) ≤ 1000 := by have := runL_len t t.length 0; have := HTL.out; rw [hn]; unfold splitL; omega
  have hNN : (N : Int) ≤ 1000 := by have := HTL.out; omega
  rw [← hn] at hlc HT2 ⊢
  rw [← hN] at hvc2 HLY2 ⊢
  have HN : Hid (n = (splitL t).length ∧ N = t.length) := ⟨hn, hN⟩
  clear hn hN hvc hb2 hb1 htx hsp HLY
  obtain ⟨C, hC⟩ : ∃ C, C = w2.heap.size := ⟨_, rfl⟩
  have HC : Hid (C = w2.heap.size) := hC
  clear hC
  go_loopw [9, 23] (fun x i wr => ∃ (j a f : Nat), j ≤ n ∧ a ≤ N ∧ i = .int .i64 j ∧ x = .int .i64 a ∧ Hid ((splitL t).drop j = runL t f a) ∧ Hid (t.length - a ≤ f) ∧ Below C w2 wr) (fun _ i _ => n - (intOf i).toNat)
  case atStart => exact ⟨0, 0, N, by omega, by omega, rfl, rfl, by show _ = _; rw [HN.out.2, List.drop_zero]; rfl, by show _ ≤ _; rw [HN.out.2]; omega, Below.refl _ _⟩
  case round =>
    obtain ⟨j, a, f, hjn, haN, rfl, rfl, HD, HF, hb⟩ := hrel
    have hCw : C ≤ wr.heap.size := by have := HC.out; have := hb.size; omega
    by_cases hj : j < n
    · obtain ⟨lg, lof, rfl, hcs⟩ := hlc (by omega)
      obtain ⟨d1, d2, d3⟩ := hcs j hj
      have hrc := runL_cons (s := nthS (splitL t) j) (l := (splitL t).drop (j + 1)) (f := f) (a := a) (by rw [← drop_step _ _ (by rw [← HN.out.1]; exact hj)]; exact HD.out) HF.out
      obtain ⟨ha, hse, hdr⟩ := hrc
      rw [hse] at d1 d2 d3
      have d1 := cell_old (HC.out ▸ hb) d1
      have d2 := cell_old (HC.out ▸ hb) d2
      have d3 := cell_old (HC.out ▸ hb) d3
      have haN2 : a < N := by rw [HN.out.2]; exact ha
      obtain ⟨A, rfl, hva⟩ := hvc2 (by omega)
      have HVA : Hid (∀ k, k < N → w2.cell? (A.add k) = some (.int .u8 (t.getD k 0 : Nat))) := hva
      clear hse hlc hcs hva hvc2
      rcases back_fits t a ha with ⟨hs, hw⟩ | ⟨L, D, hs, hw, h3, hL, hLN, hD1, hDa, hD1024, heq⟩
      · rw [hs] at d1 d2 d3
        rw [hw] at hdr
        simp only at d1 d2 d3
        have cx := cell_old (HC.out ▸ hb) (HVA.out a haN2)
        obtain ⟨x, hx⟩ : ∃ x, x = t.getD a 0 := ⟨_, rfl⟩
        rw [← hx] at d1 cx
        have HDR : Hid ((splitL t).drop (j + 1) = runL t (f - 1) (a + 1)) := hdr
        clear hdr hx hs hw ha
        have hCX : Hid (wr.cell? (A.add a) = some (.int .u8 (x : Int))) := cx
        clear cx
        go_wp2_with (first
          | (refine wpList_store_row rfl 27 (.tmp 11) (.tmp 26) rfl wr.heap.size #[.int .u8 (x : Int), .int .i64 0, .int .i64 0] rfl rfl 27 _ (heap_alloc_new wr _) Try.size27 rfl (stC_one x 0 0) ?_
             rw [World.setRow_alloc_new]
             have q1 := heap_alloc_new wr (.cells #[.int .u8 (x : Int), .int .i64 0, .int .i64 0] 27)
             have q2 : Below wr.heap.size wr (wr.alloc (.cells #[.int .u8 (x : Int), .int .i64 0, .int .i64 0] 27)) := (Below.refl _ _).alloc (Nat.le_refl _) _
             have q3 := cell_old q2 hCX.out
             generalize hq : wr.heap.size = q at *
             generalize wr.alloc (.cells #[.int .u8 (x : Int), .int .i64 0, .int .i64 0] 27) = w3 at *
             have r0 := cell3_0 q1
             have r1 := cell3_1 q1
             have r2 := cell3_2 q1
             have r3 : Hid (Below q wr w3) := q2
             clear q1 q2 d1 d2 d3))
        have e1 : decide ((N : Int) ≤ (a : Int)) = false := by simp; omega
        have e2 : ((x : Int) != (x : Int)) = false := by simp
        go_quiet (fail)
        go_wp2
        go_roundw
        case rel =>
          refine ⟨j + 1, a + 1, f - 1, by omega, by omega, by go_num, by go_num, HDR.out, ?_, ?_⟩
          · show _ ≤ _; have := HF.out; have := HN.out.2; omega
          · exact (hb.trans (r3.out.mono hCw)).trans ⟨rfl, rfl, rfl, Nat.le_refl _, fun _ _ => rfl⟩
        case measure => simp [intOf]; omega
      · rw [hs] at d1 d2 d3
        rw [hw] at hdr
        simp only at d1 d2 d3
        have HDR : Hid ((splitL t).drop (j + 1) = runL t (f - 1) (a + L)) := hdr
        have HEQ : Hid (∀ k, k < L → t.getD (a - D + k) 0 = t.getD (a + k) 0) := heq
        have hLN2 : a + L ≤ N := by rw [HN.out.2]; exact hLN
        have hDd : decide ((1024 : Int) < (D : Int)) = false := by simp; omega
        have hL0 : ((L : Int) == 0) = false := by simp; omega
        have hL3 : (3 : Int) ≤ L ∧ (L : Int) ≤ 258 := by omega
        have hD2 : (1 : Int) ≤ D ∧ (D : Int) ≤ a := by omega
        have hLN3 : (a : Int) + L ≤ N := by omega
        clear hdr heq hs hw ha hLN hD1024
        go_wp2_with (first
          | (refine wpList_store_row rfl 27 (.tmp 11) (.tmp 26) rfl wr.heap.size #[.int .u8 0, .int .i64 (L : Int), .int .i64 (D : Int)] rfl rfl 27 _ (heap_alloc_new wr _) Try.size27 rfl (stC_one 0 L D) ?_
             rw [World.setRow_alloc_new]
             have q1 := heap_alloc_new wr (.cells #[.int .u8 0, .int .i64 (L : Int), .int .i64 (D : Int)] 27)
             have q2 : Below wr.heap.size wr (wr.alloc (.cells #[.int .u8 0, .int .i64 (L : Int), .int .i64 (D : Int)] 27)) := (Below.refl _ _).alloc (Nat.le_refl _) _
             generalize hq : wr.heap.size = q at *
             generalize wr.alloc (.cells #[.int .u8 0, .int .i64 (L : Int), .int .i64 (D : Int)] 27) = w3 at *
             have r0 := cell3_0 q1
             have r1 := cell3_1 q1
             have r2 := cell3_2 q1
             have R0 : Hid (w3.heap[q]? = some (.cells #[.int .u8 0, .int .i64 (L : Int), .int .i64 (D : Int)] 27 (0, 0))) := q1
             have r3 : Hid (Below C w2 w3) := hb.trans (q2.mono hCw)
             clear q1 q2 d1 d2 d3))
        go_loopw [12] (fun i wz => ∃ k : Nat, k ≤ L ∧ i = .int .i64 k ∧ Hid (wz.heap[q]? = some (.cells #[.int .u8 0, .int .i64 (L : Int), .int .i64 (D : Int)] 27 (0, 0))) ∧ Hid (Below C w2 wz)) (fun i _ => L - (intOf i).toNat)
        case atStart => exact ⟨0, by omega, rfl, R0, r3⟩
        case round =>
          obtain ⟨k, hkL, rfl, HQ, HBz⟩ := hrel
          clear r0 r1 r2 R0 r3
          have c1 := cell3_1 HQ.out
          have c2 := cell3_2 HQ.out
          by_cases hk : k < L
          · have x1 := cell_old (HC.out ▸ HBz.out) (HVA.out (a + k) (by omega))
            have x2 := cell_old (HC.out ▸ HBz.out) (HVA.out (a + k - D) (by omega))
            have e : t.getD (a + k - D) 0 = t.getD (a + k) 0 := by
              rw [← HEQ.out k hk]
              congr 1; omega
            rw [e] at x2
            obtain ⟨y, hy⟩ : ∃ y, y = t.getD (a + k) 0 := ⟨_, rfl⟩
            rw [← hy] at x1 x2
            clear hy e
            have i1 : 0 ≤ (a : Int) + k ∧ (a : Int) + k < N := by omega
            have i2 : 0 ≤ (a : Int) + k - D ∧ (a : Int) + k - D < N := by omega
            have t1 : ((a : Int) + k).toNat = a + k := by omega
            have t2 : ((a : Int) + k - D).toNat = a + k - D := by omega
            have e2 : ((y : Int) != (y : Int)) = false := by simp
            go_wp2
            go_quiet (fail)
            go_wp2
            go_roundw
            case rel => exact ⟨k + 1, by omega, by go_num, HQ, HBz.out.trans ⟨rfl, rfl, rfl, Nat.le_refl _, fun _ _ => rfl⟩⟩
            case measure => simp [intOf]; omega
          · have hkk : k = L := by omega
            subst hkk
            go_wp2
            go_roundw
            case rel =>
              refine ⟨j + 1, a + k, f - 1, by omega, by omega, by go_num, by go_num, HDR.out, ?_, HBz.out⟩
              show _ ≤ _; have := HF.out; have := HN.out.2; omega
            case measure => simp [intOf]; omega
    · have hjj : j = n := by omega
      subst hjj
      have haN2 : a = N := by
        rw [HN.out.2]
        have h := HD.out
        rw [List.drop_of_length_le (by rw [HN.out.1]; exact Nat.le_refl _)] at h
        exact runL_nil h HF.out (by rw [← HN.out.2]; exact haN)
      subst haN2
      have hT := HT2.out.old (HC.out ▸ hb)
      have hY := HLY2.out.old (HC.out ▸ hb)
      clear hlc hvc2
      go_wp2_with (first
        | (go_at_call 11; (with_reducible refine (hjo.out _ _ hT).mono ?_); rintro e w5 ⟨v5, rfl, hl5, hb5⟩
           have hY5 := hY.old hb5)
        | (go_at_call 12; (with_reducible refine (hsb.out _ _ _ hl5 hY5).mono ?_); rintro e w6 ⟨rfl, hb6⟩)
        | (go_at_call 13; (with_reducible refine (hwk.out _).mono ?_); rintro e w7 ⟨rfl, hb7⟩))
      go_ret
      refine ⟨rfl, ?_⟩
      have z1 : Below P w wr := HB2.out.trans (hb.mono (by have := HC.out; have := HP.out; have := HB2.out.size; omega))
      have zP : P ≤ wr.heap.size := by have := HP.out; have := z1.size; omega
      have z2 := z1.trans (hb5.mono zP)
      have z3 := z2.trans (hb6.mono (by have := hb5.size; omega))
      exact z3.trans (hb7.mono (by have := hb5.size; have := hb6.size; omega))
end Go.Proofs.Ythjnkoagmjcjfaa
