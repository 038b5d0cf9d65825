/-
  LzJoins: its walk.
-/
import Derived.Test.YthjnkoagmjcjfaaJca
set_option linter.unusedSimpArgs false
set_option linter.unusedVariables false
namespace Go.Proofs.Ythjnkoagmjcjfaa
open Go.RowKit

theorem join_first (c c1 : Nat) : joinL [] [⟨c, 0, 0⟩, ⟨c1, 0, 0⟩, ⟨0, 5, 2⟩, ⟨0, 1, 1⟩] = some [c, c1, c, c1, c, c1, c, c] := by
  have h0 : stepJ [] ⟨c, 0, 0⟩ = some [c] := rfl
  have h1 : stepJ [c] ⟨c1, 0, 0⟩ = some [c, c1] := stepJ_byte (o := [c]) (s := ⟨c1, 0, 0⟩) ⟨⟨by simp, by simp⟩, fun h => absurd h (by simp), by simp only [List.length_cons, List.length_nil]; omega⟩ rfl
  have h2 : stepJ [c, c1] ⟨0, 5, 2⟩ = some [c, c1, c, c1, c, c1, c] := by
    rw [stepJ_row (o := [c, c1]) (s := ⟨0, 5, 2⟩) ⟨⟨by simp, by simp⟩, fun _ => ⟨by simp, by simp⟩, by simp only [List.length_cons, List.length_nil]; omega⟩ 5 2 (by decide) rfl rfl]
    rfl
  have h3 : stepJ [c, c1, c, c1, c, c1, c] ⟨0, 1, 1⟩ = some [c, c1, c, c1, c, c1, c, c] := by
    rw [stepJ_row (o := [c, c1, c, c1, c, c1, c]) (s := ⟨0, 1, 1⟩) ⟨⟨by simp, by simp⟩, fun _ => ⟨by simp, by simp⟩, by simp only [List.length_cons, List.length_nil]; omega⟩ 1 1 (by decide) rfl rfl]
    rfl
  rw [join_on _ h0, join_on _ h1, join_on _ h2, join_on _ h3]
  rfl

set_option maxRecDepth 100000 in
set_option maxHeartbeats 8000000 in
theorem joins_walk (w : World) (n0 : Int) (c : Nat) (hc : c < 256) :
    Calls Try.prog 4 #[.int .i64 n0, .int .u8 (c : Int)] w fun e w' => e = .returned (.bool true) ∧ Below w.heap.size w w' := by
  have hwk := wakes_hid
  obtain ⟨r, hr, hwi⟩ := within_lit2 n0 200 200 (by decide) rfl (by decide)
  obtain ⟨n, hn⟩ : ∃ n : Nat, n = 1 + r := ⟨_, rfl⟩
  have hn' : (1 : Int) + r = (n : Int) := by omega
  have hn1 : 1 ≤ n := by omega
  have hn2 : n ≤ 200 := by omega
  have hn3 : (1 : Int) ≤ n ∧ (n : Int) ≤ 200 := by omega
  obtain ⟨c1, hc1⟩ : ∃ c1 : Nat, ((c : Int) + 1) % 256 = (c1 : Int) := ⟨(((c : Int) + 1) % 256).toNat, by rw [Int.toNat_of_nonneg (Int.emod_nonneg _ (by decide))]⟩
  have hj1 := join_hid [⟨c, 0, 0⟩, ⟨c1, 0, 0⟩, ⟨0, 5, 2⟩, ⟨0, 1, 1⟩] [c, c1, c, c1, c, c1, c, c] (by simp) (join_first c c1)
  have hs1 := sameB_hid [c, c1, c, c1, c, c1, c, c] (by simp)
  have hl1 : Hid (Tells (w.alloc (.cells #[.int .u8 (c : Int), .int .i64 0, .int .i64 0, .int .u8 (c1 : Int), .int .i64 0, .int .i64 0, .int .u8 0, .int .i64 5, .int .i64 2, .int .u8 0, .int .i64 1, .int .i64 1] 27)) (.slice (some ⟨w.heap.size, 0, none⟩) 4 4) [⟨c, 0, 0⟩, ⟨c1, 0, 0⟩, ⟨0, 5, 2⟩, ⟨0, 1, 1⟩]) := tells_lit w _ _ 27 4 rfl rfl
  have hb0 : Hid (Below w.heap.size w (w.alloc (.cells #[.int .u8 (c : Int), .int .i64 0, .int .i64 0, .int .u8 (c1 : Int), .int .i64 0, .int .i64 0, .int .u8 0, .int .i64 5, .int .i64 2, .int .u8 0, .int .i64 1, .int .i64 1] 27))) := (Below.refl _ _).alloc (Nat.le_refl _) _
  obtain ⟨P, hP⟩ : ∃ P, P = w.heap.size := ⟨_, rfl⟩
  have HP : Hid (P = w.heap.size) := hP
  rw [← hP]
  clear hP hn hr
  go_enter Try.func4, Try.ntmps4
  go_wp2_with (first
    | (go_at_call 8; (with_reducible refine (hwi.out _).mono ?_); rintro e wx ⟨rfl, hx⟩; have hx := hx.symm; subst hx)
    | (go_at_call 11; (with_reducible refine (hj1.out _ _ hl1.out).mono ?_); rintro e w1 ⟨v1, rfl, hy1, hb1⟩
       have B1 : Hid (Below P w w1) := by
         have h := hb0.out
         rw [← HP.out] at h
         exact h.trans (hb1.mono (by have := HP.out; simp; omega))
       have hy2 : Hid (Lies (w1.alloc (.cells #[.int .u8 (c : Int), .int .u8 (c1 : Int), .int .u8 (c : Int), .int .u8 (c1 : Int), .int .u8 (c : Int), .int .u8 (c1 : Int), .int .u8 (c : Int), .int .u8 (c : Int)] 5)) v1 [c, c1, c, c1, c, c1, c, c]) := hy1.old ((Below.refl _ _).alloc (Nat.le_refl _) _)
       have hy3 : Hid (Lies (w1.alloc (.cells #[.int .u8 (c : Int), .int .u8 (c1 : Int), .int .u8 (c : Int), .int .u8 (c1 : Int), .int .u8 (c : Int), .int .u8 (c1 : Int), .int .u8 (c : Int), .int .u8 (c : Int)] 5)) (.slice (some ⟨w1.heap.size, 0, none⟩) 8 8) [c, c1, c, c1, c, c1, c, c]) := lies_lit w1 [c, c1, c, c1, c, c1, c, c] _ rfl
       clear hb1 hy1)
    | (go_at_call 12; (with_reducible refine (hs1.out _ _ _ hy2.out hy3.out).mono ?_); rintro e w2 ⟨rfl, hb2⟩))
  obtain ⟨sl, hsl⟩ := bad_all w2 c n hn1 hn2
  have hW : Below w2.heap.size w2 ((layS w2 (badL c n)).alloc (.cells (badV w2.heap.size) 24)) := (layS_below w2 (badL c n)).alloc (layS_below w2 (badL c n)).size _
  have B2 : Hid (Below P w w2) := by
    have h1 : Below P w (w1.alloc (.cells #[.int .u8 (c : Int), .int .u8 (c1 : Int), .int .u8 (c : Int), .int .u8 (c1 : Int), .int .u8 (c : Int), .int .u8 (c1 : Int), .int .u8 (c : Int), .int .u8 (c : Int)] 5)) := B1.out.alloc (by have := HP.out; have := B1.out.size; omega) _
    exact h1.trans (hb2.mono (by have := HP.out; have := B1.out.size; simp; omega))
  change Code.wp _ _ _ _ ((layS w2 (badL c n)).alloc (.cells (badV w2.heap.size) 24))
  have hP2 : P ≤ w2.heap.size := by have := HP.out; have := B2.out.size; omega
  have HW : Hid (Below P w ((layS w2 (badL c n)).alloc (.cells (badV w2.heap.size) 24))) := B2.out.trans (hW.mono hP2)
  generalize (layS w2 (badL c n)).alloc (.cells (badV w2.heap.size) 24) = W at hsl HW ⊢
  generalize w2.heap.size + 6 = Bk at hsl ⊢
  clear hW hb2 hP2 hy2 hy3 hj1 hs1 hl1 hb0
  obtain ⟨C, hC⟩ : ∃ C, C = W.heap.size := ⟨_, rfl⟩
  have HC : Hid (C = W.heap.size) := hC
  clear hC
  go_loopw [84] (fun i wr => ∃ k : Nat, k ≤ 6 ∧ i = .int .i64 k ∧ Below C W wr) (fun i _ => 6 - (intOf i).toNat)
  case atStart => exact ⟨0, by omega, rfl, Below.refl _ _⟩
  case round =>
    obtain ⟨k, hk, rfl, hb⟩ := hrel
    by_cases hk6 : k < 6
    · obtain ⟨h1, l, hl2, hl3, hl4⟩ := hsl.out k hk6
      have c1' := cell_old (HC.out ▸ hb) h1
      have hT : Hid (Tells wr (sl k) l) := hl4.old (HC.out ▸ hb)
      have hj := join_bad l (by omega) hl3
      clear h1 hl4 hl2 hl3
      go_wp2_with (first
        | (go_at_call 11; (with_reducible refine (hj.out _ _ hT.out).mono ?_); rintro e w3 ⟨rfl, hb3⟩))
      go_roundw
      case rel => exact ⟨k + 1, by omega, by go_num, hb.trans (hb3.mono (by have := HC.out; have := hb.size; omega))⟩
      case measure => simp [intOf]; omega
    · have hkk : k = 6 := by omega
      subst hkk
      have HB : Hid (Below P w wr) := HW.out.trans (hb.mono (by have := HC.out; have := HP.out; have := HW.out.size; omega))
      clear hsl hb
      go_wp2
      try rw [show ((6 : Nat) : Int) = 6 from rfl]
      obtain ⟨out, hol, hjm1, hjm2⟩ := join_most c
      obtain ⟨p, hp⟩ : ∃ p, p = out.length := ⟨_, rfl⟩
      have hp2 : ((p : Int) == 65536) = true := by rw [beq_iff_eq]; omega
      have hjm := join_hid (⟨c, 0, 0⟩ :: List.replicate 257 ⟨0, 255, 1⟩) out (by rw [List.length_cons, List.length_replicate]; omega) hjm1
      have hjn := join_bad _ (by rw [List.length_append, List.length_cons, List.length_replicate, List.length_singleton]; omega) hjm2
      have HPO : Hid (p = out.length) := hp
      clear hjm1 hjm2 hp hol
      obtain ⟨Q, hQ⟩ : ∃ Q, Q = wr.heap.size := ⟨_, rfl⟩
      have hst : (wr.alloc (.cells #[.int .u8 (c : Int), .int .i64 0, .int .i64 0] 27)).ownsRow Q 27 3 (.slice (some ⟨Q, 0, none⟩) 1 1) 1 (cellsL [⟨c, 0, 0⟩]) := by
        rw [hQ]
        exact ⟨rfl, .inr ⟨wr.heap.size, 1, _, rfl, Nat.le_refl _, heap_alloc_new wr _, Nat.le_refl _, by decide, rfl, rfl⟩⟩
      have hsb : Below Q wr (wr.alloc (.cells #[.int .u8 (c : Int), .int .i64 0, .int .i64 0] 27)) := by
        rw [hQ]; exact (Below.refl _ _).alloc (Nat.le_refl _) _
      rw [← hQ]
      have HQ : Hid (Q = wr.heap.size) := hQ
      clear hQ
      generalize wr.alloc (.cells #[.int .u8 (c : Int), .int .i64 0, .int .i64 0] 27) = W3 at hst hsb ⊢
      have HB3 : Hid (Below P w W3) := HB.out.trans (hsb.mono (by have := HQ.out; have := HP.out; have := HB.out.size; omega))
      have HPQ : Hid (P ≤ Q) := by show _ ≤ _; have := HQ.out; have := HP.out; have := HB.out.size; omega
      have hQ3 : Q ≤ W3.heap.size := by have := HQ.out; have := hsb.size; omega
      have HQ3 : Hid (Q ≤ W3.heap.size) := hQ3
      clear hsb HQ HB hQ3
      go_loopw [11, 12] (fun lv i wz => ∃ (k n : Nat) (l : List St), Hid (k ≤ 257) ∧ i = .int .i64 k ∧ Hid (l = ⟨c, 0, 0⟩ :: List.replicate k ⟨0, 255, 1⟩) ∧ Hid (n = k + 1) ∧ wz.ownsRow Q 27 3 lv n (cellsL l) ∧ Hid (Below P w wz) ∧ Hid (Q ≤ wz.heap.size)) (fun _ i _ => 257 - (intOf i).toNat)
      case atStart => exact ⟨0, 1, [⟨c, 0, 0⟩], (by decide : 0 ≤ 257), rfl, rfl, rfl, hst, HB3, HQ3⟩
      case round =>
        obtain ⟨k, n', l, HK, rfl, HL, HNK, hown, HBz, HQz⟩ := hrel
        clear hst HB3 HQ3
        by_cases hk : k < 257
        · have hk' : (k : Int) < 257 := by omega
          have HK1 : Hid (k + 1 ≤ 257) := hk
          have hn5 : n' + 1 ≤ 5864062014805 := by have := HNK.out; have := HK.out; omega
          clear hk
          go_wp2_with (first
            | (at_builtin; refine wpList_pushSt rfl 24 27 (.tmp 107) (.tmp 109) rfl Try.underlying24 Try.info27 Q _ n' _ rfl hown _ _ _ ⟨rfl, rfl, rfl⟩ wr.heap.size rfl rfl hn5 HQz.out ?_
               intro g2 cap2 w5 ho5 hf5 hat5 hb5
               clear hf5 hat5))
          go_roundw
          case rel =>
            refine ⟨k + 1, n' + 1, l ++ [⟨0, 255, 1⟩], HK1.out, by go_num, ?_, ?_, ?_, ?_, ?_⟩
            · show _ = _; rw [HL.out, List.replicate_succ', List.cons_append]
            · show _ = _; rw [HNK.out]
            · rw [cellsL_append, cellsL_one]; exact ho5
            · exact HBz.out.trans (hb5.mono HPQ.out)
            · show _ ≤ _; have := hb5.size; have := HQz.out; omega
          case measure => have := HK1.out; simp [intOf]; omega
        · have hkk : k = 257 := by have := HK.out; omega
          subst hkk
          have hl := HL.out
          have hnk := HNK.out
          subst hl hnk
          have hT : Hid (Tells wr u11 (⟨c, 0, 0⟩ :: List.replicate 257 ⟨0, 255, 1⟩)) := tells_own (T := 27) (B := Q) (by
            show wr.ownsRow _ _ _ _ _ _
            have e : (⟨c, 0, 0⟩ :: List.replicate 257 ⟨0, 255, 1⟩ : List St).length = 257 + 1 := by simp
            rw [e]; exact hown)
          clear hk HK HL HNK
          go_wp2_with (first
            | (go_at_call 11; (with_reducible refine (hjm.out _ _ hT.out).mono ?_); rintro e w5 ⟨v5, rfl, hl5, hb5⟩
               obtain ⟨ao5, cap5, rfl, hx5⟩ := hl5.cell
               rw [← HPO.out]
               have hown5 := owns_below hown hb5
               have hQ5 : Q ≤ w5.heap.size := by have := HQz.out; have := hb5.size; omega
               clear hx5 hl5 hown)
            | (at_builtin; refine wpList_pushSt rfl 24 27 (.tmp 117) (.tmp 120) rfl Try.underlying24 Try.info27 Q _ (257 + 1) _ rfl hown5 _ _ _ ⟨rfl, rfl, rfl⟩ w5.heap.size rfl rfl (by decide) hQ5 ?_
               intro g6 cap6 w6 ho6 hf6 hat6 hb6
               have hT6 : Hid (Tells w6 (.slice (some ⟨g6, 0, none⟩) (257 + 1 + 1) cap6) (⟨c, 0, 0⟩ :: List.replicate 257 ⟨0, 255, 1⟩ ++ [⟨c, 0, 0⟩])) := tells_own (T := 27) (B := Q) (steps_push (by simp) ho6)
               clear hf6 hat6 ho6 hown5)
            | (go_at_call 11; (with_reducible refine (hjn.out _ _ hT6.out).mono ?_); rintro e w7 ⟨rfl, hb7⟩)
            | (go_at_call 13; (with_reducible refine (hwk.out _).mono ?_); rintro e w8 ⟨rfl, hb8⟩))
          go_ret
          refine ⟨rfl, ?_⟩
          have hPQ := HPQ.out
          have s5 := hb5.size
          have s6 := hb6.size
          have s7 := hb7.size
          have sz := HQz.out
          exact (((HBz.out.trans (hb5.mono (by omega))).trans (hb6.mono hPQ)).trans (hb7.mono (by omega))).trans (hb8.mono (by omega))

theorem joins_any (w : World) (n0 c : Int) (h : 0 ≤ c ∧ c < 256) : Calls Try.prog 4 #[.int .i64 n0, .int .u8 c] w fun e w' => e = .returned (.bool true) ∧ Below w.heap.size w w' := by
  obtain ⟨k, rfl⟩ := Int.eq_ofNat_of_zero_le h.1
  exact joins_walk w n0 k (by omega)
end Go.Proofs.Ythjnkoagmjcjfaa
