/-
  FlatePacks: its walk.
-/
import Derived.Test.YtdokpimhhkbdbaaDoorEc
set_option linter.unusedSimpArgs false
set_option linter.unusedVariables false
namespace Go.Proofs.YtdokpimhhkbdbaaDoor.Q
open Go.RowKit

theorem made_zero (n : Nat) (hn : n ≤ 140737488351232) (N : Int) (hN : N = n) (wx : World) :
    (Instr.makeSlice 22 (.int .i64 N) (.int .i64 N)).run Tryd.prog wx = .ok (.slice (some ⟨wx.heap.size, 0, none⟩) n n) (wx.alloc (.cells (Array.replicate n (byteV 0)) 5)) := by
  subst hN
  obtain ⟨i, hi, hz0, hz1, hz2⟩ := info_parts Tryd.info5
  have h := run_make (P := Tryd.prog) wx 22 5 i (.int .u8 0) Lz.Tryd.underlying23 hi hz0 .i64 .i64 (n : Int) (n : Int) (by omega) (by omega) (by rw [hz2]; omega) (by omega)
  rw [h, hz1]
  have e1 : (n : Int).toNat = n := by omega
  have e3 : madeCells (Value.int .u8 0).cells (n * 1) = Array.replicate n (byteV 0) := by
    apply Array.toList_inj.1
    rw [show (Value.int .u8 0).cells = #[Value.int .u8 0] from rfl, toList_madeCells_one]
    simp [byteV]
  rw [e1, e3]

theorem zeros_lie (w : World) (n : Nat) : Lies (w.alloc (.cells (Array.replicate n (byteV 0)) 5)) (.slice (some ⟨w.heap.size, 0, none⟩) n n) (List.replicate n 0) := by
  have h := lies_lit w (List.replicate n 0) (Array.replicate n (byteV 0)) (by apply Array.toList_inj.1; simp)
  rw [List.length_replicate] at h
  exact h

theorem lendB_hid (bs : List Nat) (n : Nat) (hn : n = bs.length) (hl : bs.length ≤ 140737488351232) : Hid (∀ w v, Lies w v bs → Calls Tryd.prog 23 #[v] w fun e w' => ∃ g, e = .returned (.slice (some ⟨g, 0, none⟩) n (n + 3)) ∧ Hid (Lent w' g bs) ∧ Hid (Below w.heap.size w w')) := by
  subst hn
  exact fun w v hv => (lend_walk w v bs hv hl).mono fun e w' ⟨g, h1, h2, h3, _⟩ => ⟨g, h1, h2, h3⟩

theorem intactB_hid (bs : List Nat) (n : Nat) (hn : n = bs.length) (hl : bs.length ≤ 140737488351232) : Hid (∀ w g v, Lent w g bs → Lies w v bs → Calls Tryd.prog 29 #[.slice (some ⟨g, 0, none⟩) n (n + 3), v] w fun e w' => e = .returned (.bool true) ∧ Hid (Below w.heap.size w w')) := by
  subst hn
  exact fun w g v h hv => intact_walk w g v bs h hv hl

theorem packsP_hid (t : List Nat) (hs : Small t) (hb : t.length ≤ 712) :
    Hid (∀ w v, Lies w v t → Calls Tryd.prog 24 #[v] w fun e w' => ∃ v' x, e = .returned v' ∧ Hid (Lies w' v' x) ∧ Hid (Packs t x ∧ x.length ≤ 100000) ∧ Hid (Below w.heap.size w w')) := by
  intro w v hv
  refine (packs24 w v t hv hs (by omega)).mono ?_
  rintro e w' ⟨v', x, rfl, ho, hp, hbl⟩
  refine ⟨v', x, rfl, lies_own ho.out, ⟨hp.out, ?_⟩, hbl⟩
  rcases hp.out with ⟨h1, h2⟩ | ⟨_, h2⟩
  · rw [h2.2.2]; exact fix_small t hs (by omega)
  · rw [h2, sto_len]; omega

theorem dpacks_hid (t : List Nat) (hs : Small t) (hb : t.length ≤ 712) :
    Hid (∀ w v, Lies w v t → Calls Tryd.prog 25 #[v] w fun e w' => ∃ v' x, e = .returned v' ∧ Hid (Lies w' v' x) ∧ Hid (Packs t x) ∧ Hid (Below w.heap.size w w')) :=
  fun w v hv => dpack25 w v t hv hs (by omega)

theorem fixP_hid (t : List Nat) (hs : Small t) (hb : t.length ≤ 712) :
    Hid (∀ w v, Lies w v t → Calls Tryd.prog 26 #[v] w fun e w' => ∃ v' x, e = .returned v' ∧ Hid (Lies w' v' x) ∧ Hid (Fixd t x ∧ x.length ≤ 100000) ∧ Hid (Below w.heap.size w w')) := by
  intro w v hv
  refine (fixed26 w v t hv hs (by omega)).mono ?_
  rintro e w' ⟨v', x, rfl, ho, h1, h2, h3, hbl⟩
  exact ⟨v', x, rfl, lies_own ho, ⟨⟨h1, h2, h3⟩, by rw [h3]; exact fix_small t hs (by omega)⟩, hbl⟩

theorem dfix_hid (t : List Nat) (hs : Small t) (hb : t.length ≤ 712) :
    Hid (∀ w v, Lies w v t → Calls Tryd.prog 27 #[v] w fun e w' => ∃ v' x, e = .returned v' ∧ Hid (Lies w' v' x) ∧ Hid (Fixd t x) ∧ Hid (Below w.heap.size w w')) := by
  intro w v hv
  refine (docblock w v t hv hs (by omega)).mono ?_
  rintro e w' ⟨v', x, rfl, h1, h2, h3⟩
  exact ⟨v', x, rfl, h1, h2, h3⟩

theorem stoP_hid (t : List Nat) (hb : t.length ≤ 131070) :
    Hid (∀ w v, Lies w v t → Calls Tryd.prog 21 #[v] w fun e w' => ∃ v', e = .returned v' ∧ Hid (Lies w' v' (sto2 t)) ∧ Hid (Below w.heap.size w w')) :=
  fun w v hv => (Go.Proofs.YtdokpimhhkbdbaaDoor.stored_any w v t hv hb).mono fun e w' ⟨v', h1, h2, h3⟩ => ⟨v', h1, lies_own h2.out, h3⟩

theorem dsto_hid (t : List Nat) (hb : t.length ≤ 131070) :
    Hid (∀ w v, Lies w v t → Calls Tryd.prog 28 #[v] w fun e w' => ∃ v', e = .returned v' ∧ Hid (Lies w' v' (sto2 t)) ∧ Hid (Below w.heap.size w w')) :=
  fun w v hv => (dstored_any w v t hv hb).mono fun e w' ⟨v', h1, h2, h3⟩ => ⟨v', h1, lies_own h2.out, h3⟩

theorem sto2_small (b : List Nat) (h : b.length ≤ 131070) : (sto2 b).length ≤ 281474976710656 := by
  unfold sto2
  split
  · rw [sto_len]; omega
  · simp [headL]; omega

theorem sameB2_hid (hl : True) : Hid (∀ xs ys w u v, xs = ys → xs.length ≤ 281474976710656 → Lies w u xs → Lies w v ys → Calls Tryd.prog 20 #[u, v] w fun e w' => e = .returned (.bool true) ∧ Hid (Below w.heap.size w w')) := by
  intro xs ys w u v he hl hu hv
  subst he
  exact (sameB_hid xs hl).out w u v hu hv

set_option maxRecDepth 100000 in
set_option maxHeartbeats 8000000 in
theorem packs_law (w : World) (v u1 u2 : Value) (bs : List Nat) (zs ys : List Int) (long : Int) (hv : Lies w v bs) (hsm : Small bs) (hu1 : Ints w u1 zs) (hu2 : Ints w u2 ys) (hbl : bs.length ≤ 140737488355328) (hzl : zs.length ≤ 140737488355328) (hyl : ys.length ≤ 140737488355328) :
    Calls Tryd.prog 6 #[v, u1, u2, .int .i64 long] w fun e w' => e = .returned (.bool true) ∧ Below w.heap.size w w' := by
  have k1 := text_hid bs zs ys hsm hbl hzl hyl
  have HV := mkHid hv
  have HU1 := mkHid hu1
  have HU2 := mkHid hu2
  have kw := wakes_hid
  have ks := sameB2_hid trivial
  clear hv hu1 hu2 hsm hbl hzl hyl
  go_enter Tryd.func6, Tryd.ntmps6
  go_upto_region 2 with (first
    | (go_at_call 22; (with_reducible refine (k1.out _ _ _ _ HV.out HU1.out HU2.out).mono ?_); rintro e w1 ⟨ao, n, cap, t, rfl, HT, HB⟩))
  obtain ⟨hT1, hT2, hT3, hT4⟩ := HT.out
  have k2 := packsP_hid t hT4 (by omega)
  have k3 := dpacks_hid t hT4 (by omega)
  have k4 := fixP_hid t hT4 (by omega)
  have k5 := dfix_hid t hT4 (by omega)
  have k6 := stoP_hid t (by omega)
  have k7 := dsto_hid t (by omega)
  have k8 := lendB_hid t n hT2 (by omega)
  have k9 := intactB_hid t n hT2 (by omega)
  have HSL := mkHid (sto2_small t (by omega))
  have HN := mkHid hT2
  have V1 := mkHid hT1
  clear hT1 hT2 hT3 hT4 HT k1 HV HU1 HU2
  go_upto_if 45 with (first
    | (go_at_call 23; (with_reducible refine (k8.out _ _ V1.out).mono ?_); rintro e w2 ⟨g, rfl, T2, b2⟩
       have V2 := mkHid (V1.out.old b2.out)
       have B2 := mkHid (HB.out.trans (b2.out.mono HB.out.size))
       have L2 : Hid (Lies w2 (.slice (some ⟨g, 0, none⟩) n (n + 3)) t) := by have h := T2.out.lies; rw [← HN.out] at h; exact h
       clear b2)
    | (go_at_call 24; (with_reducible refine (k2.out _ _ L2.out).mono ?_); rintro e w3 ⟨v3, x3, rfl, X3, P3, b3⟩
       have V3 := mkHid (V2.out.old b3.out)
       have L3 := mkHid (L2.out.old b3.out)
       have T3 := mkHid (show Lent w3 g t from Lz.owns_below T2.out b3.out)
       have B3 := mkHid (B2.out.trans (b3.out.mono B2.out.size))
       clear b3)
    | (go_at_call 25; (with_reducible refine (k3.out _ _ V3.out).mono ?_); rintro e w4 ⟨v4, x4, rfl, X4, P4, b4⟩
       have V4 := mkHid (V3.out.old b4.out)
       have L4 := mkHid (L3.out.old b4.out)
       have Y4 := mkHid (X3.out.old b4.out)
       have T4 := mkHid (show Lent w4 g t from Lz.owns_below T3.out b4.out)
       have B4 := mkHid (B3.out.trans (b4.out.mono B3.out.size))
       clear b4)
    | (go_at_call 20; (with_reducible refine (ks.out _ _ _ _ _ (packs_one P3.out.1 P4.out) (Nat.le_trans P3.out.2 (by decide)) Y4.out X4.out).mono ?_); rintro e w5 ⟨rfl, b5⟩
       have V5 := mkHid (V4.out.old b5.out)
       have L5 := mkHid (L4.out.old b5.out)
       have T5 := mkHid (show Lent w5 g t from Lz.owns_below T4.out b5.out)
       have B5 := mkHid (B4.out.trans (b5.out.mono B4.out.size))
       clear b5)
    | (go_at_call 26; (with_reducible refine (k4.out _ _ L5.out).mono ?_); rintro e w6 ⟨v6, x6, rfl, X6, P6, b6⟩
       have V6 := mkHid (V5.out.old b6.out)
       have L6 := mkHid (L5.out.old b6.out)
       have T6 := mkHid (show Lent w6 g t from Lz.owns_below T5.out b6.out)
       have B6 := mkHid (B5.out.trans (b6.out.mono B5.out.size))
       clear b6)
    | (go_at_call 27; (with_reducible refine (k5.out _ _ V6.out).mono ?_); rintro e w7 ⟨v7, x7, rfl, X7, P7, b7⟩
       have V7 := mkHid (V6.out.old b7.out)
       have L7 := mkHid (L6.out.old b7.out)
       have Y7 := mkHid (X6.out.old b7.out)
       have T7 := mkHid (show Lent w7 g t from Lz.owns_below T6.out b7.out)
       have B7 := mkHid (B6.out.trans (b7.out.mono B6.out.size))
       clear b7)
    | (go_at_call 20; (with_reducible refine (ks.out _ _ _ _ _ (fixd_one P6.out.1 P7.out) (Nat.le_trans P6.out.2 (by decide)) Y7.out X7.out).mono ?_); rintro e w8 ⟨rfl, b8⟩
       have V8 := mkHid (V7.out.old b8.out)
       have L8 := mkHid (L7.out.old b8.out)
       have T8 := mkHid (show Lent w8 g t from Lz.owns_below T7.out b8.out)
       have B8 := mkHid (B7.out.trans (b8.out.mono B7.out.size))
       clear b8)
    | (go_at_call 21; (with_reducible refine (k6.out _ _ L8.out).mono ?_); rintro e w9 ⟨v9, rfl, X9, b9⟩
       have V9 := mkHid (V8.out.old b9.out)
       have T9 := mkHid (show Lent w9 g t from Lz.owns_below T8.out b9.out)
       have B9 := mkHid (B8.out.trans (b9.out.mono B8.out.size))
       clear b9)
    | (go_at_call 28; (with_reducible refine (k7.out _ _ V9.out).mono ?_); rintro e w10 ⟨v10, rfl, X10, b10⟩
       have V10 := mkHid (V9.out.old b10.out)
       have Y10 := mkHid (X9.out.old b10.out)
       have T10 := mkHid (show Lent w10 g t from Lz.owns_below T9.out b10.out)
       have B10 := mkHid (B9.out.trans (b10.out.mono B9.out.size))
       clear b10)
    | (go_at_call 20; (with_reducible refine (ks.out _ _ _ _ _ rfl HSL.out Y10.out X10.out).mono ?_); rintro e w11 ⟨rfl, b11⟩
       have V11 := mkHid (V10.out.old b11.out)
       have T11 := mkHid (show Lent w11 g t from Lz.owns_below T10.out b11.out)
       have B11 := mkHid (B10.out.trans (b11.out.mono B10.out.size))
       clear b11)
    | (go_at_call 29; (with_reducible refine (k9.out _ _ _ T11.out V11.out).mono ?_); rintro e w12 ⟨rfl, b12⟩
       have B12 := mkHid (B11.out.trans (b12.out.mono B11.out.size))
       clear b12))
  have B13 := B12
  clear k2 k3 k4 k5 k6 k7 k8 k9 HSL HN V1 V2 V3 V4 V5 V6 V7 V8 V9 V10 V11 L2 L3 L4 L5 L6 L7 L8 T2 T3 T4 T5 T6 T7 T8 T9 T10 T11 B2 B3 B4 B5 B6 B7 B8 B9 B10 B11 B12 HB X3 X4 X6 X7 X9 X10 P3 P4 P6 P7 Y4 Y7 Y10
  by_cases h40 : long.tmod 40 = 39
  · have d40 : (long.tmod 40 == 39) = true := by simp [h40]
    obtain ⟨k, hk, kk⟩ := Lz.within_lit2 long 12 12 (by decide) rfl (by decide)
    obtain ⟨N, hN⟩ : ∃ N, N = 65530 + k := ⟨_, rfl⟩
    have hmk := made_zero N (by omega) (65530 + (k : Int)) (by omega)
    have k6 := stoP_hid (List.replicate N 0) (by rw [List.length_replicate]; omega)
    have k7 := dsto_hid (List.replicate N 0) (by rw [List.length_replicate]; omega)
    have HSL := mkHid (sto2_small (List.replicate N 0) (by rw [List.length_replicate]; omega))
    have HK : Hid (k < 12) := hk
    have hw : wrap64 (65530 + (k : Int)) = 65530 + (k : Int) := by unfold wrap64; omega
    have ki : (k : Int) < 12 := by omega
    have Z0 := mkHid (zeros_lie w12 N)
    have A0 : Hid (Below w12.heap.size w12 (w12.alloc (.cells (Array.replicate N (byteV 0)) 5))) := (Below.refl _ w12).alloc (Nat.le_refl _) _
    generalize sto2 (List.replicate N 0) = Z at k6 k7 HSL
    clear h40 hN hk
    go_wp2_with (first
      | (go_at_call 9; (with_reducible refine (kk.out _).mono ?_); rintro e y1 ⟨rfl, hy⟩; have hy := hy.symm; subst hy)
      | (go_at_call 21; (with_reducible refine (k6.out _ _ Z0.out).mono ?_); rintro e y2 ⟨v2, rfl, X2, b2⟩
         have Z2 := mkHid (Z0.out.old b2.out)
         have B2 := mkHid (B13.out.trans ((A0.out.trans (b2.out.mono A0.out.size)).mono B13.out.size))
         clear b2)
      | (go_at_call 28; (with_reducible refine (k7.out _ _ Z2.out).mono ?_); rintro e y3 ⟨v3, rfl, X3, b3⟩
         have Y3 := mkHid (X2.out.old b3.out)
         have B3 := mkHid (B2.out.trans (b3.out.mono B2.out.size))
         clear b3)
      | (go_at_call 20; (with_reducible refine (ks.out _ _ _ _ _ rfl HSL.out Y3.out X3.out).mono ?_); rintro e y4 ⟨rfl, b4⟩
         have B4 := mkHid (B3.out.trans (b4.out.mono B3.out.size))
         clear b4)
      | (go_at_call 10; (with_reducible refine (kw.out _).mono ?_); rintro e y5 ⟨rfl, b5⟩))
    go_ret
    exact ⟨rfl, B4.out.trans (b5.out.mono B4.out.size)⟩
  · have d40 : (long.tmod 40 == 39) = false := by simp [h40]
    clear h40
    go_wp2_with (go_at_call 10; (with_reducible refine (kw.out _).mono ?_); rintro e y5 ⟨rfl, b5⟩)
    go_ret
    exact ⟨rfl, B13.out.trans (b5.out.mono B13.out.size)⟩

end Go.Proofs.YtdokpimhhkbdbaaDoor.Q
