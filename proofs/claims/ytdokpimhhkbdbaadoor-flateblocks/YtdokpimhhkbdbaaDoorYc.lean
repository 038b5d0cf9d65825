/-
  FlateBack: its walk.
-/
import Derived.Test.YtdokpimhhkbdbaaDoorBh
import Derived.Test.YtdokpimhhkbdbaaDoorVc
import Derived.Test.YtdokpimhhkbdbaaDoorZTa
set_option linter.unusedSimpArgs false
set_option linter.unusedVariables false
namespace Go.Proofs.YtdokpimhhkbdbaaDoor.Q
open Go.RowKit

theorem lies_form {w : World} {v : Value} {L : List Nat} (m : Nat) (hm : m = L.length) (h : Lies w v L) : ∃ ao cap, v = .slice ao m cap ∧ Lies w (.slice ao m cap) L ∧ m ≤ cap ∧ (0 < m → ∃ a, ao = some a) := by
  have h0 := h
  obtain ⟨ao, cap, rfl, h2, h3, _⟩ := h
  subst hm
  refine ⟨ao, cap, rfl, h0, h2, fun h => ?_⟩
  cases ao with
  | none => have := h3 rfl; omega
  | some a => exact ⟨a, rfl⟩

theorem text_hid (bs : List Nat) (zs ys : List Int) (hsm : Small bs) (hbl : bs.length ≤ 140737488355328) (hzl : zs.length ≤ 140737488355328) (hyl : ys.length ≤ 140737488355328) :
    Hid (∀ w v u1 u2, Lies w v bs → Ints w u1 zs → Ints w u2 ys → Calls Tryd.prog 22 #[v, u1, u2] w fun e w' => ∃ ao n cap t, e = .returned (.slice ao n cap) ∧ Hid (Lies w' (.slice ao n cap) t ∧ n = t.length ∧ n ≤ 712 ∧ Small t) ∧ Hid (Below w.heap.size w w')) := by
  intro w v u1 u2 hv h1 h2
  refine (Lz.text_walk w v u1 u2 bs zs ys hv hsm h1 h2 hbl hzl hyl).mono ?_
  rintro e w' ⟨⟨v', t, rfl, ho, hl, hs⟩, hb⟩
  obtain ⟨ao, cap, rfl, h, _⟩ := lies_form t.length rfl (lies_own ho)
  exact ⟨ao, _, cap, t, rfl, ⟨h, rfl, hl, hs⟩, hb⟩

theorem pack_hid (t : List Nat) (hs : Small t) (hb : t.length ≤ 712) :
    Hid (∀ w v, Lies w v t → Calls Tryd.prog 24 #[v] w fun e w' => ∃ ao n cap x, e = .returned (.slice ao n cap) ∧ Hid (Lies w' (.slice ao n cap) x ∧ n = x.length ∧ n ≤ 717 ∧ Packd t x) ∧ Hid (Below w.heap.size w w')) := by
  intro w v hv
  refine (pack24 w v t hv hs (by omega)).mono ?_
  rintro e w' ⟨v', x, rfl, ho, hp, hbl⟩
  obtain ⟨ao, cap, rfl, h, _⟩ := lies_form x.length rfl (lies_own ho.out)
  exact ⟨ao, _, cap, x, rfl, ⟨h, rfl, by have := hp.out.2.1; rw [sto_len] at this; omega, hp.out⟩, hbl⟩

theorem fixed_hid (t : List Nat) (hs : Small t) (hb : t.length ≤ 712) :
    Hid (∀ w v, Lies w v t → Calls Tryd.prog 26 #[v] w fun e w' => ∃ ao n cap x, e = .returned (.slice ao n cap) ∧ Hid (Lies w' (.slice ao n cap) x ∧ n = x.length ∧ n ≤ 100000 ∧ Fixd t x) ∧ Hid (Below w.heap.size w w')) := by
  intro w v hv
  refine (fixed26 w v t hv hs (by omega)).mono ?_
  rintro e w' ⟨v', x, rfl, ho, h1, h2, h3, hbl⟩
  obtain ⟨ao, cap, rfl, h, _⟩ := lies_form x.length rfl (lies_own ho)
  exact ⟨ao, _, cap, x, rfl, ⟨h, rfl, by rw [h3]; exact fix_small t hs (by omega), h1, h2, h3⟩, hbl⟩

theorem sto_hid (t : List Nat) (hb : t.length ≤ 712) :
    Hid (∀ w v, Lies w v t → Calls Tryd.prog 21 #[v] w fun e w' => ∃ ao n cap, e = .returned (.slice ao n cap) ∧ Hid (Lies w' (.slice ao n cap) (stoL t) ∧ n = (stoL t).length ∧ n ≤ 717) ∧ Hid (Below w.heap.size w w')) := by
  intro w v hv
  refine (stored21 w v t hv (by omega)).mono ?_
  rintro e w' ⟨v', rfl, ho, hbl⟩
  obtain ⟨ao, cap, rfl, h, _⟩ := lies_form (stoL t).length rfl (lies_own ho.out)
  exact ⟨ao, _, cap, rfl, ⟨h, rfl, by rw [sto_len]; omega⟩, hbl⟩

theorem copyB_hid (x : List Nat) (n : Nat) (hn : n = x.length) (hl : x.length ≤ 140737488355328) :
    Hid (∀ w v, Lies w v x → Calls Tryd.prog 19 #[v] w fun e w' => ∃ v', e = .returned v' ∧ w'.ownsRow w.heap.size 5 1 v' n (x.map byteV) ∧ Below w.heap.size w w') := by
  subst hn
  exact fun w v hv => copy_walk w v x hv hl

/-- One of the three, where it lies. -/
def One (w : World) (H np : Nat) (t : List Nat) (k : Nat) : Prop :=
  ∃ ad n cap X, w.cell? ⟨H, k, none⟩ = some (.slice (some ad) n cap) ∧ Lies w (.slice (some ad) n cap) X ∧ n = X.length ∧ np ≤ n ∧ 0 < n ∧ n ≤ cap ∧ n ≤ 100000 ∧ (X = stoL t ∨ Fixd t X)

set_option maxRecDepth 100000 in
set_option maxHeartbeats 8000000 in
theorem back_law (w : World) (v u1 u2 : Value) (bs : List Nat) (zs ys : List Int) (cut : Int) (m : Nat) (hm : m < 256) (hv : Lies w v bs) (hsm : Small bs) (hu1 : Ints w u1 zs) (hu2 : Ints w u2 ys) (hbl : bs.length ≤ 140737488355328) (hzl : zs.length ≤ 140737488355328) (hyl : ys.length ≤ 140737488355328) :
    Calls Tryd.prog 7 #[v, u1, u2, .int .i64 cut, .int .u8 (m : Int)] w fun e w' => e = .returned (.bool true) ∧ Below w.heap.size w w' := by
  have k1 := text_hid bs zs ys hsm hbl hzl hyl
  have HV := mkHid hv
  have HU1 := mkHid hu1
  have HU2 := mkHid hu2
  have HM := mkHid hm
  have kw := wakes_hid
  clear hv hu1 hu2 hsm hbl hzl hyl hm
  go_enter Tryd.func7, Tryd.ntmps7
  go_upto_region 2 with (first
    | (go_at_call 22; (with_reducible refine (k1.out _ _ _ _ HV.out HU1.out HU2.out).mono ?_); rintro e w1 ⟨ao, n, cap, t, rfl, HT, HB⟩))
  obtain ⟨hT1, hT2, hT3, hT4⟩ := HT.out
  have k2 := pack_hid t hT4 (by omega)
  have k3 := fixed_hid t hT4 (by omega)
  have k4 := sto_hid t (by omega)
  have HS := mkHid hT4
  have HN := mkHid hT2
  have HNl := mkHid hT3
  have V1 := mkHid hT1
  clear hT1 hT2 hT3 hT4 HT k1 HV HU1 HU2
  go_wp2_with (first
    | (go_at_call 24; (with_reducible refine (k2.out _ _ V1.out).mono ?_); rintro e w2 ⟨pa, pn, pc, px, rfl, HP, HB2⟩
       have V2 := mkHid (V1.out.old HB2.out))
    | (go_at_call 26; (with_reducible refine (k3.out _ _ V2.out).mono ?_); rintro e w3 ⟨fa, fn, fc, fx, rfl, HF, HB3⟩
       have V3 := mkHid (V2.out.old HB3.out))
    | (go_at_call 21; (with_reducible refine (k4.out _ _ V3.out).mono ?_); rintro e w4 ⟨sa, sn, sc, rfl, HSt, HB4⟩
       have V4 := mkHid (V3.out.old HB4.out)))
  obtain ⟨hP1, hP2, hP3, hP4⟩ := HP.out
  obtain ⟨hF1, hF2, hF3, hF4⟩ := HF.out
  obtain ⟨hS1, hS2, hS3⟩ := HSt.out
  have D4 : Hid (Below w.heap.size w w4) := HB.out.trans ((HB2.out.trans ((HB3.out.trans (HB4.out.mono HB3.out.size)).mono HB2.out.size)).mono HB.out.size)
  have A4 : Below w4.heap.size w4 (w4.alloc (.cells #[.slice pa pn pc, .slice fa fn fc, .slice sa sn sc] 22)) := (Below.refl _ w4).alloc (Nat.le_refl _) _
  have F0 : (w4.alloc (.cells #[.slice pa pn pc, .slice fa fn fc, .slice sa sn sc] 22)).cell? ⟨w4.heap.size, 0, none⟩ = some (.slice pa pn pc) := by rw [cell_of_row _ _ 0 _ 22 (0, 0) (heap_alloc_new w4 _)]; rfl
  have F1 : (w4.alloc (.cells #[.slice pa pn pc, .slice fa fn fc, .slice sa sn sc] 22)).cell? ⟨w4.heap.size, 1, none⟩ = some (.slice fa fn fc) := by rw [cell_of_row _ _ 1 _ 22 (0, 0) (heap_alloc_new w4 _)]; rfl
  have F2 : (w4.alloc (.cells #[.slice pa pn pc, .slice fa fn fc, .slice sa sn sc] 22)).cell? ⟨w4.heap.size, 2, none⟩ = some (.slice sa sn sc) := by rw [cell_of_row _ _ 2 _ 22 (0, 0) (heap_alloc_new w4 _)]; rfl
  generalize hwA : w4.alloc (.cells #[.slice pa pn pc, .slice fa fn fc, .slice sa sn sc] 22) = wA at A4 F0 F1 F2 ⊢
  have VA := mkHid (V4.out.old A4)
  have DA : Hid (Below w.heap.size w wA) := D4.out.trans (A4.mono D4.out.size)
  have HO : Hid (∀ k, k < 3 → One wA w4.heap.size pn t k) := by
    intro k hk
    have ht : t.length ≤ 19000 := by have := HNl.out; have := HN.out; omega
    have lP := (hP1.old HB3.out).old HB4.out |>.old A4
    have lF := (hF1.old HB4.out).old A4
    have lS := hS1.old A4
    have qP := packed_all hP4.1 HS.out ht
    have qF := packed_all (.inr hF4) HS.out ht
    have qS := packed_all (b := t) (.inl rfl) HS.out ht
    have e1 := hP4.2.1
    have e2 := hP4.2.2
    have e3 := hF4.2.2
    rcases (show k = 0 ∨ k = 1 ∨ k = 2 by omega) with rfl | rfl | rfl
    · obtain ⟨ad, cp, e, l, hc, ha⟩ := lies_form pn hP2 lP
      simp only [Value.slice.injEq, true_and] at e
      obtain ⟨rfl, rfl⟩ := e
      obtain ⟨a, rfl⟩ := ha (by rw [hP2]; exact qP.2.1)
      exact ⟨a, pn, pc, px, F0, l, hP2, Nat.le_refl _, by rw [hP2]; exact qP.2.1, hc, by omega, hP4.1⟩
    · obtain ⟨ad, cp, e, l, hc, ha⟩ := lies_form fn hF2 lF
      simp only [Value.slice.injEq, true_and] at e
      obtain ⟨rfl, rfl⟩ := e
      obtain ⟨a, rfl⟩ := ha (by rw [hF2]; exact qF.2.1)
      exact ⟨a, fn, fc, fx, F1, l, hF2, by omega, by rw [hF2]; exact qF.2.1, hc, by omega, .inr hF4⟩
    · obtain ⟨ad, cp, e, l, hc, ha⟩ := lies_form sn hS2 lS
      simp only [Value.slice.injEq, true_and] at e
      obtain ⟨rfl, rfl⟩ := e
      obtain ⟨a, rfl⟩ := ha (by rw [hS2]; exact qS.2.1)
      exact ⟨a, sn, sc, stoL t, F2, l, hS2, by omega, by rw [hS2]; exact qS.2.1, hc, by omega, .inl rfl⟩
  have hpn : Hid (pn ≤ n + 5) := by
    show _ ≤ _
    have := hP4.2.1
    rw [sto_len] at this
    have := HN.out
    omega
  generalize w4.heap.size = H at HO ⊢
  clear hP1 hP2 hP3 hP4 hF1 hF2 hF3 hF4 hS1 hS2 hS3 HP HF HSt HB HB2 HB3 HB4 V1 V2 V3 V4 D4 A4 F0 F1 F2 k2 k3 k4 hwA
  go_loopw [34] (fun i wr => ∃ k : Nat, k ≤ 3 ∧ i = .int .i64 k ∧ Hid (Below wA.heap.size wA wr)) (fun i _ => 3 - (intOf i).toNat)
  case atStart => exact ⟨0, by omega, rfl, Below.refl _ _⟩
  case round =>
    obtain ⟨k, hk, rfl, HB⟩ := hrel
    by_cases hk3 : k < 3
    · obtain ⟨ad, N, C, X, f1, l1, hN, hpN, hN0, hNC, hNl, hX⟩ := HO.out k hk3
      have ht : t.length ≤ 712 := by have := HNl.out; have := HN.out; omega
      obtain ⟨x1, x2, x3, x4, x5⟩ := packed_all hX HS.out (by omega)
      obtain ⟨j, hj, kj⟩ := Lz.within_lit2 cut (N : Int) N hN0 rfl (by omega)
      have ka := unp_ok X t x3 x1 (by omega)
      have kb := sameB_hid t (by omega)
      have kc := unp_bad (X.take j) (x4 j (by omega)) (fun b hb => x1 b (List.mem_of_mem_take hb)) (by rw [List.length_take]; omega)
      have kd := copyB_hid X N hN (by omega)
      have ke := unp_bad (X ++ [m]) (x5 m HM.out) (Lz.small_one x1 m HM.out) (by rw [List.length_append]; have : [m].length = 1 := rfl; omega)
      have fr : World.cell? wr ⟨H, k, none⟩ = some (.slice (some ad) N C) := cell_old HB.out f1
      have X0 := mkHid (l1.old HB.out)
      have T0 := mkHid (VA.out.old HB.out)
      have HX := mkHid hN
      have HJ := mkHid hj
      have hjC : (j : Int) ≤ C := by omega
      have hkI : (k : Int) < 3 := by omega
      have hw : wrap64 ((k : Int) + 1) = k + 1 := by unfold wrap64; omega
      have d1 : decide ((N : Int) < (pn : Int)) = false := by simp; omega
      have d2 : ((N : Int) == 0) = false := by simp; omega
      have hNl2 : (N : Int) ≤ 100000 := by omega
      clear f1 l1 hX x1 x2 x3 x4 x5 hN ht
      go_wp2_with (first
        | (go_at_call 8; (with_reducible refine (ka.out _ _ X0.out).mono ?_); rintro e y1 ⟨v1, rfl, O1, b1⟩
           obtain ⟨o1, c1, hv1, l1, _⟩ := lies_form n HN.out (lies_own O1.out)
           subst hv1
           have L1 := mkHid l1
           have X1 := mkHid (X0.out.old b1.out)
           have T1 := mkHid (T0.out.old b1.out)
           have B1 := mkHid (HB.out.trans (b1.out.mono HB.out.size))
           clear l1 O1 b1 ka)
        | (go_at_call 20; (with_reducible refine (kb.out _ _ _ L1.out T1.out).mono ?_); rintro e y2 ⟨rfl, b2⟩
           have X2 := mkHid (X1.out.old b2.out)
           have B2 := mkHid (B1.out.trans (b2.out.mono B1.out.size))
           have J2 : Hid (Lies y2 (.slice (some ad) j C) (X.take j)) := by
             have h := X2.out
             rw [HX.out] at h
             exact Lies.take j (by rw [← HX.out]; exact Nat.le_of_lt HJ.out) h
           clear b2 kb L1 T1 X1 B1)
        | (go_at_call 9; (with_reducible refine (kj.out _).mono ?_); rintro e y3 ⟨rfl, hy⟩; have hy := hy.symm; subst hy)
        | (go_at_call 8; (with_reducible refine (kc.out _ _ J2.out).mono ?_); rintro e y4 ⟨rfl, b4⟩
           have X4 := mkHid (X2.out.old b4.out)
           have B4 := mkHid (B2.out.trans (b4.out.mono B2.out.size))
           clear b4 kc J2 X2)
        | (go_at_call 19; (with_reducible refine (kd.out _ _ X4.out).mono ?_); rintro e y5 ⟨v5, rfl, o5, b5⟩
           have O5 := mkHid o5
           have hz5 := b5.size
           have B5 := mkHid (B4.out.trans (b5.mono B4.out.size))
           clear o5 kd)
        | (at_builtin; refine Lz.wpList_pushB rfl (.tmp 75) (.tmp 77) rfl y4.heap.size _ N _ rfl O5.out (m : Int) y5.heap.size rfl rfl (by omega) hz5 ?_
           intro g6 c6 y6 o6 _ _ b6
           have L6 : Hid (Lies y6 (.slice (some ⟨g6, 0, none⟩) (N + 1) c6) (X ++ [m])) := lies_n (by rw [List.length_append, ← HX.out]) (by rw [List.map_append]; exact o6)
           have B6 := mkHid (B5.out.trans (b6.mono (by have := B4.out.size; omega)))
           clear o6 b6 b5 O5)
        | (go_at_call 8; (with_reducible refine (ke.out _ _ L6.out).mono ?_); rintro e y7 ⟨rfl, b7⟩
           have B7 := mkHid (B6.out.trans (b7.out.mono B6.out.size))
           clear b7 ke L6))
      go_roundw
      case rel => exact ⟨k + 1, by omega, by go_num, B7⟩
      case measure => simp [intOf]; omega
    · have hkk : k = 3 := by omega
      subst hkk
      have hpn2 := hpn.out
      have d1 : decide ((pn : Int) ≤ (n : Int) + 5) = true := by simp; omega
      have hpn3 : (pn : Int) ≤ (n : Int) + 5 := by omega
      have hnn : (n : Int) ≤ 712 := by have := HNl.out; omega
      go_wp2_with (go_at_call 10; (with_reducible refine (kw.out _).mono ?_); rintro e y8 ⟨rfl, b8⟩)
      go_ret
      exact ⟨rfl, DA.out.trans ((HB.out.trans (b8.out.mono HB.out.size)).mono DA.out.size)⟩

/-- The law, at any byte. -/
theorem back_any (w : World) (v u1 u2 : Value) (bs : List Nat) (zs ys : List Int) (cut x : Int) (hx : 0 ≤ x ∧ x < 256) (hv : Lies w v bs) (hsm : Small bs) (hu1 : Ints w u1 zs) (hu2 : Ints w u2 ys) (hbl : bs.length ≤ 140737488355328) (hzl : zs.length ≤ 140737488355328) (hyl : ys.length ≤ 140737488355328) :
    Calls Tryd.prog 7 #[v, u1, u2, .int .i64 cut, .int .u8 x] w fun e w' => e = .returned (.bool true) ∧ Below w.heap.size w w' := by
  have h := back_law w v u1 u2 bs zs ys cut x.toNat (by omega) hv hsm hu1 hu2 hbl hzl hyl
  rwa [Int.toNat_of_nonneg hx.1] at h

end Go.Proofs.YtdokpimhhkbdbaaDoor.Q
