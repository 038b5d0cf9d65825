/-
  The walk of the statement on texts, for halves, quarters and wholes.
-/
import Derived.Test.YtghalbecgiepmaaDoorTxb
namespace Go.Proofs.YtghalbecgiepmaaDoor.wk
open Go.Proofs.YtghalbecgiepmaaDoor.flo Go.RowKit
set_option linter.unusedSimpArgs false
set_option linter.unusedVariables false

set_option maxHeartbeats 1000000 in
theorem texts_0 (n m : Int) (w : World) (hm : m % 3 = 0) (htab : Tab w) :
    Calls Tryd.prog 4 #[.int .i64 n, .int .i64 m] w fun e w' => e = .returned (.bool true) ∧ Below w.heap.size w w' := by
  obtain ⟨N, hN⟩ : ∃ N : Nat, n % 100000 = N := ⟨(n % 100000).toNat, by omega⟩
  have hN2 : N < 100000 := by omega
  obtain ⟨C, hC⟩ : ∃ C : Nat, (N : Int) * 100 = C := ⟨((N : Int) * 100).toNat, by omega⟩
  have HC : Hid (C = N * 100 / 2 ^ 0) := by show C = N * 100 / 2 ^ 0; omega
  have hC2 : C ≤ 10000000 := by omega
  have hdl := dec_size ((C : Int) / 100) (by omega) (by omega)
  have hD : dec ((C : Int) / 100) = ⟨(Lib.decDigits (C / 100)).toArray⟩ := by unfold dec; rw [show ((C : Int) / 100).toNat = C / 100 by omega]
  have HD : Hid (dec ((C : Int) / 100) = ⟨(Lib.decDigits (C / 100)).toArray⟩) := hD
  have hlen : (Lib.decDigits (C / 100)).length ≤ 21 := by rw [hD] at hdl; simpa [ByteArray.size] using hdl
  clear hD
  have c1 := conv1
  have c2 := conv2
  have hss := strOfNums_size
  go_enter Tryd.func4, Tryd.ntmps4
  go_wp2_with (first | (go_at_call 8; refine (keep_walk _ _ _ (by omega) (by omega)).mono ?_; rintro e w1 ⟨rfl, rfl⟩) | (go_at_call 9; refine (share_hid _ _ _).mono ?_; rintro e w1 ⟨x, rfl, hx, rfl⟩))
  go_loopw [9, 10] (fun t kk wr => ∃ (s : ByteArray) (k : Nat), t = .string s ∧ kk = .int .i64 k ∧ k ≤ C ∧ s.size ≤ 21 ∧ Hid (Inv (C / 100) k s.data.toList) ∧ Below w1.heap.size w1 wr) (fun t kk _ => (intOf kk).toNat + mt t)
  case atStart =>
    exact ⟨⟨#[]⟩, C / 100, rfl, by go_num, by omega, by decide, Or.inl ⟨rfl, rfl⟩, ((Below.refl _ _).alloc (Nat.le_refl _) _).alloc (by simp) _⟩
  case round =>
    obtain ⟨s, k, rfl, rfl, hk, hs, HI, hb⟩ := hrel
    have hbs := hb.size
    by_cases hk0 : 0 < k
    · go_wp2
      go_roundw
      case rel =>
        have h2 := inv_next HI.out (Or.inl hk0)
        exact ⟨_, k / 10, rfl, by go_num, by omega, inv_len h2 hlen, h2, hb.alloc (by omega) _⟩
      case measure =>
        rw [mt_cons]
        simp [intOf]
        omega
    · obtain rfl : k = 0 := by omega
      by_cases hse : s = ⟨#[]⟩
      · subst hse
        go_wp2
        go_roundw
        case rel =>
          have h2 := inv_next HI.out (Or.inr rfl)
          exact ⟨_, 0, rfl, by go_num, by omega, inv_len h2 hlen, h2, hb.alloc (by omega) _⟩
        case measure =>
          rw [mt_cons, mt_empty]
          simp [intOf]
      · have hsd : Hid (s = dec ((C : Int) / 100)) := (inv_done HI.out rfl hse).trans HD.out.symm
        have hT := texts_of N 0 C (by omega) (by omega) HC.out
        rw [show ((2 ^ 0 : Nat) : Int) = 1 from rfl, ← hsd.out] at hT
        obtain ⟨hT1, hT2⟩ := hT
        have T1 : Hid (∀ w, Tab w → Calls Tryd.prog 12 #[.float .f64 x] w fun e w' => e = .returned (.string (s ++ ⟨#[46]⟩ ++ strOfNums [48 + (C : Int) / 10 % 10, 48 + (C : Int) % 10])) ∧ Below w.heap.size w w') := by
          intro w h
          have := text_walk x w (by rw [hx.out]; exact share_lt _ _) h
          rw [hx.out, hT1, ← hx.out] at this
          exact this
        clear hT1
        have htabr := tab_below htab hb
        have hie : s.toList.isEmpty = false := by
          rw [Lib.toList_data]
          cases hl : s.data.toList with
          | nil => exact absurd (by apply ByteArray.ext; simpa using hl) hse
          | cons a l => rfl
        by_cases hN0 : 0 < N
        · have T2 : Hid (∀ y w, Hid (y = share (-(N : Int)) 1) → Tab w → Calls Tryd.prog 12 #[.float .f64 y] w fun e w' => e = .returned (.string (⟨#[45]⟩ ++ s ++ ⟨#[46]⟩ ++ strOfNums [48 + (C : Int) / 10 % 10, 48 + (C : Int) % 10])) ∧ Below w.heap.size w w') := by
            intro y w hy h
            have := text_walk y w (by rw [hy.out]; exact share_lt _ _) h
            rw [hy.out, hT2 hN0, ← hy.out] at this
            exact this
          clear hT2
          go_wp2_with (go_at_call 12; refine (T1.out _ htabr).mono ?_; rintro e w2 ⟨rfl, hb2⟩)
          have htab2 := tab_below htabr hb2
          go_wp2_with (go_at_call 9; refine (share_hid _ _ _).mono ?_; rintro e w3 ⟨y, rfl, hy, rfl⟩)
          go_wp2_with (go_at_call 12; refine (T2.out _ _ hy htab2).mono ?_; rintro e w4 ⟨rfl, hb4⟩)
          have htab4 := tab_below htab2 hb4
          go_wp2_with (go_at_call 14; refine (wakes_walk _ htab4).mono ?_; rintro e w5 ⟨rfl, hb5⟩)
          go_ret
          exact ⟨rfl, hb.trans ((hb2.mono hbs).trans ((hb4.mono (Nat.le_trans hbs hb2.size)).trans (hb5.mono (Nat.le_trans hbs (Nat.le_trans hb2.size hb4.size)))))⟩
        · have hNz : N = 0 := by omega
          have T2 : Hid (∀ y w, Hid (y = share (-(N : Int)) 1) → Tab w → Calls Tryd.prog 12 #[.float .f64 y] w fun e w' => e = .returned (.string (s ++ ⟨#[46]⟩ ++ strOfNums [48 + (C : Int) / 10 % 10, 48 + (C : Int) % 10])) ∧ Below w.heap.size w w') := by
            intro y w hy h
            have : y = x := by rw [hy.out, hx.out, hNz]; rfl
            rw [this]
            exact T1.out w h
          clear hT2
          have HN : Hid (N = 0) := hNz
          clear hNz
          go_wp2_with (go_at_call 12; refine (T1.out _ htabr).mono ?_; rintro e w2 ⟨rfl, hb2⟩)
          have htab2 := tab_below htabr hb2
          go_wp2_with (go_at_call 9; refine (share_hid _ _ _).mono ?_; rintro e w3 ⟨y, rfl, hy, rfl⟩)
          go_wp2_with (go_at_call 12; refine (T2.out _ _ hy htab2).mono ?_; rintro e w4 ⟨rfl, hb4⟩)
          have htab4 := tab_below htab2 hb4
          go_wp2_with (go_at_call 14; refine (wakes_walk _ htab4).mono ?_; rintro e w5 ⟨rfl, hb5⟩)
          go_ret
          exact ⟨rfl, hb.trans ((hb2.mono hbs).trans ((hb4.mono (Nat.le_trans hbs hb2.size)).trans (hb5.mono (Nat.le_trans hbs (Nat.le_trans hb2.size hb4.size)))))⟩

set_option maxHeartbeats 1000000 in
theorem texts_1 (n m : Int) (w : World) (hm : m % 3 = 1) (htab : Tab w) :
    Calls Tryd.prog 4 #[.int .i64 n, .int .i64 m] w fun e w' => e = .returned (.bool true) ∧ Below w.heap.size w w' := by
  obtain ⟨N, hN⟩ : ∃ N : Nat, n % 100000 = N := ⟨(n % 100000).toNat, by omega⟩
  have hN2 : N < 100000 := by omega
  obtain ⟨C, hC⟩ : ∃ C : Nat, (N : Int) * 100 / 2 = C := ⟨((N : Int) * 100 / 2).toNat, by omega⟩
  have HC : Hid (C = N * 100 / 2 ^ 1) := by show C = N * 100 / 2 ^ 1; omega
  have hC2 : C ≤ 10000000 := by omega
  have hdl := dec_size ((C : Int) / 100) (by omega) (by omega)
  have hD : dec ((C : Int) / 100) = ⟨(Lib.decDigits (C / 100)).toArray⟩ := by unfold dec; rw [show ((C : Int) / 100).toNat = C / 100 by omega]
  have HD : Hid (dec ((C : Int) / 100) = ⟨(Lib.decDigits (C / 100)).toArray⟩) := hD
  have hlen : (Lib.decDigits (C / 100)).length ≤ 21 := by rw [hD] at hdl; simpa [ByteArray.size] using hdl
  clear hD
  have c1 := conv1
  have c2 := conv2
  have hss := strOfNums_size
  go_enter Tryd.func4, Tryd.ntmps4
  go_wp2_with (first | (go_at_call 8; refine (keep_walk _ _ _ (by omega) (by omega)).mono ?_; rintro e w1 ⟨rfl, rfl⟩) | (go_at_call 9; refine (share_hid _ _ _).mono ?_; rintro e w1 ⟨x, rfl, hx, rfl⟩))
  go_loopw [9, 10] (fun t kk wr => ∃ (s : ByteArray) (k : Nat), t = .string s ∧ kk = .int .i64 k ∧ k ≤ C ∧ s.size ≤ 21 ∧ Hid (Inv (C / 100) k s.data.toList) ∧ Below w1.heap.size w1 wr) (fun t kk _ => (intOf kk).toNat + mt t)
  case atStart =>
    exact ⟨⟨#[]⟩, C / 100, rfl, by go_num, by omega, by decide, Or.inl ⟨rfl, rfl⟩, ((Below.refl _ _).alloc (Nat.le_refl _) _).alloc (by simp) _⟩
  case round =>
    obtain ⟨s, k, rfl, rfl, hk, hs, HI, hb⟩ := hrel
    have hbs := hb.size
    by_cases hk0 : 0 < k
    · go_wp2
      go_roundw
      case rel =>
        have h2 := inv_next HI.out (Or.inl hk0)
        exact ⟨_, k / 10, rfl, by go_num, by omega, inv_len h2 hlen, h2, hb.alloc (by omega) _⟩
      case measure =>
        rw [mt_cons]
        simp [intOf]
        omega
    · obtain rfl : k = 0 := by omega
      by_cases hse : s = ⟨#[]⟩
      · subst hse
        go_wp2
        go_roundw
        case rel =>
          have h2 := inv_next HI.out (Or.inr rfl)
          exact ⟨_, 0, rfl, by go_num, by omega, inv_len h2 hlen, h2, hb.alloc (by omega) _⟩
        case measure =>
          rw [mt_cons, mt_empty]
          simp [intOf]
      · have hsd : Hid (s = dec ((C : Int) / 100)) := (inv_done HI.out rfl hse).trans HD.out.symm
        have hT := texts_of N 1 C (by omega) (by omega) HC.out
        rw [show ((2 ^ 1 : Nat) : Int) = 2 from rfl, ← hsd.out] at hT
        obtain ⟨hT1, hT2⟩ := hT
        have T1 : Hid (∀ w, Tab w → Calls Tryd.prog 12 #[.float .f64 x] w fun e w' => e = .returned (.string (s ++ ⟨#[46]⟩ ++ strOfNums [48 + (C : Int) / 10 % 10, 48 + (C : Int) % 10])) ∧ Below w.heap.size w w') := by
          intro w h
          have := text_walk x w (by rw [hx.out]; exact share_lt _ _) h
          rw [hx.out, hT1, ← hx.out] at this
          exact this
        clear hT1
        have htabr := tab_below htab hb
        have hie : s.toList.isEmpty = false := by
          rw [Lib.toList_data]
          cases hl : s.data.toList with
          | nil => exact absurd (by apply ByteArray.ext; simpa using hl) hse
          | cons a l => rfl
        by_cases hN0 : 0 < N
        · have T2 : Hid (∀ y w, Hid (y = share (-(N : Int)) 2) → Tab w → Calls Tryd.prog 12 #[.float .f64 y] w fun e w' => e = .returned (.string (⟨#[45]⟩ ++ s ++ ⟨#[46]⟩ ++ strOfNums [48 + (C : Int) / 10 % 10, 48 + (C : Int) % 10])) ∧ Below w.heap.size w w') := by
            intro y w hy h
            have := text_walk y w (by rw [hy.out]; exact share_lt _ _) h
            rw [hy.out, hT2 hN0, ← hy.out] at this
            exact this
          clear hT2
          go_wp2_with (go_at_call 12; refine (T1.out _ htabr).mono ?_; rintro e w2 ⟨rfl, hb2⟩)
          have htab2 := tab_below htabr hb2
          go_wp2_with (go_at_call 9; refine (share_hid _ _ _).mono ?_; rintro e w3 ⟨y, rfl, hy, rfl⟩)
          go_wp2_with (go_at_call 12; refine (T2.out _ _ hy htab2).mono ?_; rintro e w4 ⟨rfl, hb4⟩)
          have htab4 := tab_below htab2 hb4
          go_wp2_with (go_at_call 14; refine (wakes_walk _ htab4).mono ?_; rintro e w5 ⟨rfl, hb5⟩)
          go_ret
          exact ⟨rfl, hb.trans ((hb2.mono hbs).trans ((hb4.mono (Nat.le_trans hbs hb2.size)).trans (hb5.mono (Nat.le_trans hbs (Nat.le_trans hb2.size hb4.size)))))⟩
        · have hNz : N = 0 := by omega
          have T2 : Hid (∀ y w, Hid (y = share (-(N : Int)) 2) → Tab w → Calls Tryd.prog 12 #[.float .f64 y] w fun e w' => e = .returned (.string (s ++ ⟨#[46]⟩ ++ strOfNums [48 + (C : Int) / 10 % 10, 48 + (C : Int) % 10])) ∧ Below w.heap.size w w') := by
            intro y w hy h
            have : y = x := by rw [hy.out, hx.out, hNz]; rfl
            rw [this]
            exact T1.out w h
          clear hT2
          have HN : Hid (N = 0) := hNz
          clear hNz
          go_wp2_with (go_at_call 12; refine (T1.out _ htabr).mono ?_; rintro e w2 ⟨rfl, hb2⟩)
          have htab2 := tab_below htabr hb2
          go_wp2_with (go_at_call 9; refine (share_hid _ _ _).mono ?_; rintro e w3 ⟨y, rfl, hy, rfl⟩)
          go_wp2_with (go_at_call 12; refine (T2.out _ _ hy htab2).mono ?_; rintro e w4 ⟨rfl, hb4⟩)
          have htab4 := tab_below htab2 hb4
          go_wp2_with (go_at_call 14; refine (wakes_walk _ htab4).mono ?_; rintro e w5 ⟨rfl, hb5⟩)
          go_ret
          exact ⟨rfl, hb.trans ((hb2.mono hbs).trans ((hb4.mono (Nat.le_trans hbs hb2.size)).trans (hb5.mono (Nat.le_trans hbs (Nat.le_trans hb2.size hb4.size)))))⟩

set_option maxHeartbeats 1000000 in
theorem texts_2 (n m : Int) (w : World) (hm : m % 3 = 2) (htab : Tab w) :
    Calls Tryd.prog 4 #[.int .i64 n, .int .i64 m] w fun e w' => e = .returned (.bool true) ∧ Below w.heap.size w w' := by
  obtain ⟨N, hN⟩ : ∃ N : Nat, n % 100000 = N := ⟨(n % 100000).toNat, by omega⟩
  have hN2 : N < 100000 := by omega
  obtain ⟨C, hC⟩ : ∃ C : Nat, (N : Int) * 100 / 4 = C := ⟨((N : Int) * 100 / 4).toNat, by omega⟩
  have HC : Hid (C = N * 100 / 2 ^ 2) := by show C = N * 100 / 2 ^ 2; omega
  have hC2 : C ≤ 10000000 := by omega
  have hdl := dec_size ((C : Int) / 100) (by omega) (by omega)
  have hD : dec ((C : Int) / 100) = ⟨(Lib.decDigits (C / 100)).toArray⟩ := by unfold dec; rw [show ((C : Int) / 100).toNat = C / 100 by omega]
  have HD : Hid (dec ((C : Int) / 100) = ⟨(Lib.decDigits (C / 100)).toArray⟩) := hD
  have hlen : (Lib.decDigits (C / 100)).length ≤ 21 := by rw [hD] at hdl; simpa [ByteArray.size] using hdl
  clear hD
  have c1 := conv1
  have c2 := conv2
  have hss := strOfNums_size
  go_enter Tryd.func4, Tryd.ntmps4
  go_wp2_with (first | (go_at_call 8; refine (keep_walk _ _ _ (by omega) (by omega)).mono ?_; rintro e w1 ⟨rfl, rfl⟩) | (go_at_call 9; refine (share_hid _ _ _).mono ?_; rintro e w1 ⟨x, rfl, hx, rfl⟩))
  go_loopw [9, 10] (fun t kk wr => ∃ (s : ByteArray) (k : Nat), t = .string s ∧ kk = .int .i64 k ∧ k ≤ C ∧ s.size ≤ 21 ∧ Hid (Inv (C / 100) k s.data.toList) ∧ Below w1.heap.size w1 wr) (fun t kk _ => (intOf kk).toNat + mt t)
  case atStart =>
    exact ⟨⟨#[]⟩, C / 100, rfl, by go_num, by omega, by decide, Or.inl ⟨rfl, rfl⟩, ((Below.refl _ _).alloc (Nat.le_refl _) _).alloc (by simp) _⟩
  case round =>
    obtain ⟨s, k, rfl, rfl, hk, hs, HI, hb⟩ := hrel
    have hbs := hb.size
    by_cases hk0 : 0 < k
    · go_wp2
      go_roundw
      case rel =>
        have h2 := inv_next HI.out (Or.inl hk0)
        exact ⟨_, k / 10, rfl, by go_num, by omega, inv_len h2 hlen, h2, hb.alloc (by omega) _⟩
      case measure =>
        rw [mt_cons]
        simp [intOf]
        omega
    · obtain rfl : k = 0 := by omega
      by_cases hse : s = ⟨#[]⟩
      · subst hse
        go_wp2
        go_roundw
        case rel =>
          have h2 := inv_next HI.out (Or.inr rfl)
          exact ⟨_, 0, rfl, by go_num, by omega, inv_len h2 hlen, h2, hb.alloc (by omega) _⟩
        case measure =>
          rw [mt_cons, mt_empty]
          simp [intOf]
      · have hsd : Hid (s = dec ((C : Int) / 100)) := (inv_done HI.out rfl hse).trans HD.out.symm
        have hT := texts_of N 2 C (by omega) (by omega) HC.out
        rw [show ((2 ^ 2 : Nat) : Int) = 4 from rfl, ← hsd.out] at hT
        obtain ⟨hT1, hT2⟩ := hT
        have T1 : Hid (∀ w, Tab w → Calls Tryd.prog 12 #[.float .f64 x] w fun e w' => e = .returned (.string (s ++ ⟨#[46]⟩ ++ strOfNums [48 + (C : Int) / 10 % 10, 48 + (C : Int) % 10])) ∧ Below w.heap.size w w') := by
          intro w h
          have := text_walk x w (by rw [hx.out]; exact share_lt _ _) h
          rw [hx.out, hT1, ← hx.out] at this
          exact this
        clear hT1
        have htabr := tab_below htab hb
        have hie : s.toList.isEmpty = false := by
          rw [Lib.toList_data]
          cases hl : s.data.toList with
          | nil => exact absurd (by apply ByteArray.ext; simpa using hl) hse
          | cons a l => rfl
        by_cases hN0 : 0 < N
        · have T2 : Hid (∀ y w, Hid (y = share (-(N : Int)) 4) → Tab w → Calls Tryd.prog 12 #[.float .f64 y] w fun e w' => e = .returned (.string (⟨#[45]⟩ ++ s ++ ⟨#[46]⟩ ++ strOfNums [48 + (C : Int) / 10 % 10, 48 + (C : Int) % 10])) ∧ Below w.heap.size w w') := by
            intro y w hy h
            have := text_walk y w (by rw [hy.out]; exact share_lt _ _) h
            rw [hy.out, hT2 hN0, ← hy.out] at this
            exact this
          clear hT2
          go_wp2_with (go_at_call 12; refine (T1.out _ htabr).mono ?_; rintro e w2 ⟨rfl, hb2⟩)
          have htab2 := tab_below htabr hb2
          go_wp2_with (go_at_call 9; refine (share_hid _ _ _).mono ?_; rintro e w3 ⟨y, rfl, hy, rfl⟩)
          go_wp2_with (go_at_call 12; refine (T2.out _ _ hy htab2).mono ?_; rintro e w4 ⟨rfl, hb4⟩)
          have htab4 := tab_below htab2 hb4
          go_wp2_with (go_at_call 14; refine (wakes_walk _ htab4).mono ?_; rintro e w5 ⟨rfl, hb5⟩)
          go_ret
          exact ⟨rfl, hb.trans ((hb2.mono hbs).trans ((hb4.mono (Nat.le_trans hbs hb2.size)).trans (hb5.mono (Nat.le_trans hbs (Nat.le_trans hb2.size hb4.size)))))⟩
        · have hNz : N = 0 := by omega
          have T2 : Hid (∀ y w, Hid (y = share (-(N : Int)) 4) → Tab w → Calls Tryd.prog 12 #[.float .f64 y] w fun e w' => e = .returned (.string (s ++ ⟨#[46]⟩ ++ strOfNums [48 + (C : Int) / 10 % 10, 48 + (C : Int) % 10])) ∧ Below w.heap.size w w') := by
            intro y w hy h
            have : y = x := by rw [hy.out, hx.out, hNz]; rfl
            rw [this]
            exact T1.out w h
          clear hT2
          have HN : Hid (N = 0) := hNz
          clear hNz
          go_wp2_with (go_at_call 12; refine (T1.out _ htabr).mono ?_; rintro e w2 ⟨rfl, hb2⟩)
          have htab2 := tab_below htabr hb2
          go_wp2_with (go_at_call 9; refine (share_hid _ _ _).mono ?_; rintro e w3 ⟨y, rfl, hy, rfl⟩)
          go_wp2_with (go_at_call 12; refine (T2.out _ _ hy htab2).mono ?_; rintro e w4 ⟨rfl, hb4⟩)
          have htab4 := tab_below htab2 hb4
          go_wp2_with (go_at_call 14; refine (wakes_walk _ htab4).mono ?_; rintro e w5 ⟨rfl, hb5⟩)
          go_ret
          exact ⟨rfl, hb.trans ((hb2.mono hbs).trans ((hb4.mono (Nat.le_trans hbs hb2.size)).trans (hb5.mono (Nat.le_trans hbs (Nat.le_trans hb2.size hb4.size)))))⟩

theorem texts_walk (n m : Int) (w : World) (htab : Tab w) :
    Calls Tryd.prog 4 #[.int .i64 n, .int .i64 m] w fun e w' => e = .returned (.bool true) ∧ Below w.heap.size w w' := by
  have h : m % 3 = 0 ∨ m % 3 = 1 ∨ m % 3 = 2 := by omega
  rcases h with h | h | h
  · exact texts_0 n m w h htab
  · exact texts_1 n m w h htab
  · exact texts_2 n m w h htab
end Go.Proofs.YtghalbecgiepmaaDoor.wk
