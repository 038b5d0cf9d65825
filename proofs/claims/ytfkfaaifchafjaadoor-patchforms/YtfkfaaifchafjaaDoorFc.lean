/-
  id.Parse by idM; idOf; words of a line; first where it is wrong.
-/
import Derived.Test.YtfkfaaifchafjaaDoorFb
set_option linter.unusedSimpArgs false
set_option linter.unusedVariables false
namespace Go.Proofs.YtfkfaaifchafjaaDoor
open Go.RowKit

theorem cutP_eq (s : Txt) : cutP s = (cutB 46 s).1 := by unfold cutP; rw [cut_cutB]
theorem cutD_eq (s : Txt) : cutD s = (cutB 46 s).2.1 := by unfold cutD; rw [cut_cutB]

theorem parse_some (s : ByteArray) (hs : s.size ≤ 1000000) (x : Idn) (h : idM s.data.toList = some x) (q : ByteArray) (hq : q = str x.1) :
    Hid (∀ w, Env w → Calls Tryd.prog 84 #[.string s] w fun e w' => e = .returned (.tuple #[.agg #[.string q, .int .i64 x.2], .bool true]) ∧ Old w w') := by
  intro w hE
  subst hq
  have h0 := h
  unfold idM at h
  split at h
  · rename_i he
    cases h
    obtain rfl : s = ⟨#[45]⟩ := ByteArray.ext (Array.toList_inj.1 he)
    exact parse_dash w
  · rename_i hne
    split at h
    · rename_i hc
      simp only [Bool.and_eq_true] at hc
      cases hn : numM (cutB 46 s.data.toList).2.1 with
      | none => rw [hn] at h; cases h
      | some n =>
        rw [hn] at h
        cases h
        obtain ⟨n1, n2, n3⟩ := num_some hn
        have ha : Lib.atoiAll (cutD s.data.toList) = .ok (n : Int) := by rw [cutD_eq, ← n3]; exact dig_ok ⟨n, by omega⟩
        have := parse_in w s (by omega) hE hne n ha ⟨n1, n2⟩ (by rw [cutP_eq]; exact hc.2) true (by
          rw [eq_comm, decide_eq_true_eq, cutP_eq, n3, List.append_assoc]
          exact (cutB_some hc.1).symm)
        rw [cutP_eq] at this
        exact this
    · cases h

theorem parse_none (s : ByteArray) (hs : s.size ≤ 1000000) (h : idM s.data.toList = none) :
    Hid (∀ w, Env w → Calls Tryd.prog 84 #[.string s] w fun e w' => e = .returned (.tuple #[.agg #[.string ⟨#[]⟩, .int .i64 0], .bool false]) ∧ Old w w') := by
  intro w hE
  have hne : s.data.toList ≠ [45] := by
    intro e
    unfold idM at h
    rw [if_pos e] at h
    cases h
  rcases hx : Lib.atoiAll (cutD s.data.toList) with v | _ | _
  · by_cases hv : v < 1 ∨ 40 < v ∨ rightL (cutP s.data.toList) = false
    · exact parse_out w s (by omega) hE hne v hx hv
    · simp only [not_or, Bool.not_eq_false] at hv
      obtain ⟨m, rfl⟩ := Int.eq_ofNat_of_zero_le (show 0 ≤ v by omega)
      have := parse_in w s (by omega) hE hne m hx ⟨by omega, by omega⟩ hv.2.2 false (by
        rw [eq_comm, decide_eq_false_iff_not]
        intro e
        have hr := hv.2.2
        have e2 := cutB_at 46 (cutP s.data.toList) (Lib.decDigits m) (right_no46 hr).1
        rw [List.append_assoc] at e
        rw [show cutP s.data.toList ++ 46 :: Lib.decDigits m = s.data.toList from e] at e2
        have hd := num_dig ⟨m, by omega⟩ (by show 1 ≤ m; omega)
        unfold idM at h
        rw [if_neg hne, e2, hr] at h
        simp only at hd
        simp [hd] at h)
      exact this
  · exact parse_bad w s (by omega) hE hne (fun v e => by rw [hx] at e; cases e)
  · exact parse_bad w s (by omega) hE hne (fun v e => by rw [hx] at e; cases e)

set_option maxHeartbeats 1000000 in
theorem first_no (B : Nat) (w : World) (R : Nat) (rest : Txt) (n : Nat) (p : Pat) (h : Rd B w R rest n p) (s : ByteArray) (hl : s.size ≤ 1000000) (hx : isPT (cutB 32 s.data.toList).1 = false ∨ rightL (cutB 32 s.data.toList).2.1 = false) :
    Calls Tryd.prog 41 #[.pointer (some ⟨R, 0, none⟩), .string s] w fun e w' => e = Pn (n : Int) ∧ Kp B w w' := by
  obtain ⟨t, ht⟩ : ∃ t, t = str (cutB 32 s.data.toList).1 := ⟨_, rfl⟩
  obtain ⟨r, hr⟩ : ∃ r, r = str (cutB 32 s.data.toList).2.1 := ⟨_, rfl⟩
  obtain ⟨f, hf⟩ : ∃ f, f = (cutB 32 s.data.toList).2.2 := ⟨_, rfl⟩
  have kc := cut_full s 32 hl t r f ht hr hf
  obtain ⟨b1, hb1⟩ : ∃ b, b = decide ((cutB 32 s.data.toList).1 = wPatch) := ⟨_, rfl⟩
  obtain ⟨b2, hb2⟩ : ∃ b, b = decide ((cutB 32 s.data.toList).1 = wTag) := ⟨_, rfl⟩
  obtain ⟨b3, hb3⟩ : ∃ b, b = rightL (cutB 32 s.data.toList).2.1 := ⟨_, rfl⟩
  have e1 : (t.toList == [112, 97, 116, 99, 104]) = b1 := by rw [ht, hb1, ByteArray.toList_eq, str_list]; exact txt_beq _ _
  have e2 : (t.toList == [116, 97, 103]) = b2 := by rw [ht, hb2, ByteArray.toList_eq, str_list]; exact txt_beq _ _
  have kr : Hid (∀ w, Calls Tryd.prog 31 #[.string r] w fun e w' => e = .returned (.bool b3) ∧ w' = w) := right_w r (by
    rw [hr, str_size]
    have := (cutB_len 32 s.data.toList).2.1
    rw [size_list] at hl
    omega) b3 (by rw [hr, str_list, hb3])
  have hor : (b1 || b2) = false ∨ b3 = false := by rw [hb1, hb2, hb3]; exact hx
  have HH := mkHid h
  clear hl hx ht hr hf hb1 hb2 hb3 h
  go_enter Tryd.func41, Tryd.ntmps41
  by_cases hor2 : (b1 || b2) = false
  · obtain ⟨rfl, rfl⟩ : b1 = false ∧ b2 = false := by simpa using hor2
    clear hor hor2 kr
    go_wp2_with (first
      | (go_at_call 58; (with_reducible refine (kc.out _ HH.out.e.e).mono ?_); rintro e w2 ⟨rfl, m, rfl⟩
         have H2 := mkHid (HH.out.drew m HH.out.size))
      | (go_at_call 44; (with_reducible refine (need_false R (n : Int) _ H2.out.cells.2.1).mono ?_); rintro e w3 ⟨rfl, rfl⟩))
    exact ⟨rfl, rfl, kp_drewN (Kp.refl _ _) m⟩
  · obtain rfl : b3 = false := by
      rcases hor with h | h
      · exact absurd h hor2
      · exact h
    clear hor
    have hor3 : (b1 || b2) = true := by revert hor2; cases b1 <;> cases b2 <;> simp
    clear hor2
    cases b1
    · obtain rfl : b2 = true := by simpa using hor3
      clear hor3
      go_wp2_with (first
        | (go_at_call 58; (with_reducible refine (kc.out _ HH.out.e.e).mono ?_); rintro e w2 ⟨rfl, m, rfl⟩
           have H2 := mkHid (HH.out.drew m HH.out.size))
        | (go_at_call 44; (with_reducible refine (need_true _ _).mono ?_); rintro e w3 ⟨rfl, rfl⟩)
        | (go_at_call 31; (with_reducible refine (kr.out _).mono ?_); rintro e w3 ⟨rfl, rfl⟩)
        | (go_at_call 44; (with_reducible refine (need_false R (n : Int) _ H2.out.cells.2.1).mono ?_); rintro e w3 ⟨rfl, rfl⟩))
      exact ⟨rfl, rfl, kp_drewN (Kp.refl _ _) m⟩
    · clear hor3
      go_wp2_with (first
        | (go_at_call 58; (with_reducible refine (kc.out _ HH.out.e.e).mono ?_); rintro e w2 ⟨rfl, m, rfl⟩
           have H2 := mkHid (HH.out.drew m HH.out.size))
        | (go_at_call 44; (with_reducible refine (need_true _ _).mono ?_); rintro e w3 ⟨rfl, rfl⟩)
        | (go_at_call 31; (with_reducible refine (kr.out _).mono ?_); rintro e w3 ⟨rfl, rfl⟩)
        | (go_at_call 44; (with_reducible refine (need_false R (n : Int) _ H2.out.cells.2.1).mono ?_); rintro e w3 ⟨rfl, rfl⟩))
      exact ⟨rfl, rfl, kp_drewN (Kp.refl _ _) m⟩
end Go.Proofs.YtfkfaaifchafjaaDoor
