/-
  blocks: all of them.
-/
import Derived.Test.YtdokpimhhkbdbaaDoorUf
set_option linter.unusedSimpArgs false
set_option linter.unusedVariables false
namespace Go.Proofs.YtdokpimhhkbdbaaDoor.Q
open Go.RowKit

/-- What all blocks leave. -/
def LeftAll (c : Cx) (e : Ending) (w' : World) : Prop :=
  match unp c.bs with
  | .ok o => e = .returned (.tuple #[]) ∧ ∃ p, Up c w' p false o
  | .error n => e = Pn n ∧ Fz c w'

theorem last_c (c : Cx) (w : World) (pos : Nat) (out : List Nat) (h : Up c w pos false out) :
    Calls Tryd.prog 49 #[.pointer (some ⟨c.ub, 0, none⟩), .int .i64 1] w fun e w' => (Hid (dig c.bs pos 1 = 1 ∧ pos + 1 ≤ 8 * c.bs.length) ∧ e = .returned (.int .i64 1) ∧ Hid (Up c w' (pos + 1) false out)) ∨ (Hid (dig c.bs pos 1 = 0 ∧ pos + 1 ≤ 8 * c.bs.length) ∧ e = .returned (.int .i64 0) ∧ Hid (Up c w' (pos + 1) false out)) ∨ (Hid (8 * c.bs.length < pos + 1) ∧ e = Pn 2 ∧ Hid (Fz c w')) := by
  refine (digits_any c w pos 1 out h (by decide)).mono ?_
  rintro e w' (⟨h1, h2, h3⟩ | h3)
  · have hd : dig c.bs pos 1 < 2 ^ 1 := Nat.mod_lt _ (by decide)
    rcases (show dig c.bs pos 1 = 1 ∨ dig c.bs pos 1 = 0 by omega) with hx | hx
    · rw [hx] at h2; exact .inl ⟨⟨hx, h1⟩, h2, h3⟩
    · rw [hx] at h2; exact .inr (.inl ⟨⟨hx, h1⟩, h2, h3⟩)
  · exact .inr (.inr h3)

theorem kind_c (c : Cx) (w : World) (pos : Nat) (out : List Nat) (h : Up c w pos false out) :
    Calls Tryd.prog 49 #[.pointer (some ⟨c.ub, 0, none⟩), .int .i64 2] w fun e w' => (∃ x : Nat, Hid (x = dig c.bs pos 2 ∧ x < 4 ∧ pos + 2 ≤ 8 * c.bs.length) ∧ e = .returned (.int .i64 (x : Int)) ∧ Hid (Up c w' (pos + 2) false out)) ∨ (Hid (8 * c.bs.length < pos + 2) ∧ e = Pn 2 ∧ Hid (Fz c w')) := by
  refine (digits_any c w pos 2 out h (by decide)).mono ?_
  rintro e w' (⟨h1, h2, h3⟩ | h3)
  · have hd : dig c.bs pos 2 < 2 ^ 2 := Nat.mod_lt _ (by decide)
    exact .inl ⟨_, ⟨rfl, by omega, h1⟩, h2, h3⟩
  · exact .inr h3

theorem block_c (c : Cx) (w : World) (kind p : Nat) (out : List Nat) (h : Up c w p false out) (ho : out.length ≤ 65536) (hk : kind < 4) (hk2 : kind ≠ 2) :
    Calls Tryd.prog 50 #[.pointer (some ⟨c.ub, 0, none⟩), .int .i64 (kind : Int)] w fun e w' => (∃ q o, Hid (blkAt c.bs kind p out = .ok (q, o)) ∧ e = .returned (.tuple #[]) ∧ Hid (Up c w' q false o ∧ o.length ≤ 65536)) ∨ (∃ n : Nat, Hid (blkAt c.bs kind p out = .error n) ∧ e = Pn n ∧ Hid (Fz c w')) :=
  (block_any c w kind p out h ho hk hk2).mono fun e w' hl => left_cases hl

theorem unp_err {bs : List Nat} {n : Nat} (h : allAt bs (8 * bs.length + 1 - 0) 0 [] = .error n) : unp bs = .error n := by
  unfold unp
  rw [Nat.sub_zero] at h
  rw [h]

set_option maxRecDepth 100000 in
set_option maxHeartbeats 8000000 in
theorem blocks_any (c : Cx) (w : World) (h : Up c w 0 false []) (hne : unp c.bs ≠ .error 99) :
    Calls Tryd.prog 33 #[.pointer (some ⟨c.ub, 0, none⟩)] w fun e w' => LeftAll c e w' := by
  obtain ⟨R, hR⟩ : ∃ R, R = allAt c.bs (8 * c.bs.length + 1 - 0) 0 [] := ⟨_, rfl⟩
  have HE : Hid (∀ (n : Nat) w', R = .error n → Fz c w' → LeftAll c (Pn n) w') := fun n w' h1 h2 => by
    rw [hR] at h1
    unfold LeftAll
    rw [unp_err h1]
    exact ⟨rfl, h2⟩
  have HN : Hid (R ≠ .error 99) := fun h1 => hne (by rw [hR] at h1; exact unp_err h1)
  have HF : Hid (∀ p o w', R = .ok (p, o) → (8 * c.bs.length - p < 8 ∧ dig c.bs p (8 * c.bs.length - p) = 0) → (∃ p', Up c w' p' false o) → LeftAll c (.returned (.tuple #[])) w') := fun p o w' h1 h2 h3 => by
    rw [hR, Nat.sub_zero] at h1
    have e : unp c.bs = .ok o := by unfold unp; rw [h1]; simp only; rw [if_pos h2]
    unfold LeftAll
    rw [e]
    exact ⟨rfl, h3⟩
  have HG : Hid (∀ p o w', R = .ok (p, o) → ¬ (8 * c.bs.length - p < 8 ∧ dig c.bs p (8 * c.bs.length - p) = 0) → Fz c w' → LeftAll c (Pn 2) w') := fun p o w' h1 h2 h3 => by
    rw [hR, Nat.sub_zero] at h1
    have e : unp c.bs = .error 2 := by unfold unp; rw [h1]; simp only; rw [if_neg h2]
    unfold LeftAll
    rw [e]
    exact ⟨rfl, h3⟩
  have HR := mkHid hR
  have HU := mkHid h
  have hla := mkHid (fun w pos out h => last_c c w pos out h)
  have hki := mkHid (fun w pos out h => kind_c c w pos out h)
  have hbl := mkHid (fun w kind p out h ho hk hk2 => block_c c w kind p out h ho hk hk2)
  have hbe := mkHid (fun w p out h => behind_any c w p out h)
  clear h hR hne
  go_enter Tryd.func33, Tryd.ntmps33
  go_wp2
  go_loopg [2] (8 * c.bs.length + 1) (fun k s wr => ∃ (b : Bool) (p : Nat) (out : List Nat), s = .bool b ∧ Hid (Up c wr p false out ∧ out.length ≤ 65536) ∧ Hid ((b = false ∧ k = 8 * c.bs.length + 1 - p ∧ R = allAt c.bs (8 * c.bs.length + 1 - p) p out) ∨ (b = true ∧ R = .ok (p, out))))
  case atStart => exact ⟨false, 0, [], rfl, ⟨HU.out, by simp⟩, .inl ⟨rfl, rfl, HR.out⟩⟩
  case round =>
    clear HU HR
    obtain ⟨b, p, out, rfl, HU, HB⟩ := hrel
    rcases HB.out with ⟨rfl, hk, hr⟩ | ⟨rfl, hr⟩
    · have HK := mkHid hk
      have HR := mkHid hr
      have hst := allAt_step c.bs p out HU.out.1.le
      rw [← hr] at hst
      have HS := mkHid hst
      have HNK : Hid (p + 1 ≤ 8 * c.bs.length → p + 1 + 2 ≤ 8 * c.bs.length → dig c.bs (p + 1) 2 ≠ 2) := fun a1 a2 hx => HN.out (by rw [hst, if_neg (by omega), if_neg (by omega), hx]; rfl)
      clear hk hr hst HB
      go_wp2_with (first
        | (go_at_call 49; (with_reducible refine (hla.out _ _ _ HU.out.1).mono ?_)
           rintro e w1 (⟨H1, rfl, HV⟩ | ⟨H1, rfl, HV⟩ | ⟨H1, rfl, HV⟩))
        | (go_at_call 49; (with_reducible refine (hki.out _ _ _ HV.out).mono ?_)
           rintro e w2 (⟨x, H2, rfl, HW⟩ | ⟨H2, rfl, HW⟩))
        | (go_at_call 50; (with_reducible refine (hbl.out _ _ _ _ HW.out HU.out.2 H2.out.2.1 (by rw [H2.out.1]; exact HNK.out H1.out.2 H2.out.2.2)).mono ?_)
           rintro e w3 (⟨q, o, H3, rfl, HX⟩ | ⟨n, H3, rfl, HX⟩)))
      · go_roundg 0
        case measure => have := HK.out; have := HU.out.1.le; omega
        case rel =>
          refine ⟨true, q, o, rfl, HX.out, .inr ⟨rfl, ?_⟩⟩
          rw [HS.out, if_neg (by have := H1.out.2; omega), if_neg (by have := H2.out.2.2; omega), ← H2.out.1, H3.out]
          simp only
          rw [if_pos H1.out.1]
      · refine ⟨rfl, HE.out n _ ?_ HX.out⟩
        rw [HS.out, if_neg (by have := H1.out.2; omega), if_neg (by have := H2.out.2.2; omega), ← H2.out.1, H3.out]
      · refine ⟨rfl, HE.out 2 _ ?_ HW.out⟩
        rw [HS.out, if_neg (by have := H1.out.2; omega), if_pos H2.out]
      · have hle := blkAt_le H3.out
        go_roundg (8 * c.bs.length + 1 - q)
        case measure => have := HK.out; have := HU.out.1.le; omega
        case rel =>
          refine ⟨false, q, o, rfl, HX.out, .inl ⟨rfl, rfl, ?_⟩⟩
          rw [HS.out, if_neg (by have := H1.out.2; omega), if_neg (by have := H2.out.2.2; omega), ← H2.out.1, H3.out]
          simp only
          rw [if_neg (by have := H1.out.1; omega)]
      · refine ⟨rfl, HE.out n _ ?_ HX.out⟩
        rw [HS.out, if_neg (by have := H1.out.2; omega), if_neg (by have := H2.out.2.2; omega), ← H2.out.1, H3.out]
      · refine ⟨rfl, HE.out 2 _ ?_ HW.out⟩
        rw [HS.out, if_neg (by have := H1.out.2; omega), if_pos H2.out]
      · refine ⟨rfl, HE.out 2 _ ?_ HV.out⟩
        rw [HS.out, if_pos H1.out]
    · have HR := mkHid hr
      clear hr HB
      go_wp2_with (first
        | (go_at_call 51; (with_reducible refine (hbe.out _ _ _ HU.out.1).mono ?_); rintro e w1 hq
           rcases hq with ⟨a1, a2, rfl, a3⟩ | ⟨a1, rfl, a3⟩
           all_goals
             have H1 := mkHid a1
             have H3 := mkHid a3
             clear a1 a3))
      · go_end0
        exact HF.out p out _ HR.out ⟨H1.out, a2⟩ H3.out
      · exact ⟨rfl, HG.out p out _ HR.out H1.out H3.out⟩

end Go.Proofs.YtdokpimhhkbdbaaDoor.Q
