/-
  The writer's Put, with what may have turned told block by block ('Fr').
-/
import Derived.Test.YtdokpimhhkbdbaaDoorWf
set_option linter.unusedSimpArgs false
set_option linter.unusedVariables false
namespace Go.Proofs.YtdokpimhhkbdbaaDoor
open Go.RowKit

set_option maxHeartbeats 1000000 in
theorem put_fr (p : Nat) (w : World) (v : Value) (N t : Nat) (n : Int) (c : Nat) (h : Wv p w v N t) (hc : c ≤ 16) (ht : t < 900000) :
    Calls Tryd.prog 39 #[.pointer (some ⟨p, 0, none⟩), .int .i64 n, .int .i64 c] w fun e w' => e = .returned (.tuple #[]) ∧ ∃ v', Wv p w' v' (N + low n c * 2 ^ t) (t + c) ∧ Kin w v v' ∧ Fr (some p) v.ownBlock w w' := by
  have hmay : Hid (∀ w, Calls Tryd.prog 52 #[.int .i64 c] w fun e w' => e = .returned (.bool true) ∧ w' = w) := fun w => (may_walk c w).mono fun e w' ⟨h1, h2⟩ => ⟨by rw [h1]; simp; omega, h2⟩
  go_enter Tryd.func39, Tryd.ntmps39
  go_wp2_with (go_at_call 52; refine (hmay.out _).mono ?_; rintro e w' ⟨rfl, hx⟩; have hx := hx.symm; subst hx)
  go_loopw [6] (fun i wr => ∃ (k : Nat) (v1 : Value), k ≤ c ∧ i = .int .i64 k ∧ Wv p wr v1 (N + low n k * 2 ^ t) (t + k) ∧ Kin w v v1 ∧ Fr (some p) v.ownBlock w wr) (fun i _ => c - (intOf i).toNat)
  case atStart => exact ⟨0, v, by omega, rfl, by simpa [low_zero] using h, .inl rfl, Fr.refl _ _ _⟩
  case round =>
    obtain ⟨k, v1, hk, rfl, hw, hkin, hb⟩ := hrel
    by_cases hkc : k < c
    · have hdig : Hid (∀ w, Calls Tryd.prog 54 #[.int .i64 n, .int .i64 k] w fun e w' => e = .returned (.int .u8 (dig n k)) ∧ w' = w) := digit_walk n k (by omega)
      have hadd : Hid (Calls Tryd.prog 53 #[.pointer (some ⟨p, 0, none⟩), .int .u8 (dig n k : Int)] wr fun e w' => e = .returned (.tuple #[]) ∧ ∃ v', Wv p w' v' (N + low n k * 2 ^ t + dig n k * 2 ^ (t + k)) (t + k + 1) ∧ Kin wr v1 v' ∧ Fr (some p) v1.ownBlock wr w') := add_fr p wr v1 _ (t + k) _ hw (dig_lt n k) (by omega)
      go_wp2_with (first | (go_at_call 54; with_reducible refine (hdig.out _).mono ?_; rintro e w' ⟨rfl, hx⟩; have hx := hx.symm; subst hx) | (go_at_call 53; (with_reducible refine hadd.out.mono ?_); rintro e w' ⟨rfl, v2, hw2, hk2, hb2⟩))
      go_roundw
      case rel =>
        rw [putting] at hw2
        exact ⟨k + 1, v2, by omega, by go_num, hw2, hkin.trans hb.size hk2, hb.trans hb2 hkin⟩
      case measure => simp [intOf]; omega
    · have hkk : k = c := by omega
      subst hkk
      go_wp2
      go_end0
      exact ⟨rfl, v1, hw, hkin, hb⟩

end Go.Proofs.YtdokpimhhkbdbaaDoor
