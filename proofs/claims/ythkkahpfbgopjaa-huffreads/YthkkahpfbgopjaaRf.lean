/-
  The document's reader: Left, Get, Skip.
-/
import Derived.Test.YthkkahpfbgopjaaRb
set_option linter.unusedSimpArgs false
set_option linter.unusedVariables false
namespace Go.Proofs.Ythkkahpfbgopjaa
open Go.RowKit

theorem xleft_walk (w : World) (rb : Nat) (bs : List Nat) (pos : Nat) (bad : Bool) (h : Rd 53 w rb bs pos bad) :
    Calls Try.prog 24 #[.pointer (some ⟨rb, 0, none⟩)] w fun e w' => e = .returned (.int .i64 (8 * (bs.length : Int) - pos)) ∧ ∃ k, w' = w.drewN k := by
  obtain ⟨⟨v, hp, ho⟩, h2, h3, h4⟩ := h
  have c0 := cell3_0 hp
  have c1 := cell3_1 hp
  obtain ⟨ao, cp, rfl, -, -, -⟩ := lies_own ho
  go_enter Try.func24, Try.ntmps24
  go_wp2
  go_quiet (fail)
  go_wp2
  go_ret
  exact ⟨rfl, _, rfl⟩

set_option maxHeartbeats 1000000 in
theorem xget_has (w : World) (rb : Nat) (bs : List Nat) (pos c : Nat) (h : Rd 53 w rb bs pos false) (hc : c ≤ 16) (hl : pos + c ≤ 8 * bs.length) :
    Calls Try.prog 41 #[.pointer (some ⟨rb, 0, none⟩), .int .i64 c] w fun e w' => e = .returned (.int .i64 ((val bs / 2 ^ pos % 2 ^ c : Nat) : Int)) ∧ Rd 53 w' rb bs (pos + c) false ∧ w.grownBy w' (some rb) := by
  have hleft : Hid (Calls Try.prog 24 #[.pointer (some ⟨rb, 0, none⟩)] w fun e w' => e = .returned (.int .i64 (8 * (bs.length : Int) - pos)) ∧ ∃ k, w' = w.drewN k) := xleft_walk w rb bs pos false h
  have hgt : ¬ (8 * (bs.length : Int) - pos < c) := by omega
  have c2 : w.cell? ⟨rb, 2, none⟩ = some (.bool false) := by obtain ⟨⟨v, hp, _⟩, _⟩ := h; exact cell3_2 hp
  go_enter Try.func41, Try.ntmps41
  go_wp2_with (first
    | (go_at_call 24; (with_reducible refine hleft.out.mono ?_); rintro e w' ⟨rfl, q, hx⟩; have hx := hx.symm; subst hx))
  go_loopw [5, 6] (fun n i wr => ∃ k : Nat, k ≤ c ∧ n = .int .i64 ((val bs / 2 ^ pos % 2 ^ k : Nat) : Int) ∧ i = .int .i64 k ∧ Rd 53 wr rb bs (pos + k) false ∧ w.grownBy wr (some rb)) (fun _ i _ => c - (intOf i).toNat)
  case atStart => exact ⟨0, by omega, by simp [Nat.mod_one], rfl, h.drewN _, grown_drewN _ _ _⟩
  case round =>
    obtain ⟨k, hk, rfl, rfl, hr, hb⟩ := hrel
    by_cases hkc : k < c
    · obtain ⟨⟨v, hp, ho⟩, h2, h3, h4⟩ := id hr
      have c0 := cell3_0 hp
      have c1 := cell3_1 hp
      have z1 := free_at hp 1
      obtain ⟨g, cap, rfl, -, -⟩ := ho.form (by omega)
      obtain ⟨p, hpe⟩ : ∃ p, p = pos + k := ⟨_, rfl⟩
      have hplt : p < 8 * bs.length := by omega
      have hcell : wr.cell? ⟨g, p / 8, none⟩ = some (.int .u8 ((bs.getD (p / 8) 0 : Nat) : Int)) := by
        rw [ho.cellAt _ (by omega)]
        have : p / 8 < bs.length := by omega
        simp [this, byteV]
      have hvb := val_bit h2 p
      have hx2 := byte_lt h2 (p / 8)
      obtain ⟨x, hxe⟩ : ∃ x, x = bs.getD (p / 8) 0 := ⟨_, rfl⟩
      rw [← hxe] at hcell hvb hx2
      have hdg := digit_at x (p % 8) hx2
      have hj := joined (val bs) pos k (by omega)
      rw [← hpe] at hj c1 hr
      rw [hvb, ← hdg] at hj
      obtain ⟨a, ha⟩ : ∃ a : Nat, a = val bs / 2 ^ pos % 2 ^ k := ⟨_, rfl⟩
      obtain ⟨d, hd⟩ : ∃ d : Nat, d = val bs / 2 ^ pos % 2 ^ (k + 1) := ⟨_, rfl⟩
      rw [← ha, ← hd] at hj
      rw [← ha]
      have HD : Hid (d = val bs / 2 ^ pos % 2 ^ (k + 1)) := hd
      have HP : Hid (p = pos + k) := hpe
      have HR : Hid (Rd 53 wr rb bs p false) := hr
      clear ha hd hpe hvb hxe hp ho hdg hr
      go_wp2
      go_quiet (fail)
      go_wp2
      go_roundw
      case rel =>
        have e : pos + (k + 1) = p + 1 := by rw [HP.out]; omega
        refine ⟨k + 1, by omega, by rw [← HD.out], by go_num, ?_, grown_trans hb (grown_trans (grown_drewN wr nq _) (grown_set _ _ _ _))⟩
        rw [e]
        exact (HR.out.drewN nq).set1 (by decide) (p + 1) (by omega)
      case measure => simp [intOf]; omega
    · have hkk : k = c := by omega
      subst hkk
      go_wp2
      go_ret
      exact ⟨rfl, hr, hb⟩

theorem xget_not (w : World) (rb : Nat) (bs : List Nat) (pos : Nat) (bad : Bool) (c : Int) (h : Rd 53 w rb bs pos bad) (hn : ¬ Has bs pos bad c) :
    Calls Try.prog 41 #[.pointer (some ⟨rb, 0, none⟩), .int .i64 c] w fun e w' => e = .returned (.int .i64 0) ∧ Rd 53 w' rb bs pos true ∧ w.grownBy w' (some rb) := by
  have hleft : Hid (Calls Try.prog 24 #[.pointer (some ⟨rb, 0, none⟩)] w fun e w' => e = .returned (.int .i64 (8 * (bs.length : Int) - pos)) ∧ ∃ k, w' = w.drewN k) := xleft_walk w rb bs pos bad h
  obtain ⟨c2, z2⟩ : w.cell? ⟨rb, 2, none⟩ = some (.bool bad) ∧ w.frozen? ⟨rb, 2, none⟩ = false := by obtain ⟨⟨v, hp, _⟩, _⟩ := h; exact ⟨cell3_2 hp, free_at hp 2⟩
  cases bad with
  | true =>
    go_enter Try.func41, Try.ntmps41
    go_wp2
    go_ret
    exact ⟨rfl, h.set2 (by decide) true, grown_set _ _ _ _⟩
  | false =>
    by_cases h0 : c < 0
    · go_enter Try.func41, Try.ntmps41
      go_wp2
      go_ret
      exact ⟨rfl, h.set2 (by decide) true, grown_set _ _ _ _⟩
    · by_cases h16 : 16 < c
      · go_enter Try.func41, Try.ntmps41
        go_wp2
        go_ret
        exact ⟨rfl, h.set2 (by decide) true, grown_set _ _ _ _⟩
      · have hgt : 8 * (bs.length : Int) - pos < c := by
          rcases Int.lt_or_le (8 * (bs.length : Int) - pos) c with h' | h'
          · exact h'
          · exact absurd ⟨rfl, by omega, by omega, by omega⟩ hn
        go_enter Try.func41, Try.ntmps41
        go_wp2_with (first
          | (go_at_call 24; (with_reducible refine hleft.out.mono ?_); rintro e w' ⟨rfl, q, hx⟩; have hx := hx.symm; subst hx))
        go_ret
        exact ⟨rfl, (h.drewN q).set2 (by decide) true, grown_trans (grown_drewN w q _) (grown_set _ _ _ _)⟩

end Go.Proofs.Ythkkahpfbgopjaa
