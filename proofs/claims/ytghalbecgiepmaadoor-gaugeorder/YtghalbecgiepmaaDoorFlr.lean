/-
  Plain mathematics of float64's words: a hundred times a number that is below 10^15 is a number, and its ones fit an int64.
-/
import Derived.Test.YtghalbecgiepmaaDoorFlq
namespace Go.Proofs.YtghalbecgiepmaaDoor.flo
open Ieee

theorem cut_le (s : Bool) (n d : Nat) (h : n < 2 ^ (53 + d)) : Toward.even.cut s n d ≤ 9007199254740992 := by
  have hb : ∀ b : Bool, b.toNat ≤ 1 := fun b => by cases b <;> decide
  unfold Toward.cut
  dsimp only
  refine Nat.le_trans (Nat.add_le_add_left (hb _) _) ?_
  rw [Nat.shiftLeft_eq, Nat.one_mul]
  suffices n / 2 ^ min d (n.log2 + 2) < 9007199254740992 by omega
  rcases Nat.le_total d (n.log2 + 2) with h1 | h1
  · rw [Nat.min_eq_left h1, Nat.div_lt_iff_lt_mul (Nat.two_pow_pos _)]
    rw [Nat.pow_add] at h
    exact h
  · rw [Nat.min_eq_right h1]
    have h2 : n < 2 ^ (n.log2 + 1) := Nat.lt_log2_self
    have h3 : 2 ^ (n.log2 + 1) ≤ 2 ^ (n.log2 + 2) := Nat.pow_le_pow_right (by decide) (by omega)
    rw [Nat.div_eq_of_lt (by omega)]
    decide

theorem nearest_small (M : Nat) (place : Int) (h0 : 0 < M) (h : place + (M.log2 : Int) ≤ 57) : ∃ R, double.nearest false M place = R ∧ R ≤ 4868391197187506176 := by
  unfold Format.nearest
  rw [if_neg (by omega), show double.fractionBits = 52 from rfl, show double.leastPlace = -1074 from rfl, show double.binade = 4503599627370496 from rfl, show double.infRung = 9218868437227405312 from rfl]
  simp only
  generalize hl : max (place + (M.log2 : Int) - (52 : Nat)) (-1074) = last
  have hE : (last - -1074).toNat ≤ 1079 := by omega
  have hn : M <<< (place - last).toNat < 2 ^ (53 + (last - place).toNat) := by
    rw [Nat.shiftLeft_eq]
    have l2 : M < 2 ^ (M.log2 + 1) := Nat.lt_log2_self
    calc M * 2 ^ (place - last).toNat < 2 ^ (M.log2 + 1) * 2 ^ (place - last).toNat := Nat.mul_lt_mul_of_pos_right l2 (Nat.two_pow_pos _)
      _ = 2 ^ (M.log2 + 1 + (place - last).toNat) := (Nat.pow_add ..).symm
      _ ≤ 2 ^ (53 + (last - place).toNat) := Nat.pow_le_pow_right (by decide) (by omega)
  have hK := cut_le false _ _ hn
  generalize Toward.even.cut false (M <<< (place - last).toNat) (last - place).toNat = K at hK
  generalize (last - -1074).toNat = E at hE
  refine ⟨min (E * 4503599627370496 + K) 9218868437227405312, by unfold Format.word; rw [if_neg (by decide)], ?_⟩
  have h1 : min (E * 4503599627370496 + K) 9218868437227405312 ≤ E * 4503599627370496 + K := Nat.min_le_left _ _
  generalize min (E * 4503599627370496 + K) 9218868437227405312 = T at h1 ⊢
  omega

theorem ones_small {R : Nat} (h : R ≤ 4868391197187506176) : vl R / U ≤ 288230376151711744 := by
  have h1 : vl R ≤ vl 4868391197187506176 := by
    rcases Nat.lt_or_ge R 4868391197187506176 with h2 | h2
    · exact Nat.le_of_lt (vl_lt h2)
    · obtain rfl : R = 4868391197187506176 := by omega
      exact Nat.le_refl _
  have h2 : vl 4868391197187506176 = 4503599627370496 * 2 ^ ex 4868391197187506176 := congrArg (· * 2 ^ ex 4868391197187506176) (by decide : mg 4868391197187506176 = 4503599627370496)
  have h3 : ex 4868391197187506176 = lo + 6 := by decide
  rw [h3, Nat.pow_add, ← U_def] at h2
  have h4 : vl 4868391197187506176 = 288230376151711744 * U := by
    rw [h2, Nat.mul_comm U, ← Nat.mul_assoc]
  rw [h4] at h1
  exact Nat.le_trans (Nat.div_le_div_right h1) (by rw [Nat.mul_div_cancel _ U_pos]; exact Nat.le_refl _)

def mul100 (x : Nat) : Nat := (floatBits .mul .f64 x 4636737291354636288).getD 0

theorem mul100_facts {x : Nat} (hx : x < 18446744073709551616) (hs : neg x = false) (hb : rung x < 4831355200913801216) :
    floatBits .mul .f64 x 4636737291354636288 = some (mul100 x) ∧ mul100 x ≤ 4868391197187506176 := by
  have hm : floatBits .mul .f64 x 4636737291354636288 = some (double.nearest false (mg (rung x) * 7036874417766400) (-1074 + (ex (rung x) : Int) + -46)) := by
    show double.mul x 4636737291354636288 = _
    unfold Format.mul
    rw [read_fin hx (by omega), hs, show double.read 4636737291354636288 = .number false 7036874417766400 (-46) from by decide +kernel]
    unfold Datum.product
    simp only [Option.map_some, Bool.xor_false]
    unfold Format.write
    rfl
  have hv : mul100 x = double.nearest false (mg (rung x) * 7036874417766400) (-1074 + (ex (rung x) : Int) + -46) := by
    unfold mul100; rw [hm, Option.getD_some]
  refine ⟨by rw [hm, hv], ?_⟩
  rw [hv]
  by_cases h0 : mg (rung x) = 0
  · rw [h0, Nat.zero_mul]
    unfold Format.nearest
    rw [if_pos rfl]
    unfold Format.word
    rw [if_neg (by decide)]
    exact Nat.zero_le _
  · have hM : 0 < mg (rung x) * 7036874417766400 := Nat.mul_pos (Nat.pos_of_ne_zero h0) (by decide)
    have hlog : (mg (rung x) * 7036874417766400).log2 ≤ 105 := by
      have h1 := mg_lt (rung x)
      have h2 : mg (rung x) * 7036874417766400 < 2 ^ 106 := by
        calc mg (rung x) * 7036874417766400 < 9007199254740992 * 7036874417766400 := Nat.mul_lt_mul_of_pos_right h1 (by decide)
          _ ≤ 2 ^ 106 := by decide
      have h3 := (log2_spec hM).1
      rcases Nat.lt_or_ge 105 (mg (rung x) * 7036874417766400).log2 with h4 | h4
      · exfalso
        have : 2 ^ 106 ≤ 2 ^ (mg (rung x) * 7036874417766400).log2 := Nat.pow_le_pow_right (by decide) h4
        omega
      · exact h4
    have hex : ex (rung x) ≤ 1071 := by unfold ex; omega
    obtain ⟨R, h1, h2⟩ := nearest_small _ (-1074 + (ex (rung x) : Int) + -46) hM (by omega)
    rw [h1]
    exact h2
end Go.Proofs.YtghalbecgiepmaaDoor.flo
