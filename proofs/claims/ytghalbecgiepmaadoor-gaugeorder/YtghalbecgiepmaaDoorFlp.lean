/-
  Plain mathematics of float64's words: where the nearest word of a number is that number itself; a word cut to a whole number; what a quotient of small whole numbers is.
-/
import Derived.Test.YtghalbecgiepmaaDoorFlo
namespace Go.Proofs.YtghalbecgiepmaaDoor.flo
open Ieee

theorem vl_join (E K : Nat) (hK : K ≤ 9007199254740992) (h : E = 0 ∨ 4503599627370496 ≤ K) : vl (E * 4503599627370496 + K) = K * 2 ^ E := by
  unfold vl mg ex
  by_cases h1 : K < 4503599627370496
  · obtain rfl : E = 0 := by omega
    have e1 : K / 4503599627370496 = 0 := by omega
    simp [h1, e1]
  · by_cases h2 : K = 9007199254740992
    · subst h2
      have e1 : (E * 4503599627370496 + 9007199254740992) / 4503599627370496 = E + 2 := by omega
      have e2 : (E * 4503599627370496 + 9007199254740992) % 4503599627370496 = 0 := by omega
      rw [if_neg (by omega), e1, e2, show E + 2 - 1 = E + 1 from rfl, Nat.pow_succ]
      omega
    · have e1 : (E * 4503599627370496 + K) / 4503599627370496 = E + 1 := by omega
      have e2 : (E * 4503599627370496 + K) % 4503599627370496 = K - 4503599627370496 := by omega
      have e3 : 4503599627370496 + (K - 4503599627370496) = K := by omega
      rw [if_neg (by omega), e1, e2, show E + 1 - 1 = E from rfl, e3]

theorem pow_bound {m e n : Nat} (hm : m < 9007199254740992) (he : e + 2 ≤ n) : m * 2 ^ e < 4503599627370496 * 2 ^ n := by
  have h1 : m * 2 ^ e < 9007199254740992 * 2 ^ e := Nat.mul_lt_mul_of_pos_right hm (Nat.two_pow_pos _)
  have h2 : 2 ^ (e + 2) ≤ 2 ^ n := Nat.pow_le_pow_right (by decide) he
  rw [Nat.pow_add] at h2
  omega
theorem below_inf {m e : Nat} (hm : m < 9007199254740992) (he : e ≤ 2044) : m * 2 ^ e < vl 9218868437227405312 := by
  have h1 : vl 9218868437227405312 = 4503599627370496 * 2 ^ ex 9218868437227405312 := congrArg (· * 2 ^ ex 9218868437227405312) (by decide : mg 9218868437227405312 = 4503599627370496)
  have h2 : ex 9218868437227405312 = 2046 := by decide
  rw [h1]
  exact pow_bound hm (by omega)

theorem cut_zero_drop (s : Bool) (n : Nat) : Toward.even.cut s n 0 = n := by
  unfold Toward.cut
  simp [Nat.mod_one]
theorem cut_exact (s : Bool) (n d : Nat) (hd : d ≤ n.log2 + 2) (h : n % 2 ^ d = 0) : Toward.even.cut s n d = n / 2 ^ d := by
  unfold Toward.cut
  simp only [Nat.min_eq_left hd, Nat.shiftLeft_eq, Nat.one_mul, h, Nat.mul_zero]
  have hp := Nat.two_pow_pos d
  have e2 : ((2 ^ d == 0) : Bool) = false := by simp
  simp [e2]

theorem log2_spec {n : Nat} (h : 0 < n) : 2 ^ n.log2 ≤ n ∧ n < 2 ^ (n.log2 + 1) :=
  ⟨Nat.log2_self_le (by omega), Nat.lt_log2_self⟩

theorem word_facts (s : Bool) {r : Nat} (h : r < 9223372036854775808) : double.word s r < 18446744073709551616 ∧ neg (double.word s r) = s ∧ rung (double.word s r) = r := by
  unfold Format.word neg rung
  rw [show double.signWeight = 9223372036854775808 from rfl]
  cases s <;> simp <;> omega

/-- the rung that 'nearest' takes -/
theorem nearest_parts (s : Bool) (mag P : Nat) (h0 : 0 < mag) :
    double.nearest s mag (-1074 + (P : Int)) = double.word s (min ((mag.log2 + P - 52) * 4503599627370496 + Toward.even.cut s (mag <<< (P - (mag.log2 + P - 52))) ((mag.log2 + P - 52) - P)) 9218868437227405312) := by
  unfold Format.nearest
  rw [if_neg (by omega), show double.fractionBits = 52 from rfl, show double.leastPlace = -1074 from rfl, show double.binade = 4503599627370496 from rfl, show double.infRung = 9218868437227405312 from rfl]
  simp only
  have e1 : (max (-1074 + (P : Int) + (mag.log2 : Int) - (52 : Nat)) (-1074) - -1074).toNat = mag.log2 + P - 52 := by omega
  have e2 : (-1074 + (P : Int) - max (-1074 + (P : Int) + (mag.log2 : Int) - (52 : Nat)) (-1074)).toNat = P - (mag.log2 + P - 52) := by omega
  have e3 : (max (-1074 + (P : Int) + (mag.log2 : Int) - (52 : Nat)) (-1074) - (-1074 + (P : Int))).toNat = (mag.log2 + P - 52) - P := by omega
  rw [e1, e2, e3]

theorem lt_of_vl {r q : Nat} (h : vl r < vl q) : r < q := vl_lt_iff.1 h

theorem nearest_exact (s : Bool) (mag P m e : Nat) (h0 : 0 < mag) (heq : mag * 2 ^ P = m * 2 ^ e) (hm : m < 9007199254740992) (he : e ≤ 2044) :
    double.nearest s mag (-1074 + (P : Int)) < 18446744073709551616 ∧ neg (double.nearest s mag (-1074 + (P : Int))) = s ∧
      rung (double.nearest s mag (-1074 + (P : Int))) < 9218868437227405312 ∧ vl (rung (double.nearest s mag (-1074 + (P : Int)))) = m * 2 ^ e := by
  obtain ⟨l1, l2⟩ := log2_spec h0
  generalize hL : mag.log2 = L at l1 l2
  have key : ∀ R : Nat, vl R = m * 2 ^ e → (mag.log2 + P - 52) * 4503599627370496 + Toward.even.cut s (mag <<< (P - (mag.log2 + P - 52))) ((mag.log2 + P - 52) - P) = R →
      double.nearest s mag (-1074 + (P : Int)) < 18446744073709551616 ∧ neg (double.nearest s mag (-1074 + (P : Int))) = s ∧
      rung (double.nearest s mag (-1074 + (P : Int))) < 9218868437227405312 ∧ vl (rung (double.nearest s mag (-1074 + (P : Int)))) = m * 2 ^ e := by
    intro R hv hR
    have hlt : R < 9218868437227405312 := lt_of_vl (by rw [hv]; exact below_inf hm he)
    rw [nearest_parts s mag P h0, hR, Nat.min_eq_left (Nat.le_of_lt hlt)]
    obtain ⟨w1, w2, w3⟩ := word_facts s (r := R) (by omega)
    exact ⟨w1, w2, by rw [w3]; exact hlt, by rw [w3]; exact hv⟩
  by_cases c1 : L + P ≤ 52
  · refine key (mag * 2 ^ P) ?_ ?_
    · have hK : mag * 2 ^ P < 9007199254740992 := by
        calc mag * 2 ^ P < 2 ^ (L + 1) * 2 ^ P := Nat.mul_lt_mul_of_pos_right l2 (Nat.two_pow_pos _)
          _ = 2 ^ (L + 1 + P) := (Nat.pow_add ..).symm
          _ ≤ 2 ^ 53 := Nat.pow_le_pow_right (by decide) (by omega)
          _ = 9007199254740992 := by decide
      have := vl_join 0 (mag * 2 ^ P) (Nat.le_of_lt hK) (Or.inl rfl)
      rw [Nat.zero_mul, Nat.zero_add, Nat.pow_zero, Nat.mul_one] at this
      rw [this, heq]
    · rw [hL, show L + P - 52 = 0 by omega, Nat.zero_mul, Nat.zero_add, Nat.zero_sub, cut_zero_drop, Nat.shiftLeft_eq, Nat.sub_zero]
  · by_cases c2 : L ≤ 52
    · have hK : mag * 2 ^ (52 - L) < 9007199254740992 := by
        calc mag * 2 ^ (52 - L) < 2 ^ (L + 1) * 2 ^ (52 - L) := Nat.mul_lt_mul_of_pos_right l2 (Nat.two_pow_pos _)
          _ = 2 ^ (L + 1 + (52 - L)) := (Nat.pow_add ..).symm
          _ = 2 ^ 53 := by congr 1; omega
          _ = 9007199254740992 := by decide
      have hK2 : 4503599627370496 ≤ mag * 2 ^ (52 - L) := by
        calc 4503599627370496 = 2 ^ 52 := by decide
          _ = 2 ^ (L + (52 - L)) := by congr 1; omega
          _ = 2 ^ L * 2 ^ (52 - L) := Nat.pow_add ..
          _ ≤ mag * 2 ^ (52 - L) := Nat.mul_le_mul_right _ l1
      refine key ((L + P - 52) * 4503599627370496 + mag * 2 ^ (52 - L)) ?_ ?_
      · rw [vl_join _ _ (Nat.le_of_lt hK) (Or.inr hK2), Nat.mul_assoc, ← Nat.pow_add, show 52 - L + (L + P - 52) = P by omega, heq]
      · rw [hL, show L + P - 52 - P = 0 by omega, cut_zero_drop, Nat.shiftLeft_eq, show P - (L + P - 52) = 52 - L by omega]
    · -- digits are dropped, all of them nought
      have hbig : 9007199254740992 ≤ mag := by
        calc 9007199254740992 = 2 ^ 53 := by decide
          _ ≤ 2 ^ L := Nat.pow_le_pow_right (by decide) (by omega)
          _ ≤ mag := l1
      have heP : P < e := by
        rcases Nat.lt_or_ge P e with h | h
        · exact h
        · exfalso
          have hp := Nat.two_pow_pos e
          rw [show P = (P - e) + e by omega, Nat.pow_add, ← Nat.mul_assoc] at heq
          have h2 := Nat.eq_of_mul_eq_mul_right hp heq
          have : mag * 1 ≤ mag * 2 ^ (P - e) := Nat.mul_le_mul_left _ Nat.one_le_two_pow
          omega
      have hmag : mag = m * 2 ^ (e - P) := by
        have hp := Nat.two_pow_pos P
        rw [show e = (e - P) + P by omega, Nat.pow_add, ← Nat.mul_assoc] at heq
        exact Nat.eq_of_mul_eq_mul_right hp heq
      have hd : L - 52 ≤ e - P := by
        rcases Nat.lt_or_ge (e - P) (L - 52) with h | h
        · exfalso
          have : mag < 2 ^ L := by
            calc mag = m * 2 ^ (e - P) := hmag
              _ < 9007199254740992 * 2 ^ (e - P) := Nat.mul_lt_mul_of_pos_right hm (Nat.two_pow_pos _)
              _ = 2 ^ 53 * 2 ^ (e - P) := by congr 1
              _ = 2 ^ (53 + (e - P)) := (Nat.pow_add ..).symm
              _ ≤ 2 ^ L := Nat.pow_le_pow_right (by decide) (by omega)
          omega
        · exact h
      have hsplit : mag = m * 2 ^ (e - P - (L - 52)) * 2 ^ (L - 52) := by
        rw [Nat.mul_assoc, ← Nat.pow_add, Nat.sub_add_cancel hd]; exact hmag
      have hmod : mag % 2 ^ (L - 52) = 0 := by rw [hsplit]; exact Nat.mul_mod_left _ _
      have hdiv : mag / 2 ^ (L - 52) * 2 ^ (L - 52) = mag := Nat.div_mul_cancel (Nat.dvd_of_mod_eq_zero hmod)
      have hpos := Nat.two_pow_pos (L - 52)
      have hK : mag / 2 ^ (L - 52) < 9007199254740992 := by
        rw [Nat.div_lt_iff_lt_mul hpos]
        calc mag < 2 ^ (L + 1) := l2
          _ = 2 ^ (53 + (L - 52)) := by congr 1; omega
          _ = 2 ^ 53 * 2 ^ (L - 52) := Nat.pow_add ..
          _ = 9007199254740992 * 2 ^ (L - 52) := by congr 1
      have hK2 : 4503599627370496 ≤ mag / 2 ^ (L - 52) := by
        rw [Nat.le_div_iff_mul_le hpos]
        calc 4503599627370496 * 2 ^ (L - 52) = 2 ^ 52 * 2 ^ (L - 52) := by congr 1
          _ = 2 ^ (52 + (L - 52)) := (Nat.pow_add ..).symm
          _ = 2 ^ L := by congr 1; omega
          _ ≤ mag := l1
      refine key ((L + P - 52) * 4503599627370496 + mag / 2 ^ (L - 52)) ?_ ?_
      · rw [vl_join _ _ (Nat.le_of_lt hK) (Or.inr hK2), show L + P - 52 = (L - 52) + P by omega, Nat.pow_add, ← Nat.mul_assoc, hdiv, heq]
      · rw [hL, show L + P - 52 - P = L - 52 by omega, show P - (L + P - 52) = 0 by omega, Nat.shiftLeft_eq, Nat.pow_zero, Nat.mul_one, cut_exact s mag (L - 52) (by omega) hmod]

end Go.Proofs.YtghalbecgiepmaaDoor.flo
