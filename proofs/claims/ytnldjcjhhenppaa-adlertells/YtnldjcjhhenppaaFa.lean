/-
  A byte that is another one changes the sum; seals open.
-/
import Derived.Test.YtnldjcjhhenppaaPa
set_option linter.unusedSimpArgs false
set_option linter.unusedVariables false
namespace Go.Proofs.Ytnldjcjhhenppaa
open Go.RowKit

def tot (l : List Nat) : Nat := l.foldr (· + ·) 0

theorem tot_snoc (l : List Nat) (x : Nat) : tot (l ++ [x]) = tot l + x := by
  induction l with
  | nil => simp [tot]
  | cons a l ih => simp [tot] at ih ⊢; omega

theorem rev_ind {p : List Nat → Prop} (l : List Nat) (h0 : p []) (h1 : ∀ l x, p l → p (l ++ [x])) : p l := by
  have : p l.reverse.reverse := by
    induction l.reverse with
    | nil => exact h0
    | cons a l ih => rw [List.reverse_cons]; exact h1 _ _ ih
  rwa [List.reverse_reverse] at this

theorem mod_step (t x a : Nat) (h : a = (1 + t) % 65521) : (a + x) % 65521 = (1 + (t + x)) % 65521 := by
  subst h
  rw [Nat.mod_add_mod]
  congr 1
  omega

theorem adl_tot (l : List Nat) : (adl l).1 = (1 + tot l) % 65521 := by
  refine rev_ind (p := fun l => (adl l).1 = (1 + tot l) % 65521) l (by decide) fun l x ih => ?_
  rw [adl_snoc, tot_snoc]
  exact mod_step _ _ _ ih

theorem tot_set (l : List Nat) (k y : Nat) (h : k < l.length) : tot (l.set k y) + l.getD k 0 = tot l + y := by
  induction l generalizing k with
  | nil => simp at h
  | cons a l ih =>
    cases k with
    | zero => simp [tot]; omega
    | succ k =>
      have := ih k (by simpa using h)
      simp [tot] at this ⊢
      omega

theorem sum_low (l : List Nat) : sumOf l % 65536 = (adl l).1 := by
  have := adl_lt l
  unfold sumOf
  omega

theorem mod_ne (s t a b : Nat) (h : s + a = t + b) (ha : a < 256) (hb : b < 256) (hne : a ≠ b) : (1 + s) % 65521 ≠ (1 + t) % 65521 := by omega

theorem sum_set (l : List Nat) (k y : Nat) (h : k < l.length) (hs : Small l) (hy : y < 256) (hne : y ≠ l.getD k 0) : sumOf (l.set k y) ≠ sumOf l := by
  intro e
  have h1 := congrArg (· % 65536) e
  simp only [sum_low] at h1
  rw [adl_tot, adl_tot] at h1
  exact mod_ne _ _ _ _ (tot_set l k y h) (small_at hs k) hy (fun e => hne e.symm) h1

theorem seal_len (bs : List Nat) : (sealL bs).length = 4 + bs.length := by simp [sealL]; omega

theorem seal_small {bs : List Nat} (h : Small bs) : Small (sealL bs) := by
  have := sumOf_lt bs
  intro b hb
  simp only [sealL, List.cons_append, List.nil_append, List.mem_cons] at hb
  rcases hb with rfl | rfl | rfl | rfl | hb
  · omega
  · omega
  · omega
  · omega
  · exact h b hb

theorem num_seal (S : Nat) : num [S / 16777216, S / 65536 % 256, S / 256 % 256, S % 256] = S := by
  simp only [num, List.foldl]
  omega

theorem seal_drop (bs : List Nat) : (sealL bs).drop 4 = bs := rfl
theorem seal_take (bs : List Nat) : (sealL bs).take 4 = [sumOf bs / 16777216, sumOf bs / 65536 % 256, sumOf bs / 256 % 256, sumOf bs % 256] := rfl

theorem opens_seal (bs : List Nat) : opens (sealL bs) = true := by
  unfold opens
  rw [decide_eq_true_iff, seal_drop, seal_take, num_seal, seal_len]
  exact ⟨by omega, rfl⟩

theorem openL_seal (bs : List Nat) : openL (sealL bs) = bs := by unfold openL; rw [opens_seal]; rfl

theorem num_lit (a b c d : Nat) : num [a, b, c, d] = ((a * 256 + b) * 256 + c) * 256 + d := by simp [num]

theorem small_set {l : List Nat} (h : Small l) (k y : Nat) (hy : y < 256) : Small (l.set k y) := by
  intro b hb
  rcases List.mem_or_eq_of_mem_set hb with hb | rfl
  · exact h b hb
  · exact hy

theorem opens_set (bs : List Nat) (k y : Nat) (hs : Small bs) (h : k < (sealL bs).length) (hy : y < 256) (hne : y ≠ (sealL bs).getD k 0) : opens ((sealL bs).set k y) = false := by
  have hS := sumOf_lt bs
  unfold opens
  rw [decide_eq_false_iff_not]
  rintro ⟨_, h2⟩
  rcases Nat.lt_or_ge k 4 with hk | hk
  · have hd : ((sealL bs).set k y).drop 4 = bs := by rw [List.drop_set_of_lt hk, seal_drop]
    rw [hd, List.take_set, seal_take] at h2
    have e := num_seal (sumOf bs)
    rw [num_lit] at e
    generalize hA : sumOf bs / 16777216 = A at *
    generalize hB : sumOf bs / 65536 % 256 = B at *
    generalize hC : sumOf bs / 256 % 256 = C at *
    generalize hD : sumOf bs % 256 = D at *
    have hg : ∀ j, j < 4 → (sealL bs).getD j 0 = [A, B, C, D].getD j 0 := by
      intro j hj
      rw [← hA, ← hB, ← hC, ← hD]
      rcases (show j = 0 ∨ j = 1 ∨ j = 2 ∨ j = 3 by omega) with rfl | rfl | rfl | rfl <;> rfl
    rw [hg k hk] at hne
    rcases (show k = 0 ∨ k = 1 ∨ k = 2 ∨ k = 3 by omega) with rfl | rfl | rfl | rfl
    · simp only [List.set_cons_zero] at h2
      rw [num_lit] at h2
      simp only [List.getD_cons_zero] at hne
      omega
    · simp only [List.set_cons_succ, List.set_cons_zero] at h2
      rw [num_lit] at h2
      simp only [List.getD_cons_succ, List.getD_cons_zero] at hne
      omega
    · simp only [List.set_cons_succ, List.set_cons_zero] at h2
      rw [num_lit] at h2
      simp only [List.getD_cons_succ, List.getD_cons_zero] at hne
      omega
    · simp only [List.set_cons_succ, List.set_cons_zero] at h2
      rw [num_lit] at h2
      simp only [List.getD_cons_succ, List.getD_cons_zero] at hne
      omega
  · have ht : ((sealL bs).set k y).take 4 = (sealL bs).take 4 := by rw [List.take_set, List.set_eq_of_length_le]; rw [List.length_take]; omega
    rw [ht, seal_take, num_seal, List.drop_set, if_neg (by omega), seal_drop] at h2
    have hl := seal_len bs
    have hg : (sealL bs).getD k 0 = bs.getD (k - 4) 0 := by
      obtain ⟨j, rfl⟩ : ∃ j, k = j + 4 := ⟨k - 4, by omega⟩
      simp [sealL]
    exact sum_set bs (k - 4) y (by omega) hs hy (by rw [← hg]; exact hne) h2

theorem xor_lt (a b : Nat) (ha : a < 256) (hb : b < 256) : a ^^^ b < 256 := Nat.xor_lt_two_pow (n := 8) ha hb

theorem xor_ne (a b : Nat) (hb : b ≠ 0) : a ^^^ b ≠ a := by
  intro h
  have h2 := congrArg (a ^^^ ·) h
  simp only [← Nat.xor_assoc, Nat.xor_self, Nat.zero_xor] at h2
  exact hb h2

end Go.Proofs.Ytnldjcjhhenppaa
