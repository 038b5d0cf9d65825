/-
  Plain mathematics of HuffBack: what is written of signs, one behind the other, and that each is found again.
-/
import Derived.Test.YthkkahpfbgopjaaNc
set_option linter.unusedSimpArgs false
set_option linter.unusedVariables false
namespace Go.Proofs.Ythkkahpfbgopjaa

def rv (l : List Nat) (s : Nat) : Nat := rev (code l s : Nat) (nth l s) (nth l s)
/-- The number that is written of some signs, and how many digits it has. -/
def wstep (l : List Nat) (p : Nat × Nat) (s : Nat) : Nat × Nat := (p.1 + rv l s * 2 ^ p.2, p.2 + nth l s)
def wall (l ps : List Nat) : Nat × Nat := ps.foldl (wstep l) (0, 0)

theorem wall_snoc (l ps : List Nat) (s : Nat) : wall l (ps ++ [s]) = wstep l (wall l ps) s := by simp [wall]

theorem fold_more (l b : List Nat) : ∀ p : Nat × Nat, ∃ K, (b.foldl (wstep l) p).1 = p.1 + K * 2 ^ p.2 ∧ p.2 ≤ (b.foldl (wstep l) p).2 := by
  induction b with
  | nil => intro p; exact ⟨0, by simp, Nat.le_refl _⟩
  | cons s b ih =>
    intro p
    obtain ⟨K, h1, h2⟩ := ih (wstep l p s)
    refine ⟨rv l s + K * 2 ^ nth l s, ?_, ?_⟩
    · rw [List.foldl_cons, h1]
      simp only [wstep]
      rw [Nat.pow_add, Nat.add_mul, Nat.mul_assoc K, Nat.mul_comm (2 ^ nth l s)]
      omega
    · rw [List.foldl_cons]
      have h3 : (wstep l p s).2 = p.2 + nth l s := rfl
      omega

theorem wall_more (l a b : List Nat) : ∃ K, (wall l (a ++ b)).1 = (wall l a).1 + K * 2 ^ (wall l a).2 ∧ (wall l a).2 ≤ (wall l (a ++ b)).2 := by
  unfold wall
  rw [List.foldl_append]
  exact fold_more l b _

theorem wall_lt (l ps : List Nat) : (wall l ps).1 < 2 ^ (wall l ps).2 := by
  have key : ∀ (b : List Nat) (p : Nat × Nat), p.1 < 2 ^ p.2 → (b.foldl (wstep l) p).1 < 2 ^ (b.foldl (wstep l) p).2 := by
    intro b
    induction b with
    | nil => intro p h; exact h
    | cons s b ih =>
      intro p h
      rw [List.foldl_cons]
      apply ih
      simp only [wstep]
      have h2 : rv l s < 2 ^ nth l s := rev_lt _ _ _
      rw [Nat.pow_add]
      have h3 : (rv l s + 1) * 2 ^ p.2 ≤ 2 ^ nth l s * 2 ^ p.2 := Nat.mul_le_mul_right _ h2
      rw [Nat.add_mul, Nat.one_mul] at h3
      rw [Nat.mul_comm (2 ^ p.2)]
      omega
  exact key ps (0, 0) (by simp)

theorem wall_le (l ps : List Nat) (h : ∀ i, nth l i ≤ 15) : (wall l ps).2 ≤ 15 * ps.length := by
  have key : ∀ (b : List Nat) (p : Nat × Nat), (b.foldl (wstep l) p).2 ≤ p.2 + 15 * b.length := by
    intro b
    induction b with
    | nil => intro p; simp
    | cons s b ih =>
      intro p
      rw [List.foldl_cons, List.length_cons]
      have := ih (wstep l p s)
      have h15 := h s
      have h3 : (wstep l p s).2 = p.2 + nth l s := rfl
      omega
  have := key ps (0, 0)
  simpa [wall] using this

/-- The digits of the j-th sign's code, where they were written. -/
theorem wall_digit (l ps : List Nat) (j k : Nat) (hj : j < ps.length) (hk : k < nth l (ps.getD j 0)) :
    (wall l ps).1 / 2 ^ ((wall l (ps.take j)).2 + k) % 2 = dig (code l (ps.getD j 0) : Nat) (nth l (ps.getD j 0) - 1 - k) := by
  have e1 : ps.take (j + 1) = ps.take j ++ [ps.getD j 0] := by
    rw [List.take_succ_eq_append_getElem hj]
    simp [hj]
  have e2 : ps = ps.take (j + 1) ++ ps.drop (j + 1) := (List.take_append_drop _ _).symm
  obtain ⟨K, h1, _⟩ := wall_more l (ps.take (j + 1)) (ps.drop (j + 1))
  rw [← e2] at h1
  have h3 := wall_lt l (ps.take j)
  rw [e1, wall_snoc] at h1
  generalize hs : ps.getD j 0 = s at *
  generalize wall l (ps.take j) = p at *
  simp only [wstep] at h1
  have h4 : rv l s < 2 ^ nth l s := rev_lt _ _ _
  have h5 : (wall l ps).1 = p.1 + (rv l s + K * 2 ^ nth l s) * 2 ^ p.2 := by
    rw [h1, Nat.pow_add, Nat.add_mul, Nat.mul_assoc K, Nat.mul_comm (2 ^ nth l s)]
    omega
  rw [h5, Nat.pow_add, ← Nat.div_div_eq_div_mul, Nat.add_mul_div_right _ _ (Nat.pow_pos (by decide)), Nat.div_eq_of_lt h3, Nat.zero_add]
  have h6 : K * 2 ^ nth l s = 2 ^ k * (2 * (K * 2 ^ (nth l s - k - 1))) := by
    have : 2 ^ nth l s = 2 ^ k * (2 * 2 ^ (nth l s - k - 1)) := by
      rw [← Nat.pow_succ', ← Nat.pow_add]; congr 1; omega
    rw [this]
    simp only [Nat.mul_left_comm, Nat.mul_comm, Nat.mul_assoc]
  rw [h6, Nat.add_mul_div_left _ _ (Nat.pow_pos (by decide)), ← rev_bit (code l s : Nat) (nth l s) (nth l s) k hk]
  unfold rv
  omega

theorem wall_next (l ps : List Nat) (j : Nat) (hj : j < ps.length) : (wall l (ps.take (j + 1))).2 = (wall l (ps.take j)).2 + nth l (ps.getD j 0) := by
  have e1 : ps.take (j + 1) = ps.take j ++ [ps.getD j 0] := by
    rw [List.take_succ_eq_append_getElem hj]
    simp [hj]
  rw [e1, wall_snoc]
  rfl

theorem wall_pos (l ps : List Nat) (j : Nat) : (wall l (ps.take j)).2 ≤ (wall l ps).2 := by
  obtain ⟨K, _, h⟩ := wall_more l (ps.take j) (ps.drop j)
  rwa [List.take_append_drop] at h

/-- Each sign is found where it was written. -/
theorem wall_hit {l ps bs : List Nat} (hf : Fits l) (h15 : ∀ x ∈ l, x ≤ 15) (hps : ∀ s ∈ ps, s < l.length ∧ 0 < nth l s) (hv : val bs = (wall l ps).1) (hl : (wall l ps).2 ≤ 8 * bs.length) (j : Nat) (hj : j < ps.length) :
    Hit l (nx bs (wall l (ps.take j)).2) (8 * bs.length - (wall l (ps.take j)).2) (ps.getD j 0) := by
  have hm : ps.getD j 0 ∈ ps := by simp [hj]
  obtain ⟨h1, h2⟩ := hps _ hm
  have h3 := nth_le15 h15 (ps.getD j 0)
  have h4 := wall_next l ps j hj
  have h5 := wall_pos l ps (j + 1)
  refine ⟨h1, h2, by omega, ?_⟩
  have := top_code (f := nx bs (wall l (ps.take j)).2) (code l (ps.getD j 0)) (nth l (ps.getD j 0)) (code_lt hf h1 h2 h3) (fun k hk => by
    unfold nx
    rw [hv]
    exact wall_digit l ps j k hj hk) _ (Nat.le_refl _)
  rw [this, Nat.sub_self, Nat.pow_zero, Nat.div_one]

end Go.Proofs.Ythkkahpfbgopjaa
