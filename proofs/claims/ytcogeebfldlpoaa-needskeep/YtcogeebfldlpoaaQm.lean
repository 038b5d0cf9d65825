/-
  A heap of texts in a plain list: what goes up, what goes down; nothing of a program.
-/
namespace Go.Proofs.NeedsHeap
abbrev Txt := List UInt8
def g (xs : List Txt) (k : Nat) : Txt := xs.getD k []
def sw (xs : List Txt) (i j : Nat) : List Txt := (xs.set i (g xs j)).set j (g xs i)

theorem sw_len (xs : List Txt) (i j : Nat) : (sw xs i j).length = xs.length := by simp [sw]

theorem g_sw {xs : List Txt} {i j : Nat} (hi : i < xs.length) (hj : j < xs.length) (k : Nat) : g (sw xs i j) k = if k = j then g xs i else if k = i then g xs j else g xs k := by
  unfold g sw g
  simp only [List.getD_eq_getElem?_getD, List.getElem?_set, List.length_set]
  by_cases h1 : j = k
  · subst h1; simp [hj]
  · by_cases h2 : i = k
    · subst h2; simp [h1, hi, Ne.symm h1]
    · simp [h1, h2, Ne.symm h1, Ne.symm h2]

theorem sw_perm {xs : List Txt} {i j : Nat} (hi : i < xs.length) (hj : j < xs.length) : (sw xs i j).Perm xs := by
  have h := Array.swap_perm (xs := xs.toArray) (i := i) (j := j) (by simpa using hi) (by simpa using hj)
  have e : (xs.toArray.swap i j (by simpa using hi) (by simpa using hj)).toList = sw xs i j := by
    simp [Array.swap, sw, g, hi, hj]
  have := Array.perm_iff_toList_perm.1 h
  rw [e] at this
  simpa using this

def HeapTo (xs : List Txt) (n : Nat) : Prop := ∀ k, 0 < k → k < n → g xs ((k - 1) / 2) ≤ g xs k

theorem HeapTo.least {xs : List Txt} {n : Nat} (h : HeapTo xs n) : ∀ k, k < n → g xs 0 ≤ g xs k := by
  intro k
  induction k using Nat.strongRecOn with
  | ind k ih =>
    intro hk
    by_cases h0 : k = 0
    · subst h0; exact List.le_refl _
    · exact List.le_trans (ih ((k - 1) / 2) (by omega) (by omega)) (h k (by omega) hk)

/-- all but what stands at j is a heap, and what stands behind j is no less than what is ahead of j -/
def UpI (xs : List Txt) (n j : Nat) : Prop := (∀ k, 0 < k → k < n → k ≠ j → g xs ((k - 1) / 2) ≤ g xs k) ∧ (∀ k, 0 < k → k < n → (k - 1) / 2 = j → 0 < j → g xs ((j - 1) / 2) ≤ g xs k)

theorem up_start {xs : List Txt} {x : Txt} (h : HeapTo xs xs.length) : UpI (xs ++ [x]) (xs.length + 1) xs.length := by
  have e : ∀ k, k < xs.length → g (xs ++ [x]) k = g xs k := fun k hk => by simp [g, List.getElem?_append_left hk]
  refine ⟨fun k h0 hk hne => ?_, fun k h0 hk hp _ => by omega⟩
  rw [e k (by omega), e _ (by omega)]
  exact h k h0 (by omega)

theorem up_zero {xs : List Txt} {n : Nat} (h : UpI xs n 0) : HeapTo xs n := fun k h0 hk => h.1 k h0 hk (by omega)

theorem up_done {xs : List Txt} {n j : Nat} (h : UpI xs n j) (hl : ¬ g xs j < g xs ((j - 1) / 2)) : HeapTo xs n := by
  intro k h0 hk
  by_cases e : k = j
  · subst e; exact List.not_lt.1 hl
  · exact h.1 k h0 hk e

theorem up_step {xs : List Txt} {j : Nat} (h : UpI xs xs.length j) (h0 : 0 < j) (hj : j < xs.length) (hl : g xs j < g xs ((j - 1) / 2)) : UpI (sw xs ((j - 1) / 2) j) xs.length ((j - 1) / 2) := by
  have hi : (j - 1) / 2 < xs.length := by omega
  obtain ⟨i, e⟩ : ∃ i, i = (j - 1) / 2 := ⟨_, rfl⟩
  rw [← e] at hl hi ⊢
  refine ⟨fun k k0 hk hne => ?_, fun k k0 hk hp i0 => ?_⟩
  · rw [g_sw hi hj, g_sw hi hj]
    by_cases k1 : k = j
    · subst k1
      rw [if_pos rfl, if_neg (by omega), if_pos e.symm]
      exact List.le_of_lt hl
    · rw [if_neg k1, if_neg hne]
      by_cases k2 : (k - 1) / 2 = j
      · rw [if_pos k2]
        have := h.2 k k0 hk k2 h0
        rwa [← e] at this
      · rw [if_neg k2]
        by_cases k3 : (k - 1) / 2 = i
        · rw [if_pos k3]
          have h1 := h.1 k k0 hk k1
          rw [k3] at h1
          exact List.le_trans (List.le_of_lt hl) h1
        · rw [if_neg k3]; exact h.1 k k0 hk k1
  · rw [g_sw hi hj, g_sw hi hj]
    have hh : g xs ((i - 1) / 2) ≤ g xs i := h.1 i i0 hi (by omega)
    rw [if_neg (show ¬ (i - 1) / 2 = j by omega), if_neg (show ¬ (i - 1) / 2 = i by omega)]
    by_cases k1 : k = j
    · rw [if_pos k1]; exact hh
    · rw [if_neg k1, if_neg (show ¬ k = i by omega)]
      have h1 := h.1 k k0 hk k1
      rw [hp] at h1
      exact List.le_trans hh h1

/-- all but what stands behind i is a heap over the first n -/
def DnI (xs : List Txt) (n i : Nat) : Prop := (∀ k, 0 < k → k < n → (k - 1) / 2 ≠ i → g xs ((k - 1) / 2) ≤ g xs k) ∧ (∀ k, 0 < k → k < n → (k - 1) / 2 = i → 0 < i → g xs ((i - 1) / 2) ≤ g xs k)

theorem dn_start {xs : List Txt} {n : Nat} (hn : n < xs.length) (h : HeapTo xs (n + 1)) : DnI (sw xs 0 n) n 0 := by
  refine ⟨fun k k0 hk hp => ?_, fun k _ _ _ h => by omega⟩
  rw [g_sw (by omega) hn, g_sw (by omega) hn, if_neg (by omega), if_neg hp, if_neg (by omega), if_neg (by omega)]
  exact h k k0 (by omega)

theorem dn_leaf {xs : List Txt} {n i : Nat} (h : DnI xs n i) (hl : n ≤ 2 * i + 1) : HeapTo xs n := fun k k0 hk => h.1 k k0 hk (by omega)

/-- the lesser one of those behind i -/
def Lesser (xs : List Txt) (n i j : Nat) : Prop := j < n ∧ 0 < j ∧ (j - 1) / 2 = i ∧ ∀ k, 0 < k → k < n → (k - 1) / 2 = i → g xs j ≤ g xs k

theorem lesser_two {xs : List Txt} {n i : Nat} (h2 : 2 * i + 2 < n) (hl : g xs (2 * i + 2) < g xs (2 * i + 1)) : Lesser xs n i (2 * i + 2) := by
  refine ⟨h2, by omega, by omega, fun k k0 hk hp => ?_⟩
  rcases (show k = 2 * i + 1 ∨ k = 2 * i + 2 by omega) with e | e
  · rw [e]; exact List.le_of_lt hl
  · rw [e]; exact List.le_refl _

theorem lesser_one {xs : List Txt} {n i : Nat} (h1 : 2 * i + 1 < n) (hl : 2 * i + 2 < n → ¬ g xs (2 * i + 2) < g xs (2 * i + 1)) : Lesser xs n i (2 * i + 1) := by
  refine ⟨h1, by omega, by omega, fun k k0 hk hp => ?_⟩
  rcases (show k = 2 * i + 1 ∨ k = 2 * i + 2 by omega) with e | e
  · rw [e]; exact List.le_refl _
  · rw [e]; exact List.not_lt.1 (hl (by omega))

theorem dn_done {xs : List Txt} {n i j : Nat} (h : DnI xs n i) (hj : Lesser xs n i j) (hl : ¬ g xs j < g xs i) : HeapTo xs n := by
  intro k k0 hk
  by_cases e : (k - 1) / 2 = i
  · rw [e]; exact List.le_trans (List.not_lt.1 hl) (hj.2.2.2 k k0 hk e)
  · exact h.1 k k0 hk e

theorem dn_step {xs : List Txt} {n i j : Nat} (hn : n ≤ xs.length) (h : DnI xs n i) (hj : Lesser xs n i j) (hl : g xs j < g xs i) : DnI (sw xs i j) n j := by
  obtain ⟨j1, j0, jp, jm⟩ := hj
  have hi : i < xs.length := by omega
  have hj' : j < xs.length := by omega
  refine ⟨fun k k0 hk hp => ?_, fun k k0 hk hp _ => ?_⟩
  · rw [g_sw hi hj', g_sw hi hj', if_neg hp]
    by_cases k1 : k = j
    · subst k1
      rw [if_pos jp, if_pos rfl]
      exact List.le_of_lt hl
    · rw [if_neg k1]
      by_cases k2 : (k - 1) / 2 = i
      · rw [if_pos k2, if_neg (by omega)]
        exact jm k k0 hk k2
      · rw [if_neg k2]
        by_cases k3 : k = i
        · subst k3
          rw [if_pos rfl]
          exact h.2 j j0 j1 jp k0
        · rw [if_neg k3]; exact h.1 k k0 hk k2
  · rw [g_sw hi hj', g_sw hi hj', if_neg (show ¬ (j - 1) / 2 = j by omega), if_pos jp, if_neg (show ¬ k = j by omega), if_neg (show ¬ k = i by omega)]
    have := h.1 k k0 hk (by omega)
    rwa [hp] at this

theorem heap_congr {xs ys : List Txt} {n : Nat} (h : HeapTo xs n) (he : ∀ k, k < n → g ys k = g xs k) : HeapTo ys n := fun k k0 hk => by
  rw [he _ (by omega), he k hk]; exact h k k0 hk
end Go.Proofs.NeedsHeap
