/-
  Plain mathematics of Full: lengths that are split, one of them at a time, fill the room; noughts among them change nothing.
-/
import Derived.Test.YthkkahpfbgopjaaCa
set_option linter.unusedSimpArgs false
set_option linter.unusedVariables false
namespace Go.Proofs.Ythkkahpfbgopjaa

def wt1 (n : Nat) : Nat := 2 ^ (15 - n)
def wsum (ls : List Nat) : Nat := (ls.map wt1).sum

theorem wt1_half {x : Nat} (hx : x < 15) : wt1 (x + 1) + wt1 (x + 1) = wt1 x := by
  unfold wt1
  have e : 15 - x = (15 - (x + 1)) + 1 := by omega
  rw [e, Nat.pow_succ]
  omega

theorem wsum_set (ls : List Nat) (r y : Nat) (hr : r < ls.length) : wsum (ls.set r y) + wt1 (nth ls r) = wsum ls + wt1 y := by
  induction ls generalizing r with
  | nil => simp at hr
  | cons a ls ih =>
    cases r with
    | zero => simp [wsum, nth]; omega
    | succ r =>
      have := ih r (by simpa using hr)
      have e : nth (a :: ls) (r + 1) = nth ls r := by simp [nth]
      rw [e]
      simp only [wsum, List.set_cons_succ, List.map_cons, List.sum_cons] at this ⊢
      omega

structure Inv (ls : List Nat) (k : Nat) : Prop where
  len : ls.length ≤ k + 1
  le : ∀ x ∈ ls, x ≤ 15
  sum : wsum ls = 32768
  shape : ls = [0] ∨ (2 ≤ ls.length ∧ ∀ x ∈ ls, 1 ≤ x)

theorem Inv.start : Inv [0] 0 := ⟨by simp, by simp, by decide, .inl rfl⟩
theorem Inv.keep {ls : List Nat} {k : Nat} (h : Inv ls k) : Inv ls (k + 1) := ⟨by have := h.len; omega, h.le, h.sum, h.shape⟩
theorem Inv.pos {ls : List Nat} {k : Nat} (h : Inv ls k) : 0 < ls.length := by
  rcases h.shape with rfl | ⟨h, _⟩
  · simp
  · omega

theorem Inv.split {ls : List Nat} {k r x : Nat} (h : Inv ls k) (hr : r < ls.length) (hx : nth ls r = x) (h15 : x < 15) : Inv (ls.set r (x + 1) ++ [x + 1]) (k + 1) := by
  have hlen := h.len
  refine ⟨by simp; omega, ?_, ?_, ?_⟩
  · intro y hy
    rcases List.mem_append.1 hy with hy | hy
    · rcases List.mem_or_eq_of_mem_set hy with h1 | h1
      · exact h.le y h1
      · omega
    · simp at hy; omega
  · have h1 := wsum_set ls r (x + 1) hr
    rw [hx, ← wt1_half h15, h.sum] at h1
    have h2 : wsum (ls.set r (x + 1) ++ [x + 1]) = wsum (ls.set r (x + 1)) + wt1 (x + 1) := by simp [wsum]
    omega
  · right
    refine ⟨by simp; omega, ?_⟩
    intro y hy
    rcases List.mem_append.1 hy with hy | hy
    · rcases h.shape with rfl | ⟨_, hall⟩
      · have : r = 0 := by simpa using hr
        subst this
        simp at hy
        omega
      · rcases List.mem_or_eq_of_mem_set hy with h1 | h1
        · exact hall y h1
        · omega
    · simp at hy; omega

/-- What Full has ahead of its noughts. -/
structure Fin1 (ls : List Nat) : Prop where
  pos : 1 ≤ ls.length
  len : ls.length ≤ 41
  le : ∀ x ∈ ls, x ≤ 15
  fits : Fits ls

theorem wsum_room {ls : List Nat} (h : ∀ x ∈ ls, 1 ≤ x) : room ls = wsum ls := by
  unfold room wsum
  congr 1
  apply List.map_congr_left
  intro x hx
  have := h x hx
  unfold wt wt1
  rw [if_neg (by omega)]

theorem Inv.fin {ls : List Nat} {k : Nat} (h : Inv ls k) (hk : k ≤ 40) (h1 : ls.length ≠ 1) : Fin1 ls := by
  have hlen := h.len
  rcases h.shape with rfl | ⟨h2, hall⟩
  · simp at h1
  · exact ⟨by omega, by omega, h.le, .inl (by rw [rm_room h.le, wsum_room hall, h.sum])⟩

theorem fin_one : Fin1 [1] := ⟨by simp, by simp, by simp, by unfold Fits; decide⟩

theorem Inv.one {ls : List Nat} {k : Nat} (h : Inv ls k) (h1 : ls.length = 1) : ls = [0] := by
  rcases h.shape with rfl | ⟨h2, _⟩
  · rfl
  · omega

/-- The same codes. -/
def Outs (os ls : List Nat) : Prop := ∀ n, cn os n = cn ls n

theorem cn_append (os : List Nat) (x n : Nat) : cn (os ++ [x]) n = if n = x ∧ n ≠ 0 then cn os n + 1 else cn os n := by
  unfold cn
  by_cases h : n = 0
  · simp [h]
  · simp only [h, ↓reduceIte, List.count_append, List.count_singleton, ne_eq, not_false_eq_true, and_true, beq_iff_eq]
    by_cases h2 : n = x
    · simp [h2]
    · have : ¬ x = n := fun e => h2 e.symm
      simp [h2, this]

theorem Outs.zero {os ls : List Nat} (h : Outs os ls) : Outs (os ++ [0]) ls := fun n => by
  rw [cn_append, if_neg (fun e => e.2 e.1)]
  exact h n

theorem Outs.next {os ls : List Nat} {j : Nat} (h : Outs os (ls.take j)) (hj : j < ls.length) : Outs (os ++ [nth ls j]) (ls.take (j + 1)) := fun n => by
  rw [cn_append, cn_take _ _ _ hj, h n]

theorem fits_congr {a b : List Nat} (h : Outs a b) : Fits a ↔ Fits b := by
  have h1 : ∀ m, rm a m = rm b m := by
    intro m
    induction m with
    | zero => rfl
    | succ m ih => simp only [rm, ih, h m]
  have h2 : ∀ m, sho a m = sho b m := by
    intro m
    induction m with
    | zero => rfl
    | succ m ih => simp only [sho, ih, h m]
  unfold Fits
  rw [h1, h2, h 1]

/-- What Full answers. -/
structure Good (ls : List Nat) : Prop where
  pos : 1 ≤ ls.length
  len : ls.length ≤ 82
  le : ∀ x ∈ ls, x ≤ 15
  fits : Fits ls

end Go.Proofs.Ythkkahpfbgopjaa
