/-
  What Unpack answers, as plain functions: the sign that is next, a row, a stored block, a block of fixed codes, all blocks.
-/
import Derived.Test.YtdokpimhhkbdbaaDoorBc
import Derived.Test.YtdokpimhhkbdbaaDoorFi
import Derived.Test.YtdokpimhhkbdbaaDoorBd
set_option linter.unusedSimpArgs false
set_option linter.unusedVariables false
namespace Go.Proofs.YtdokpimhhkbdbaaDoor.Q
open Go.RowKit

/-- The digits that are next, as a number. -/
def dig (bs : List Nat) (pos k : Nat) : Nat := val bs / 2 ^ pos % 2 ^ k

/-- The sign whose code is next. -/
def signAt (l bs : List Nat) (pos : Nat) : Option Nat :=
  (List.range l.length).find? fun i => decide (0 < nth l i ∧ nth l i ≤ 8 * bs.length - pos ∧ top (nx bs pos) (nth l i) = code l i)

theorem signAt_some {l bs : List Nat} {pos i : Nat} (h : signAt l bs pos = some i) : Hit l (nx bs pos) (8 * bs.length - pos) i := by
  have h1 := List.find?_some h
  have h2 := List.mem_of_find?_eq_some h
  simp only [decide_eq_true_eq] at h1
  exact ⟨List.mem_range.1 h2, h1⟩

theorem signAt_none {l bs : List Nat} {pos : Nat} (h : signAt l bs pos = none) (i : Nat) : ¬ Hit l (nx bs pos) (8 * bs.length - pos) i := by
  rintro ⟨h1, h2⟩
  have h3 := List.find?_eq_none.1 h i (List.mem_range.2 h1)
  simp only [decide_eq_true_eq] at h3
  exact h3 h2

theorem signAt_hit {l bs : List Nat} {pos i : Nat} (h : Hit l (nx bs pos) (8 * bs.length - pos) i) : signAt l bs pos = some i := by
  cases e : signAt l bs pos with
  | none => exact absurd h (signAt_none e i)
  | some j => rw [hit_one (nx_lt bs pos) (signAt_some e) h]

theorem signAt_pos {l bs : List Nat} {pos i : Nat} (h : signAt l bs pos = some i) : 0 < nth l i ∧ pos + nth l i ≤ 8 * bs.length ∧ i < l.length := by
  obtain ⟨h1, h2, h3, h4⟩ := signAt_some h
  exact ⟨h2, by omega, h1⟩

abbrev Res := Except Nat (Nat × List Nat)

/-- A length, its distance. -/
def rowAt (bs : List Nat) (p : Nat) (out : List Nat) (s : Nat) : Res :=
  if 285 < s then .error 2 else
  if 8 * bs.length < p + Lz.lenN (s - 257) then .error 2 else
  match signAt distsL bs (p + Lz.lenN (s - 257)) with
  | none => .error 2
  | some d =>
    if 29 < d then .error 2 else
    if 8 * bs.length < p + Lz.lenN (s - 257) + nth distsL d + Lz.disN d then .error 2 else
    if out.length < Lz.disB d + dig bs (p + Lz.lenN (s - 257) + nth distsL d) (Lz.disN d) then .error 2 else
    if 65536 < out.length + (Lz.lenB (s - 257) + dig bs p (Lz.lenN (s - 257))) then .error 5 else
    .ok (p + Lz.lenN (s - 257) + nth distsL d + Lz.disN d, Lz.rowOf out (Lz.disB d + dig bs (p + Lz.lenN (s - 257) + nth distsL d) (Lz.disN d)) (Lz.lenB (s - 257) + dig bs p (Lz.lenN (s - 257))))

theorem rowAt_le {bs : List Nat} {p p' s : Nat} {out o : List Nat} (h : rowAt bs p out s = .ok (p', o)) : p ≤ p' ∧ p' ≤ 8 * bs.length := by
  unfold rowAt at h
  split at h
  · cases h
  split at h
  · cases h
  split at h
  · cases h
  rename_i d hd
  split at h
  · cases h
  split at h
  · cases h
  split at h
  · cases h
  split at h
  · cases h
  injection h with h
  injection h with h1 h2
  omega

/-- The bytes that are next. -/
def bytesAt (bs : List Nat) (p n : Nat) : List Nat := (List.range n).map fun k => dig bs (p + 8 * k) 8

/-- A stored block. -/
def stoAt (bs : List Nat) (pos : Nat) (out : List Nat) : Res :=
  if 8 * bs.length < (pos + 7) / 8 * 8 + 16 then .error 2 else
  if 8 * bs.length < (pos + 7) / 8 * 8 + 16 + 16 then .error 2 else
  if dig bs ((pos + 7) / 8 * 8) 16 ^^^ 65535 ≠ dig bs ((pos + 7) / 8 * 8 + 16) 16 then .error 2 else
  if 8 * bs.length < (pos + 7) / 8 * 8 + 32 + dig bs ((pos + 7) / 8 * 8) 16 * 8 then .error 2 else
  if 65536 < out.length + dig bs ((pos + 7) / 8 * 8) 16 then .error 5 else
  .ok ((pos + 7) / 8 * 8 + 32 + dig bs ((pos + 7) / 8 * 8) 16 * 8, out ++ bytesAt bs ((pos + 7) / 8 * 8 + 32) (dig bs ((pos + 7) / 8 * 8) 16))

/-- One sign of a block of fixed codes, and what follows it. -/
def codStep (bs : List Nat) (pos : Nat) (out : List Nat) (k : Nat → List Nat → Res) : Res :=
  match signAt litsL bs pos with
    | none => .error 2
    | some i =>
      if i < 256 then (if 65536 < out.length + 1 then .error 5 else k (pos + nth litsL i) (out ++ [i]))
      else if i = 256 then .ok (pos + nth litsL i, out)
      else match rowAt bs (pos + nth litsL i) out i with
        | .error n => .error n
        | .ok (p, o) => k p o

/-- A block of fixed codes. -/
def codAt (bs : List Nat) : Nat → Nat → List Nat → Res
  | 0, _, _ => .error 2
  | f + 1, pos, out => codStep bs pos out (codAt bs f)

theorem codStep_congr (bs : List Nat) (pos : Nat) (out : List Nat) (k k' : Nat → List Nat → Res) (h : ∀ p o, pos < p → p ≤ 8 * bs.length → k p o = k' p o) : codStep bs pos out k = codStep bs pos out k' := by
  unfold codStep
  cases e : signAt litsL bs pos with
  | none => rfl
  | some i =>
    have hp := (signAt_pos e).1
    have hp2 := (signAt_pos e).2.1
    simp only
    split
    · split
      · rfl
      · exact h _ _ (by omega) (by omega)
    · split
      · rfl
      · cases e2 : rowAt bs (pos + nth litsL i) out i with
        | error n => rfl
        | ok r =>
          obtain ⟨p, o⟩ := r
          have := rowAt_le e2
          exact h _ _ (by omega) (by omega)

theorem codStep_le (bs : List Nat) (pos : Nat) (out : List Nat) (k : Nat → List Nat → Res) (h : ∀ p o q r, k p o = .ok (q, r) → p ≤ q ∧ q ≤ 8 * bs.length) {q : Nat} {r : List Nat} (e : codStep bs pos out k = .ok (q, r)) : pos ≤ q ∧ q ≤ 8 * bs.length := by
  unfold codStep at e
  cases es : signAt litsL bs pos with
  | none => rw [es] at e; cases e
  | some i =>
    rw [es] at e
    have hp := (signAt_pos es).1
    have hp2 := (signAt_pos es).2.1
    simp only at e
    split at e
    · split at e
      · cases e
      · have := h _ _ _ _ e; omega
    · split at e
      · injection e with e; injection e with h1 h2; omega
      · cases e2 : rowAt bs (pos + nth litsL i) out i with
        | error n => rw [e2] at e; cases e
        | ok r =>
          obtain ⟨q2, o2⟩ := r
          rw [e2] at e
          have := rowAt_le e2
          have := h _ _ _ _ e
          omega

/-- One block behind its three digits (99: one that tells its codes). -/
def blkAt (bs : List Nat) (kind pos : Nat) (out : List Nat) : Res :=
  if kind = 0 then stoAt bs pos out else if kind = 1 then codAt bs (8 * bs.length + 1 - pos) pos out else if kind = 2 then .error 99 else .error 2

/-- All blocks. -/
def allAt (bs : List Nat) : Nat → Nat → List Nat → Res
  | 0, _, _ => .error 2
  | f + 1, pos, out =>
    if 8 * bs.length < pos + 1 then .error 2 else
    if 8 * bs.length < pos + 1 + 2 then .error 2 else
    match blkAt bs (dig bs (pos + 1) 2) (pos + 1 + 2) out with
    | .error n => .error n
    | .ok (p, o) => if dig bs pos 1 = 1 then .ok (p, o) else allAt bs f p o

/-- What the bytes say. -/
def unp (bs : List Nat) : Except Nat (List Nat) :=
  match allAt bs (8 * bs.length + 1) 0 [] with
  | .error n => .error n
  | .ok (p, o) => if 8 * bs.length - p < 8 ∧ dig bs p (8 * bs.length - p) = 0 then .ok o else .error 2

/-- So many rounds are enough. -/
theorem codAt_fuel (bs : List Nat) : ∀ f g pos out, pos ≤ 8 * bs.length → 8 * bs.length < pos + f → f ≤ g → codAt bs g pos out = codAt bs f pos out := by
  intro f
  induction f with
  | zero => intro g pos out hp h hg; omega
  | succ f ih =>
    intro g pos out hp h hg
    obtain ⟨g, rfl⟩ : ∃ k, g = k + 1 := ⟨g - 1, by omega⟩
    show codStep bs pos out (codAt bs g) = codStep bs pos out (codAt bs f)
    exact codStep_congr bs pos out _ _ fun p o h1 h2 => ih g p o h2 (by omega) (by omega)

theorem codAt_step (bs : List Nat) (pos : Nat) (out : List Nat) (hp : pos ≤ 8 * bs.length) : codAt bs (8 * bs.length + 1 - pos) pos out = codStep bs pos out (fun p o => codAt bs (8 * bs.length + 1 - p) p o) := by
  have e0 : 8 * bs.length + 1 - pos = (8 * bs.length - pos) + 1 := by omega
  rw [e0]
  show codStep bs pos out (codAt bs (8 * bs.length - pos)) = _
  exact codStep_congr bs pos out _ _ fun p o h1 h2 => codAt_fuel bs _ _ _ _ h2 (by omega) (by omega)

theorem codAt_le (bs : List Nat) : ∀ f pos out p o, codAt bs f pos out = .ok (p, o) → pos ≤ p ∧ p ≤ 8 * bs.length := by
  intro f
  induction f with
  | zero => intro pos out p o h; cases h
  | succ f ih => intro pos out p o h; exact codStep_le bs pos out _ (fun p o q r => ih p o q r) h

theorem stoAt_le {bs : List Nat} {pos p : Nat} {out o : List Nat} (h : stoAt bs pos out = .ok (p, o)) : pos ≤ p ∧ p ≤ 8 * bs.length := by
  unfold stoAt at h
  repeat (split at h; · cases h)
  injection h with h
  injection h with h1 h2
  omega

theorem blkAt_le {bs : List Nat} {kind pos p : Nat} {out o : List Nat} (h : blkAt bs kind pos out = .ok (p, o)) : pos ≤ p ∧ p ≤ 8 * bs.length := by
  unfold blkAt at h
  split at h
  · exact stoAt_le h
  · split at h
    · exact codAt_le _ _ _ _ _ _ h
    · split at h <;> cases h

theorem allAt_fuel (bs : List Nat) : ∀ f g pos out, 8 * bs.length < pos + f → f ≤ g → allAt bs g pos out = allAt bs f pos out := by
  intro f
  induction f with
  | zero =>
    intro g pos out h hg
    cases g with
    | zero => rfl
    | succ g => unfold allAt; rw [if_pos (by omega)]
  | succ f ih =>
    intro g pos out h hg
    obtain ⟨g, rfl⟩ : ∃ k, g = k + 1 := ⟨g - 1, by omega⟩
    unfold allAt
    split
    · rfl
    split
    · rfl
    cases e : blkAt bs (dig bs (pos + 1) 2) (pos + 1 + 2) out with
    | error n => rfl
    | ok r =>
      obtain ⟨p, o⟩ := r
      have := blkAt_le e
      simp only
      split
      · rfl
      · exact ih g _ _ (by omega) (by omega)

theorem allAt_step (bs : List Nat) (pos : Nat) (out : List Nat) (hp : pos ≤ 8 * bs.length) : allAt bs (8 * bs.length + 1 - pos) pos out =
    (if 8 * bs.length < pos + 1 then .error 2 else
    if 8 * bs.length < pos + 1 + 2 then .error 2 else
    match blkAt bs (dig bs (pos + 1) 2) (pos + 1 + 2) out with
    | .error n => .error n
    | .ok (p, o) => if dig bs pos 1 = 1 then .ok (p, o) else allAt bs (8 * bs.length + 1 - p) p o) := by
  have e0 : 8 * bs.length + 1 - pos = (8 * bs.length - pos) + 1 := by omega
  rw [e0]
  rw [allAt]
  split
  · rfl
  split
  · rfl
  cases e : blkAt bs (dig bs (pos + 1) 2) (pos + 1 + 2) out with
  | error n => rfl
  | ok r =>
    obtain ⟨p, o⟩ := r
    have := blkAt_le e
    simp only
    split
    · rfl
    · exact allAt_fuel bs _ _ _ _ (by omega) (by omega)

end Go.Proofs.YtdokpimhhkbdbaaDoor.Q
