/-
  FlateMost in plain numbers: as much as may be, and one byte more, in one block of fixed codes and in stored ones.
-/
import Derived.Test.YtdokpimhhkbdbaaDoorHa
import Derived.Test.YtdokpimhhkbdbaaDoorEa
set_option linter.unusedSimpArgs false
set_option linter.unusedVariables false
namespace Go.Proofs.YtdokpimhhkbdbaaDoor
open Go.RowKit

/-- The bytes y are what a writer has of the pieces R. -/
def Writ (R : List (Nat × Nat)) (y : List Nat) : Prop := Small y ∧ val y = num R ∧ y.length = (wid R + 7) / 8

theorem Writ.ag {R : List (Nat × Nat)} {y : List Nat} (h : Writ R y) : Ag y 0 R := by
  intro k _ _
  unfold Q.nx
  rw [Nat.zero_add, h.2.1]

theorem num_lt {R : List (Nat × Nat)} (h : ∀ x ∈ R, x.1 < 2 ^ x.2) : num R < 2 ^ wid R := by
  have h1 := fold_lt R (0, 0) (by decide) h
  have h2 := fold_wid R (0, 0)
  rw [Nat.zero_add] at h2
  rw [h2] at h1
  exact h1

/-- Behind all that was written noughts are left, less than a byte. -/
theorem Writ.rest {R : List (Nat × Nat)} {y : List Nat} (h : Writ R y) (hR : ∀ x ∈ R, x.1 < 2 ^ x.2) : 8 * y.length - wid R < 8 ∧ Q.dig y (wid R) (8 * y.length - wid R) = 0 := by
  have hl := h.2.2
  refine ⟨by omega, ?_⟩
  unfold Q.dig
  rw [h.2.1, Nat.div_eq_of_lt (num_lt hR), Nat.zero_mod]

theorem row_rep (c m k : Nat) (hm : 1 ≤ m) : Lz.rowOf (List.replicate m c) 1 k = List.replicate (m + k) c := by
  induction k with
  | zero => rfl
  | succ k ih =>
    unfold Lz.rowOf
    rw [ih, List.length_replicate, ← Nat.add_assoc, List.replicate_succ']
    congr 2
    rw [List.getD_eq_getElem?_getD, List.getElem?_replicate, if_pos (by omega)]
    rfl

theorem join_rep (c : Nat) : ∀ k m, 1 ≤ m → m + 255 * k ≤ 65536 → Lz.joinL (List.replicate m c) (List.replicate k ⟨0, 255, 1⟩) = some (List.replicate (m + 255 * k) c) := by
  intro k
  induction k with
  | zero => intro m _ _; rfl
  | succ k ih =>
    intro m hm h
    have e : Lz.stepJ (List.replicate m c) ⟨0, 255, 1⟩ = some (List.replicate (m + 255) c) := by
      unfold Lz.stepJ
      rw [if_pos (by rw [List.length_replicate]; refine ⟨⟨by simp, by simp⟩, fun _ => ⟨by simp, by simp; omega⟩, ?_⟩; simp; omega), if_neg (by simp)]
      show some (Lz.rowOf (List.replicate m c) 1 255) = _
      rw [row_rep c m 255 hm]
    rw [List.replicate_succ]
    simp only [Lz.joinL, e]
    rw [ih (m + 255) (by omega) (by omega)]
    congr 2
    omega

/-- A byte, and 257 times 255 more. -/
def mostS (c : Nat) : List Lz.St := ⟨c, 0, 0⟩ :: List.replicate 257 ⟨0, 255, 1⟩
/-- What is written. -/
def mostP (c : Nat) (more : Bool) : List (Nat × Nat) := lowP 1 1 :: lowP 1 2 :: ((mostS c).flatMap pcs ++ ((if more then [sigP litsL c] else []) ++ [sigP litsL 256]))

theorem most_ok (c : Nat) (hc : c < 256) : ∀ s ∈ mostS c, StOk s := by
  intro s hs
  unfold mostS at hs
  rcases List.mem_cons.1 hs with rfl | hs
  · exact .inl ⟨rfl, rfl, hc⟩
  · rw [(List.mem_replicate.1 hs).2]
    exact .inr ⟨rfl, by decide, by decide, by decide, by decide⟩

theorem step_byte (c : Nat) : Lz.stepJ [] ⟨c, 0, 0⟩ = some [c] := by
  unfold Lz.stepJ
  rw [if_pos (by refine ⟨⟨by simp, by simp⟩, fun h => by simp at h, ?_⟩; show ((0 : Nat) : Int) + max (0 : Int) 1 ≤ 65536; decide), if_pos rfl]
  rfl

theorem join_most (c k N : Nat) (hN : N = 1 + 255 * k) (hk : N ≤ 65536) : Lz.joinL [] (⟨c, 0, 0⟩ :: List.replicate k ⟨0, 255, 1⟩) = some (List.replicate N c) := by
  have h := join_rep c k 1 (by decide) (by omega)
  rw [← hN] at h
  simp only [Lz.joinL, step_byte]
  exact h

theorem most_join (c : Nat) : Lz.joinL [] (mostS c) = some (List.replicate 65536 c) := join_most c 257 65536 (by decide) (by decide)

theorem most_lt (c : Nat) (more : Bool) : ∀ x ∈ mostP c more, x.1 < 2 ^ x.2 := by
  intro x hx
  unfold mostP at hx
  rcases List.mem_cons.1 hx with rfl | hx
  · exact lowP_lt _ _
  rcases List.mem_cons.1 hx with rfl | hx
  · exact lowP_lt _ _
  rcases List.mem_append.1 hx with hx | hx
  · obtain ⟨s, _, hs⟩ := List.mem_flatMap.1 hx
    exact pcs_lt s x hs
  · rcases List.mem_append.1 hx with hx | hx
    · cases more
      · simp at hx
      · simp at hx; subst hx; exact sigP_lt _ _
    · simp at hx; subst hx; exact sigP_lt _ _

theorem most_unp (c : Nat) (hc : c < 256) (more : Bool) (y : List Nat) (h : Writ (mostP c more) y) : Q.unp y = if more then .error 5 else .ok (List.replicate 65536 c) := by
  have hl := h.2.2
  have hrest := h.rest (most_lt c more)
  have ha := h.ag
  have hw : wid (mostP c more) = 3 + (wid ((mostS c).flatMap pcs) + (wid (if more then [sigP litsL c] else []) + 7)) := by
    unfold mostP
    rw [wid_cons, wid_cons, wid_append, wid_append]
    have e1 : wid [sigP litsL 256] = 7 := by rw [wid_cons, wid_nil]; show nth litsL 256 + 0 = 7; rw [lits_256.1]
    rw [e1]
    show 1 + (2 + _) = _
    omega
  have t1 : Ag y (0 + 1) (lowP 1 2 :: ((mostS c).flatMap pcs ++ ((if more then [sigP litsL c] else []) ++ [sigP litsL 256]))) := ha.tail (lowP_lt _ _)
  have t2 : Ag y (0 + 1 + 2) ((mostS c).flatMap pcs ++ ((if more then [sigP litsL c] else []) ++ [sigP litsL 256])) := t1.tail (lowP_lt _ _)
  have d1 : Q.dig y 0 1 = 1 := low_dig ha (by decide) (by omega)
  have d2 : Q.dig y (0 + 1) 2 = 1 := low_dig t1 (by decide) (by omega)
  obtain ⟨j1, j2⟩ := cod_join y _ (mostS c) [] (List.replicate 65536 c) (0 + 1 + 2) (most_ok c hc) (most_join c) (by omega) t2 (by omega)
  unfold Q.unp Q.allAt
  rw [if_neg (by omega), if_neg (by omega), d2]
  unfold Q.blkAt
  rw [if_neg (by decide), if_pos rfl, j1, d1]
  generalize hW : wid ((mostS c).flatMap pcs) = W at *
  cases more
  · simp only [Bool.false_eq_true, if_false, List.nil_append, wid_nil] at j2 hw ⊢
    obtain ⟨e1, _⟩ := cod_end y (List.replicate 65536 c) _ [] j2 (by omega)
    rw [e1]
    simp only
    have ep : 0 + 1 + 2 + W + 7 = wid (mostP c false) := by omega
    rw [ep]
    exact if_pos hrest
  · simp only [if_true, List.cons_append, List.nil_append] at j2 hw ⊢
    have n9 := lits_pos c (by omega)
    have e2 : wid [sigP litsL c] = nth litsL c := by rw [wid_cons, wid_nil]; rfl
    rw [e2] at hw
    rw [cod_full y (List.replicate 65536 c) _ c _ hc List.length_replicate j2 (by omega)]

theorem head_len (n : Nat) (b : Bool) : (Q.headL n b).length = 5 := rfl

theorem head_small (n : Nat) (b : Bool) (hn : n ≤ 65535) : Small (Q.headL n b) := by
  have hy2 : n ^^^ 65535 < 2 ^ 16 := Nat.xor_lt_two_pow (by omega) (by decide)
  intro x hx
  unfold Q.headL at hx
  simp only [List.mem_cons, List.not_mem_nil, or_false] at hx
  rcases hx with rfl | rfl | rfl | rfl | rfl
  · cases b <;> simp
  · omega
  · omega
  · omega
  · omega

theorem getD_right (a b : List Nat) (i : Nat) : (a ++ b).getD (a.length + i) 0 = b.getD i 0 := by
  simp [List.getD_eq_getElem?_getD, List.getElem?_append_right]

/-- Two stored blocks. -/
theorem two_unp (a b : List Nat) (n m : Nat) (hn : a.length = n) (hm : b.length = m) (h1 : n ≤ 65535) (h2 : m ≤ 65535) (sa : Small a) (sb : Small b) :
    Q.unp (Q.headL n false ++ a ++ Q.headL m true ++ b) = if 65536 < n + m then .error 5 else .ok (a ++ b) := by
  obtain ⟨y, hy⟩ : ∃ y, y = Q.headL n false ++ a ++ Q.headL m true ++ b := ⟨_, rfl⟩
  rw [← hy]
  have hl : y.length = n + m + 10 := by rw [hy]; simp only [List.length_append, head_len, hn, hm]; omega
  have hs : Small y := by
    rw [hy]
    intro x hx
    rcases List.mem_append.1 hx with hx | hx
    · rcases List.mem_append.1 hx with hx | hx
      · rcases List.mem_append.1 hx with hx | hx
        · exact head_small n false h1 x hx
        · exact sa x hx
      · exact head_small m true h2 x hx
    · exact sb x hx
  have e1 : y = Q.headL n false ++ (a ++ Q.headL m true ++ b) := by rw [hy]; simp only [List.append_assoc]
  have e2 : y = (Q.headL n false ++ a) ++ (Q.headL m true ++ b) := by rw [hy]; simp only [List.append_assoc]
  have l2 : (Q.headL n false ++ a).length = 5 + n := by rw [List.length_append, head_len, hn]
  have e3 : y = (Q.headL n false ++ a ++ Q.headL m true) ++ b := hy
  have l3 : (Q.headL n false ++ a ++ Q.headL m true).length = 5 + n + 5 := by rw [List.length_append, l2, head_len]
  obtain ⟨p1, p2⟩ := sto_blk y hs 0 n [] false h1 (by omega) (fun k hk => by rw [Nat.zero_add, e1, getD_app _ _ _ (by rw [head_len]; exact hk)])
  obtain ⟨q1, q2⟩ := sto_blk y hs (5 + n) m a true h2 (by omega) (fun k hk => by rw [e2, ← l2, getD_right, getD_app _ _ _ (by rw [head_len]; exact hk)])
  have t1 : (y.drop 5).take n = a := by
    rw [e1, List.append_assoc]
    show ((Q.headL n false ++ (a ++ (Q.headL m true ++ b))).drop (Q.headL n false).length).take n = a
    rw [List.drop_left, ← hn, List.take_left]
  have t2 : (y.drop (5 + n + 5)).take m = b := by
    rw [e3, ← l3, List.drop_left, ← hm, List.take_length]
  rw [Nat.zero_add, t1, List.length_nil, Nat.zero_add, if_neg (by omega), List.nil_append] at p2
  rw [t2, hn] at q2
  have eq1 : 8 * (5 + n + 5 + m) = 8 * y.length := by rw [hl]; omega
  unfold Q.unp
  have s1 := Q.allAt_step y 0 [] (Nat.zero_le _)
  rw [Nat.sub_zero] at s1
  have s2 := Q.allAt_step y (8 * (5 + n)) a (by omega)
  rw [s1, if_neg (by omega), if_neg (by omega)]
  have p2' : Q.blkAt y (Q.dig y (0 + 1) 2) (0 + 1 + 2) [] = .ok (8 * (5 + n), a) := by
    rw [show 0 + 5 + n = 5 + n by omega] at p2
    exact p2
  have p1' : Q.dig y 0 1 = if false = true then 1 else 0 := p1
  rw [p2']
  simp only
  rw [p1', if_neg (by decide), s2, if_neg (by omega), if_neg (by omega), q2, q1]
  by_cases c : 65536 < n + m
  · rw [if_pos c, if_pos c]
  · rw [if_neg c, if_neg c]
    simp only
    have hT : (if True then 1 else 0) = 1 := if_pos trivial
    rw [eq1, if_pos hT]
    simp only
    rw [if_pos]
    refine ⟨by omega, ?_⟩
    unfold Q.dig
    rw [Nat.sub_self, Nat.pow_zero, Nat.mod_one]

theorem sto2_unp (x : List Nat) (hs : Small x) (h1 : 65535 < x.length) (h2 : x.length ≤ 131070) : Q.unp (sto2 x) = if 65536 < x.length then .error 5 else .ok x := by
  unfold sto2
  rw [if_neg (by omega)]
  have h := two_unp (x.take 65535) (x.drop 65535) 65535 (x.length - 65535) (by rw [List.length_take]; omega) List.length_drop (Nat.le_refl _) (by omega) (fun b hb => hs b (List.mem_of_mem_take hb)) (fun b hb => hs b (List.mem_of_mem_drop hb))
  rw [List.take_append_drop, show 65535 + (x.length - 65535) = x.length by omega] at h
  exact h

end Go.Proofs.YtdokpimhhkbdbaaDoor
