/-
  What may have turned ('Fr': two blocks, and new ones); one whole number appended to a row of the call's own.
-/
import Derived.Test.YtdokpimhhkbdbaaDoorMk
set_option linter.unusedSimpArgs false
set_option linter.unusedVariables false
namespace Go.Proofs.YtdokpimhhkbdbaaDoor
open Go.RowKit

structure Fr (x y : Option Nat) (w w' : World) : Prop where
  os : w'.os = w.os
  tape : w'.tape = w.tape
  output : w'.output = w.output
  size : w.heap.size ≤ w'.heap.size
  block : ∀ k, k < w.heap.size → some k ≠ x → some k ≠ y → w'.heap[k]? = w.heap[k]?

theorem Fr.refl (x y : Option Nat) (w : World) : Fr x y w w := ⟨rfl, rfl, rfl, Nat.le_refl _, fun _ _ _ _ => rfl⟩

theorem Fr.trans {x y y' : Option Nat} {a b c : World} (h : Fr x y a b) (k : Fr x y' b c) (hy : y' = y ∨ ∀ j, y' = some j → a.heap.size ≤ j) : Fr x y a c := by
  refine ⟨k.os.trans h.os, k.tape.trans h.tape, k.output.trans h.output, Nat.le_trans h.size k.size, fun j hj hx hy2 => ?_⟩
  rw [k.block j (Nat.lt_of_lt_of_le hj h.size) hx ?_]
  · exact h.block j hj hx hy2
  · rcases hy with rfl | hy
    · exact hy2
    · intro e
      have := hy j e.symm
      omega

theorem Fr.ofBelow {x y : Option Nat} {w w' : World} (h : Below w.heap.size w w') : Fr x y w w' := ⟨h.os, h.tape, h.output, h.size, fun k hk _ _ => h.block k hk⟩

theorem Fr.ofGrown {x y : Option Nat} {w w' : World} (h : w.grownBy w' y) : Fr x y w w' := ⟨h.os, h.tape, h.output, h.size, fun k hk _ hy => h.block k hk hy⟩
theorem Fr.ofGrown1 {x y : Option Nat} {w w' : World} (h : w.grownBy w' x) : Fr x y w w' := ⟨h.os, h.tape, h.output, h.size, fun k hk hx _ => h.block k hk hx⟩

theorem Fr.below {x y : Option Nat} {w w' : World} (h : Fr x y w w') {B : Nat} (hB : B ≤ w.heap.size) (hx : ∀ j, x = some j → B ≤ j) (hy : ∀ j, y = some j → B ≤ j) : Below B w w' :=
  ⟨h.os, h.tape, h.output, h.size, fun k hk => h.block k (by omega) (fun e => by have := hx k e.symm; omega) (fun e => by have := hy k e.symm; omega)⟩

theorem Fr.setCell {x y : Option Nat} {w w' : World} (h : Fr x y w w') (b o : Nat) (u : Value) (hb : some b = x ∨ some b = y ∨ w.heap.size ≤ b) : Fr x y w (w'.setCell ⟨b, o, none⟩ u) := by
  refine ⟨h.os, h.tape, h.output, by simpa using h.size, fun k hk hx hy => ?_⟩
  rw [Below.heap_setCell _ _ _ _ ?_]
  · exact h.block k hk hx hy
  · rintro rfl
    rcases hb with e | e | e
    · exact hx e
    · exact hy e
    · omega

theorem Fr.drew {x y : Option Nat} {w w' : World} (h : Fr x y w w') : Fr x y w w'.drew := ⟨h.os, h.tape, h.output, h.size, h.block⟩
theorem Fr.drewN {x y : Option Nat} {w w' : World} (h : Fr x y w w') (k : Nat) : Fr x y w (w'.drewN k) := ⟨h.os, h.tape, h.output, h.size, h.block⟩

/-- The row that the value is, behind a frame that does not name it. -/
theorem owns_fr {w w' : World} {B t : Nat} {x y : Option Nat} {v : Value} {n : Nat} {xs : List Value} (h : w.ownsRow B t 1 v n xs) (hf : Fr x y w w') (hx : v.ownBlock ≠ x ∨ v.ownBlock = none) (hy : v.ownBlock ≠ y ∨ v.ownBlock = none) : w'.ownsRow B t 1 v n xs := by
  refine ⟨h.1, ?_⟩
  rcases h.2 with h2 | ⟨g, cap, cur, rfl, hB, hg, r⟩
  · exact .inl h2
  · refine .inr ⟨g, cap, cur, rfl, hB, ?_, r⟩
    rw [hf.block g (lt_of_block hg) ?_ ?_]
    · exact hg
    · intro e; rcases hx with hx | hx
      · exact hx e
      · simp [Value.ownBlock] at hx
    · intro e; rcases hy with hy | hy
      · exact hy e
      · simp [Value.ownBlock] at hy

theorem owns_lt {w : World} {B t : Nat} {v : Value} {n : Nat} {xs : List Value} (h : w.ownsRow B t 1 v n xs) : ∀ j, v.ownBlock = some j → B ≤ j ∧ j < w.heap.size := fun j hj => h.lt j hj

/-- One whole number more, behind the block that it was laid into. -/
theorem wpList_push {ops : Array Oper} {rest : List Oper} {o : Oper} {a : Act} {w : World} {Q : Exit → Act → World → Prop} (hgd : o.guard = none) (s x : Operand)
    (ho : o.op = .call { callee := .builtin .append, args := #[s, x], argTypes := #[37, 37] })
    (B : Nat) (v : Value) (n : Nat) (xs : List Value) (hs : a.eval s = v) (hown : w.ownsRow B 3 1 v n xs) (z : Int) (H : Nat) (hH : w.heap.size = H) (hx : a.eval x = .slice (some ⟨H, 0, none⟩) 1 1)
    (hn : n + 1 ≤ 17592186044416) (hB : B ≤ w.heap.size)
    (h : ∀ g cap w', w'.ownsRow B 3 1 (.slice (some ⟨g, 0, none⟩) (n + 1) cap) (n + 1) (xs ++ [.int .i64 z]) → Fr none v.ownBlock w w' → (v.ownBlock = some g ∨ w.heap.size ≤ g) → Below B w w' → wpList Tryd.prog ops Q rest (a.put o.dst (.slice (some ⟨g, 0, none⟩) (n + 1) cap)) w') :
    wpList Tryd.prog ops Q (o :: rest) a (w.alloc (.cells #[.int .i64 z] 3)) := by
  subst hH
  obtain ⟨i, hi, hz0, hz1, hz2⟩ := info_parts Tryd.infi3
  refine wpList_append_lies _ hgd s x 37 ho B 3 i (.int .i64 0) 1 8 Tryd.under26 hi hz0 hz1 hz2 rfl (by decide) v n xs hs (hown.alloc _) ⟨w.heap.size, 0, none⟩ 1 1 [.int .i64 z] hx rfl ?_ ?_ (by decide) (by unfold maxLen; omega) (by omega) (by simp; omega) (w.heap.size + 1) (by simp) ?_
  · intro j u hj
    match j, hj with
    | 0, hj => simp at hj; subst hj; simp [Addr.add]
  · intro u hu; simp at hu; subst hu; rfl
  · intro g cap w' ho2 hg hat hlt
    have hf : Fr none v.ownBlock w w' := by
      refine ⟨hg.os, hg.tape, hg.output, by have := hg.size; simp at this; omega, fun k hk _ hy => ?_⟩
      rw [hg.block k (by simp; omega) hy]
      exact Below.heap_alloc _ _ _ hk
    refine h g cap w' ho2 hf ?_ (hf.below hB (fun j hj => by cases hj) (fun j hj => (hown.lt j hj).1))
    rcases hat with e | e
    · exact .inl e
    · exact .inr (by omega)

end Go.Proofs.YtdokpimhhkbdbaaDoor
