/-
  One step more on each of two rows, in a statement that draws its order (LzTells).
-/
import Derived.Test.YthjnkoagmjcjfaaRj
import Derived.Test.YthjnkoagmjcjfaaTa
import Derived.Test.YthjnkoagmjcjfaaBa
import Derived.Test.YthjnkoagmjcjfaaKd
import Derived.Deep.RegionHeld3
import Derived.Deep.AppendLies
set_option linter.unusedSimpArgs false
set_option linter.unusedVariables false
namespace Go.Proofs.Ythjnkoagmjcjfaa
open Go.RowKit

theorem news3 {w : World} {H : Nat} {p q r : Value} {e : TypeId} (h : w.heap[H]? = some (.cells #[p, q, r] e (0, 0))) : ∀ j u, [p, q, r][j]? = some u → w.cell? ((⟨H, 0, none⟩ : Addr).add j) = some u := by
  intro j u hj
  match j, hj with
  | 0, hj => simp at hj; subst hj; simpa [Addr.add] using cell3_0 h
  | 1, hj => simp at hj; subst hj; simpa [Addr.add] using cell3_1 h
  | 2, hj => simp at hj; subst hj; simpa [Addr.add] using cell3_2 h

/-- One step more, at a step of a region that draws. -/
theorem step_pushT {ops : Array Oper} {o : Oper} {a : Act} {w : World} {K : Act → World → Prop} {Q : Exit → Act → World → Prop} {E : Prop} (hgd : o.guard = none) (t e : TypeId) (s x : Operand)
    (ho : o.op = .call { callee := .builtin .append, args := #[s, x], argTypes := #[t, t] })
    (ht : Try.prog.underlying t = some (.slice e)) (hinf : (Try.prog.info? e).map (fun i => (i.zero, i.size, i.bytes)) = some (some (.agg #[.int .u8 0, .int .i64 0, .int .i64 0]), 3, 24))
    (B : Nat) (v : Value) (n : Nat) (xs : List Value) (hs : a.eval s = v) (hown : w.ownsRow B e 3 v n xs) (p q r : Value) (h1 : p.oneCell' = true ∧ q.oneCell' = true ∧ r.oneCell' = true) (H : Nat) (hx : a.eval x = .slice (some ⟨H, 0, none⟩) 1 1)
    (hblk : w.heap[H]? = some (.cells #[p, q, r] e (0, 0)))
    (hn : n + 1 ≤ 5864062014805) (hB : B ≤ w.heap.size)
    (h : ∀ g cap w', w'.ownsRow B e 3 (.slice (some ⟨g, 0, none⟩) (n + 1) cap) (n + 1) (xs ++ [p, q, r]) → Fr none v.ownBlock w w' → Below B w w' → K (a.put o.dst (.slice (some ⟨g, 0, none⟩) (n + 1) cap)) w') :
    if Region.wanted o (yielded ops a.tmps) = true then Oper.wp Try.prog o a w K Q else E := by
  obtain ⟨i, hi, hz0, hz1, hz2⟩ := info_parts hinf
  refine step_append_lies w hgd s x t ho B e i _ 3 24 ht hi hz0 hz1 hz2 rfl (by decide) v n xs hs hown ⟨H, 0, none⟩ 1 1 [p, q, r] hx rfl (news3 hblk) ?_ (by decide) (by unfold maxLen; omega) (by omega) hB w.heap.size rfl ?_
  · intro u hu; simp at hu; rcases hu with rfl | rfl | rfl
    · exact h1.1
    · exact h1.2.1
    · exact h1.2.2
  · intro g cap w' ho2 hg hat hlt
    have hf : Fr none v.ownBlock w w' := ⟨hg.os, hg.tape, hg.output, hg.size, fun k hk _ hy => hg.block k hk hy⟩
    exact h g cap w' ho2 hf (hf.below hB (fun j hj => by cases hj) (fun j hj => (hown.lt j hj).1))

theorem owns_ne3 {w : World} {B p n e : Nat} {v : Value} {xs : List Value} {c : Array Value} {t : TypeId} (h : w.ownsRow B e 3 v n xs) (hp : w.heap[p]? = some (.cells c t (0, 0))) (ht : t ≠ e) : v.ownBlock ≠ some p := by
  rcases h.2 with ⟨rfl, _⟩ | ⟨g, cap, cur, rfl, _, hg, _⟩
  · simp [Value.ownBlock]
  · simp only [Value.ownBlock, ne_eq, Option.some.injEq]
    rintro rfl
    rw [hg] at hp
    simp at hp
    exact ht hp.2.symm

/-- A block of another type is as it was. -/
theorem fr_block {w w' : World} {B n e : Nat} {v : Value} {xs : List Value} (h : w.ownsRow B e 3 v n xs) (hf : Fr none v.ownBlock w w') {k : Nat} {c : Array Value} {t : TypeId} (hk : w.heap[k]? = some (.cells c t (0, 0))) (ht : t ≠ e) : w'.heap[k]? = some (.cells c t (0, 0)) := by
  rw [hf.block k (lt_of_block hk) (by simp) (owns_ne3 h hk ht).symm]
  exact hk

/-- A row of another type is as it was. -/
theorem fr_owns {w w' : World} {B n e e' m B' : Nat} {v v' : Value} {xs ys : List Value} (h : w.ownsRow B e 3 v n xs) (hf : Fr none v.ownBlock w w') (h' : w.ownsRow B' e' 3 v' m ys) (ht : e' ≠ e) : w'.ownsRow B' e' 3 v' m ys := by
  refine ⟨h'.1, ?_⟩
  rcases h'.2 with h2 | ⟨g, cap, cur, rfl, hB, hg, r⟩
  · exact .inl h2
  · exact .inr ⟨g, cap, cur, rfl, hB, fr_block h hf hg ht, r⟩

/-- A block of its own that is not the row's. -/
theorem fr_own27 {w w' : World} {B n e q : Nat} {v : Value} {xs : List Value} (h : w.ownsRow B e 3 v n xs) (hf : Fr none v.ownBlock w w') {c : Array Value} {t : TypeId} (hk : w.heap[q]? = some (.cells c t (0, 0))) (hq : v.ownBlock ≠ some q) : w'.heap[q]? = some (.cells c t (0, 0)) := by
  rw [hf.block q (lt_of_block hk) (by simp) hq.symm]
  exact hk
end Go.Proofs.Ythjnkoagmjcjfaa
