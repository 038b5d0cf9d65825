/-
  Slices of texts: read, owned; sorted and compacted in their rows; Set, In, Same, Text walked.
-/
import Derived.Test.YtcogeebfldlpoaaGa
import Derived.Deep.DeepAppendWide
set_option linter.unusedSimpArgs false
set_option linter.unusedVariables false
namespace Go.Proofs.Ytcogeebfldlpoaa
open Go.RowKit

/-- A text as a value. -/
def encStr (l : List UInt8) : Value := .string ⟨l.toArray⟩

/-- The slice v reads as the texts ss. -/
def LiesS (w : World) (v : Value) (ss : List (List UInt8)) : Prop :=
  ∃ ao cap, v = .slice ao ss.length cap ∧ ss.length ≤ cap ∧ (ao = none → cap = 0) ∧ ∀ a, ao = some a → ∀ j u, (ss.map encStr)[j]? = some u → w.cell? (a.add j) = some u

theorem LiesS.old {w w' : World} {v : Value} {ss : List (List UInt8)} (h : LiesS w v ss) (hb : Below w.heap.size w w') : LiesS w' v ss := by
  obtain ⟨ao, cap, h1, h2, h3, h4⟩ := h
  exact ⟨ao, cap, h1, h2, h3, fun a ha j u hu => cell_old hb (h4 a ha j u hu)⟩

theorem lies_own {w : World} {B n : Nat} {v : Value} {ss : List (List UInt8)} (hn : ss.length = n) (h : w.ownsRow B 9 1 v n (ss.map encStr)) : LiesS w v ss := by
  subst hn
  have h0 := h
  rcases h.2 with ⟨rfl, hn⟩ | ⟨g, cap, cur, rfl, _, hg, hn, _⟩
  · exact ⟨none, 0, by rw [hn], by omega, fun _ => rfl, fun a ha => by cases ha⟩
  · refine ⟨_, cap, rfl, hn, fun h => (by cases h), fun a ha j u hu => ?_⟩
    cases ha
    exact h0.cells rfl j u hu

theorem LiesS.at {w : World} {v : Value} {ss : List (List UInt8)} (h : LiesS w v ss) (hn : 0 < ss.length) : ∃ a cap, v = .slice (some a) ss.length cap ∧ ss.length ≤ cap ∧ ∀ k, k < ss.length → w.cell? (a.add k) = some (encStr (ss.getD k [])) := by
  obtain ⟨ao, cap, h1, h2, h3, h4⟩ := h
  cases ao with
  | none => have := h3 rfl; omega
  | some a => exact ⟨a, cap, h1, h2, fun k hk => h4 a rfl k _ (by simp [hk])⟩

theorem strs_one (ss : List (List UInt8)) : ∀ u ∈ ss.map encStr, u.oneCell' = true := by
  intro u hu
  obtain ⟨b, _, rfl⟩ := List.mem_map.1 hu
  rfl

theorem Try.inf9 : (Try.prog.info? 9).map (fun i => (i.zero, i.size, i.bytes)) = some (some (.string ⟨#[]⟩), 1, 16) := by kernel_rfl
theorem Try.underlying22s : Try.prog.underlying 22 = some (.slice 9) := by kernel_rfl

/-- One slice of texts put behind another, owned one. -/
theorem wpList_appS {ops : Array Oper} {rest : List Oper} {o : Oper} {a : Act} {w : World} {Q : Exit → Act → World → Prop} (hgd : o.guard = none) (s x : Operand)
    (ho : o.op = .call { callee := .builtin .append, args := #[s, x], argTypes := #[22, 22] })
    (B : Nat) (v : Value) (n : Nat) (xs : List (List UInt8)) (hs : a.eval s = v) (hown : w.ownsRow B 9 1 v n (xs.map encStr)) (u : Value) (ys : List (List UInt8)) (hx : a.eval x = u) (hu : LiesS w u ys)
    (hl : n + ys.length ≤ 9000000000000) (hB : B ≤ w.heap.size)
    (h : ∀ v' w', w'.ownsRow B 9 1 v' (n + ys.length) ((xs ++ ys).map encStr) → Below B w w' → w.grownBy w' v.ownBlock → wpList Try.prog ops Q rest (a.put o.dst v') w') : wpList Try.prog ops Q (o :: rest) a w := by
  obtain ⟨i, hi, hz0, hz1, hz2⟩ := info_parts Try.inf9
  obtain ⟨ao, cap, rfl, h2, h3, h4⟩ := hu
  cases ao with
  | none =>
    have hc := h3 rfl
    subst hc
    have hy : ys = [] := List.length_eq_zero_iff.1 (by omega)
    subst hy
    refine wpList_append_own_none hgd s x 22 ho B 9 i 1 Try.underlying22 hi v n _ hs hown (by rw [hx]; rfl) ?_
    exact h _ _ (by simpa using hown) (Below.refl _ _ |>.mono (by omega)) (World.grownBy.mk rfl rfl rfl (Nat.le_refl _) (fun _ _ _ => rfl))
  | some ad =>
    refine wpList_append_own_wide _ hgd s x 22 ho B 9 i (.string ⟨#[]⟩) 1 16 Try.underlying22 hi hz0 hz1 hz2 rfl (by decide) v n _ hs hown ad ys.length cap (ys.map encStr) hx (by simp) (h4 ad rfl) (strs_one ys) (by unfold maxLen; omega) (by omega) hB ?_
    intro v' w' ho' hg _
    refine h v' w' (by simpa using ho') ((Below.refl B w).grown hg (by omega) (fun k hk => ?_)) hg
    exact (hown.lt k hk).1

end Go.Proofs.Ytcogeebfldlpoaa
