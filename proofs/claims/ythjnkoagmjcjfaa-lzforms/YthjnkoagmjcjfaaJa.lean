/-
  Step.fits; one byte appended to a row of the call's own.
-/
import Derived.Test.YthjnkoagmjcjfaaSe
set_option linter.unusedSimpArgs false
set_option linter.unusedVariables false
namespace Go.Proofs.Ythjnkoagmjcjfaa
open Go.RowKit

def stV (s : St) : Value := .agg #[.int .u8 (s.b : Int), .int .i64 s.l, .int .i64 s.d]

set_option maxRecDepth 100000 in
set_option maxHeartbeats 1000000 in
theorem fits_walk (b o : Nat) (l d : Int) (ho : o ≤ 70000) (w : World) :
    Calls Try.prog 29 #[.agg #[.int .u8 (b : Int), .int .i64 l, .int .i64 d], .int .i64 (o : Int)] w fun e w' => e = .returned (.bool (decide (Fit o ⟨b, l, d⟩))) ∧ Below w.heap.size w w' := by
  have hO : ∃ O : Int, O = o ∧ 0 ≤ O ∧ O ≤ 100000 := ⟨o, rfl, by omega, by omega⟩
  obtain ⟨O, hOe, h0, h1⟩ := hO
  obtain ⟨R, hR⟩ : ∃ R, R = decide (Fit o ⟨b, l, d⟩) := ⟨_, rfl⟩
  rw [← hR, ← hOe]
  have HOW : Hid (O = o ∧ 0 ≤ O ∧ O ≤ 100000) := ⟨hOe, h0, h1⟩
  clear h0 h1
  have hcase : l < 0 ∨ 258 < l ∨ (0 < l ∧ l ≤ 258 ∧ d < 1) ∨ (0 < l ∧ l ≤ 258 ∧ 1 ≤ d ∧ O < d) ∨ (0 < l ∧ l ≤ 258 ∧ 1 ≤ d ∧ d ≤ O) ∨ l = 0 := by omega
  rcases hcase with h | h | ⟨h1, h2, h3⟩ | ⟨h1, h2, h3, h4⟩ | ⟨h1, h2, h3, h4⟩ | h
  · have hR' : R = false := by rw [hR]; simp [Fit]; omega
    subst hR'
    clear hR hOe
    go_enter Try.func29, Try.ntmps29
    go_wp2
    go_ret
    exact ⟨rfl, (Below.refl _ _).alloc (Nat.le_refl _) _⟩
  · have hR' : R = false := by rw [hR]; simp [Fit]; omega
    subst hR'
    clear hR hOe
    go_enter Try.func29, Try.ntmps29
    go_wp2
    go_ret
    exact ⟨rfl, (Below.refl _ _).alloc (Nat.le_refl _) _⟩
  · have hR' : R = false := by rw [hR]; simp [Fit]; omega
    subst hR'
    clear hR hOe
    go_enter Try.func29, Try.ntmps29
    go_wp2
    go_ret
    exact ⟨rfl, (Below.refl _ _).alloc (Nat.le_refl _) _⟩
  · have hR' : R = false := by rw [hR]; simp [Fit]; omega
    subst hR'
    clear hR hOe
    go_enter Try.func29, Try.ntmps29
    go_wp2
    go_ret
    exact ⟨rfl, (Below.refl _ _).alloc (Nat.le_refl _) _⟩
  · have hR' : decide (O + l ≤ 65536) = R := by
      rw [hR]
      apply decide_eq_decide.2
      have : max l 1 = l := by omega
      simp only [Fit, this]
      omega
    have hw : wrap64 (O + l) = O + l := by unfold wrap64; have := HOW.out; omega
    have hl1 : (1 : Int) ≤ l := by omega
    clear hR hOe
    go_enter Try.func29, Try.ntmps29
    go_wp2
    go_ret
    exact ⟨rfl, (Below.refl _ _).alloc (Nat.le_refl _) _⟩
  · subst h
    have hR' : decide (O + 1 ≤ 65536) = R := by
      rw [hR]
      apply decide_eq_decide.2
      have : max (0 : Int) 1 = 1 := rfl
      simp only [Fit, this]
      omega
    have hw : wrap64 (O + 1) = O + 1 := by unfold wrap64; have := HOW.out; omega
    clear hR hOe
    go_enter Try.func29, Try.ntmps29
    go_wp2
    go_ret
    exact ⟨rfl, (Below.refl _ _).alloc (Nat.le_refl _) _⟩

/-- One byte more, behind the block that it was laid into. -/
theorem wpList_pushB {ops : Array Oper} {rest : List Oper} {o : Oper} {a : Act} {w : World} {Q : Exit → Act → World → Prop} (hgd : o.guard = none) (s x : Operand)
    (ho : o.op = .call { callee := .builtin .append, args := #[s, x], argTypes := #[23, 23] })
    (B : Nat) (v : Value) (n : Nat) (xs : List Value) (hs : a.eval s = v) (hown : w.ownsRow B 5 1 v n xs) (z : Int) (H : Nat) (hH : w.heap.size = H) (hx : a.eval x = .slice (some ⟨H, 0, none⟩) 1 1)
    (hn : n + 1 ≤ 140737488355328) (hB : B ≤ w.heap.size)
    (h : ∀ g cap w', w'.ownsRow B 5 1 (.slice (some ⟨g, 0, none⟩) (n + 1) cap) (n + 1) (xs ++ [.int .u8 z]) → Fr none v.ownBlock w w' → (v.ownBlock = some g ∨ w.heap.size ≤ g) → Below B w w' → wpList Try.prog ops Q rest (a.put o.dst (.slice (some ⟨g, 0, none⟩) (n + 1) cap)) w') :
    wpList Try.prog ops Q (o :: rest) a (w.alloc (.cells #[.int .u8 z] 5)) := by
  subst hH
  obtain ⟨i, hi, hz0, hz1, hz2⟩ := info_parts Try.info5
  refine wpList_append_lies _ hgd s x 23 ho B 5 i (.int .u8 0) 1 1 Try.underlying23 hi hz0 hz1 hz2 rfl (by decide) v n xs hs (hown.alloc _) ⟨w.heap.size, 0, none⟩ 1 1 [.int .u8 z] hx rfl ?_ ?_ (by decide) (by unfold maxLen; omega) (by omega) (by simp; omega) (w.heap.size + 1) (by simp) ?_
  · intro j u hj
    match j, hj with
    | 0, hj => simp at hj; subst hj; simp [Addr.add]
  · intro u hu; simp at hu; subst hu; rfl
  · intro g cap w' ho2 hg hat hlt
    have hf : Fr none v.ownBlock w w' := by
      refine ⟨hg.os, hg.tape, hg.output, by have := hg.size; simp at this; omega, fun k hk _ hy => ?_⟩
      rw [hg.block k (by simp; omega) hy]
      exact Below.heap_alloc _ _ _ hk
    refine h g cap w' ho2 hf ?_ (hf.below hB (fun j hj => by cases hj) (fun j hj => (hown.lt j hj).1))
    rcases hat with e | e
    · exact .inl e
    · exact .inr (by omega)

theorem byte_at {w : World} {B g cap : Nat} {bs : List Nat} {n : Nat} (hn : bs.length = n) (h : w.ownsRow B 5 1 (.slice (some ⟨g, 0, none⟩) n cap) n (bs.map byteV)) (r : Nat) (hr : r < n) : w.cell? ⟨g, r, none⟩ = some (.int .u8 (bs.getD r 0 : Nat)) := by
  rw [h.cellAt r (by omega)]
  have : r < bs.length := by omega
  simp [this, byteV]
end Go.Proofs.Ythjnkoagmjcjfaa
