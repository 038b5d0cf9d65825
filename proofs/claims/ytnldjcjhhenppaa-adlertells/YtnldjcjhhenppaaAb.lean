/-
  Appends of bytes; Seal walked.
-/
import Derived.Test.YtnldjcjhhenppaaAa
import Derived.Deep.DeepCutAuto
set_option linter.unusedSimpArgs false
set_option linter.unusedVariables false
namespace Go.Proofs.Ytnldjcjhhenppaa
open Go.RowKit

theorem below_grown {w w' : World} {B n : Nat} {v : Value} {xs : List Value} (hown : w.ownsRow B 5 1 v n xs) (hg : w.grownBy w' v.ownBlock) (hB : B ≤ w.heap.size) : Below B w w' :=
  (Below.refl B w).grown hg hB (fun k hk => (hown.lt k hk).1)

theorem wpList_appL {w : World} {ops : Array Oper} {rest : List Oper} {o : Oper} {a : Act} {Q : Exit → Act → World → Prop} (hgd : o.guard = none) (s x : Operand)
    (ho : o.op = .call { callee := .builtin .append, args := #[s, x], argTypes := #[22, 22] }) (B : Nat) (v : Value) (n : Nat) (xs : List Value) (hs : a.eval s = v) (hown : w.ownsRow B 5 1 v n xs)
    (u : Value) (bs : List Nat) (hx : a.eval x = u) (hL : Lies w u bs) (hn : n + bs.length ≤ 140737488400000) (hB : B ≤ w.heap.size)
    (h : ∀ v' w', w'.ownsRow B 5 1 v' (n + bs.length) (xs ++ bs.map byteV) → Below B w w' → w.grownBy w' v.ownBlock → wpList Try.prog ops Q rest (a.put o.dst v') w') : wpList Try.prog ops Q (o :: rest) a w := by
  obtain ⟨i, hi, hz0, hz1, hz2⟩ := info_parts Try.info5
  obtain ⟨ao, cap, rfl, h2, h3, h4⟩ := hL
  cases ao with
  | none =>
    have hc := h3 rfl
    subst hc
    have : bs = [] := List.length_eq_zero_iff.1 (by omega)
    subst this
    refine wpList_append_own_none hgd s x 22 ho B 5 i 1 Try.underlying22 hi v n xs hs hown hx (h v w ?_ (Below.refl _ _) ⟨rfl, rfl, rfl, Nat.le_refl _, fun _ _ _ => rfl⟩)
    simpa using hown
  | some ad =>
    refine wpList_append_own_wide _ hgd s x 22 ho B 5 i (.int .u8 0) 1 1 Try.underlying22 hi hz0 hz1 hz2 rfl (by decide) v n xs hs hown ad bs.length cap (bs.map byteV) hx (by simp) (h4 ad rfl) (bytes_one bs) (by unfold maxLen; omega) (by omega) hB ?_
    intro v' w' ho hg _
    exact h v' w' ho (below_grown hown hg hB) hg

theorem wpList_pushB {w : World} {ops : Array Oper} {rest : List Oper} {o : Oper} {a : Act} {Q : Exit → Act → World → Prop} (hgd : o.guard = none) (s x : Operand)
    (ho : o.op = .call { callee := .builtin .append, args := #[s, x], argTypes := #[22, 22] }) (B : Nat) (v : Value) (n : Nat) (xs : List Value) (hs : a.eval s = v) (hown : w.ownsRow B 5 1 v n xs)
    (z : Nat) (Z : Int) (hZ : Z = z) (H : Nat) (hH : H = w.heap.size) (hx : a.eval x = .slice (some ⟨H, 0, none⟩) 1 1) (hn : n + 1 ≤ 140737488400000) (hB : B ≤ w.heap.size)
    (h : ∀ v' w', w'.ownsRow B 5 1 v' (n + 1) (xs ++ [byteV z]) → Below B w w' → wpList Try.prog ops Q rest (a.put o.dst v') w') : wpList Try.prog ops Q (o :: rest) a (w.alloc (.cells #[.int .u8 Z] 5)) := by
  subst hZ hH
  have hb : Below w.heap.size w (w.alloc (.cells #[.int .u8 (z : Int)] 5)) := (Below.refl _ w).alloc (Nat.le_refl _) _
  have ho2 : (w.alloc (.cells #[.int .u8 (z : Int)] 5)).ownsRow B 5 1 v n xs := hown.alloc _
  refine wpList_appL hgd s x ho B v n xs hs ho2 _ [z] hx (lies_lit w [z] _ rfl) (by simpa using hn) (by simp; omega) ?_
  intro v' w' o2 b2 _
  exact h v' w' (by simpa using o2) ((hb.mono hB).trans b2)

/-- What Seal answers. -/
def sealL (bs : List Nat) : List Nat := [sumOf bs / 16777216, sumOf bs / 65536 % 256, sumOf bs / 256 % 256, sumOf bs % 256] ++ bs

theorem made0 (n : Nat) (hn : n ≤ 140737488390000) (wx : World) :
    (Instr.makeSlice 22 (.int .i64 0) (.int .i64 (4 + (n : Int)))).run Try.prog wx = .ok (.slice (some ⟨wx.heap.size, 0, none⟩) 0 (4 + n)) (wx.alloc (.cells (Array.replicate (4 + n) (byteV 0)) 5)) := by
  obtain ⟨i, hi, hz0, hz1, hz2⟩ := info_parts Try.info5
  have h := run_make (P := Try.prog) wx 22 5 i (.int .u8 0) Try.underlying22 hi hz0 .i64 .i64 0 (4 + (n : Int)) (by omega) (by omega) (by rw [hz2]; omega) (by omega)
  rw [h, hz1]
  have e1 : (4 + (n : Int)).toNat = 4 + n := by omega
  have e3 : madeCells (Value.int .u8 0).cells ((4 + n) * 1) = Array.replicate (4 + n) (byteV 0) := by
    apply Array.toList_inj.1
    rw [show (Value.int .u8 0).cells = #[Value.int .u8 0] from rfl, toList_madeCells_one]
    simp [byteV]
  rw [e1, e3]
  rfl

set_option maxRecDepth 100000 in
set_option maxHeartbeats 4000000 in
theorem seal_walk (w : World) (v : Value) (bs : List Nat) (hv : Lies w v bs) (hs : Small bs) (hl : bs.length ≤ 140737488390000) :
    Calls Try.prog 11 #[v] w fun e w' => ∃ v', e = .returned v' ∧ w'.ownsRow w.heap.size 5 1 v' (sealL bs).length ((sealL bs).map byteV) ∧ Below w.heap.size w w' := by
  have hv0 := hv
  obtain ⟨ao, cap, rfl, h2, h3, h4⟩ := hv
  clear h3 h4
  have hmk := made0 bs.length hl
  obtain ⟨w1, hw1⟩ : ∃ w1, w1 = w.alloc (.cells (Array.replicate (4 + bs.length) (byteV 0)) 5) := ⟨_, rfl⟩
  have hb1 : Below w.heap.size w w1 := by rw [hw1]; exact (Below.refl _ w).alloc (Nat.le_refl _) _
  have hof : Hid (Calls Try.prog 8 #[.slice ao bs.length cap] w1 fun e w' => e = .returned (.int .i64 (sumOf bs : Nat)) ∧ w' = w1) := of_walk w1 _ bs (hv0.old hb1) hs (by omega)
  have HV0 := mkHid hv0
  have HB1 := mkHid hb1
  have p1 : Hid (w1.ownsRow w.heap.size 5 1 (.slice (some ⟨w.heap.size, 0, none⟩) 0 (4 + bs.length)) 0 []) := by
    refine ⟨rfl, .inr ⟨_, _, _, rfl, Nat.le_refl _, by rw [hw1]; exact heap_alloc_new w _, by omega, by unfold maxLen; omega, by simp, by simp⟩⟩
  clear hv0 hb1
  go_enter Try.func11, Try.ntmps11
  go_upto_region 3 with (first | (go_at_call 8; rw [← hw1]; (with_reducible refine hof.out.mono ?_); rintro e w2 ⟨rfl, rfl⟩; clear hmk hof hw1))
  obtain ⟨S, hS⟩ : ∃ S, S = sumOf bs := ⟨_, rfl⟩
  rw [← hS]
  have hS2 : S < 4294967296 := by rw [hS]; exact sumOf_lt bs
  have HS := mkHid hS
  clear hS
  obtain ⟨B, hB⟩ : ∃ B, B = w.heap.size := ⟨_, rfl⟩
  rw [← hB] at p1 HB1 ⊢
  have hz0 : B ≤ w2.heap.size := by rw [hB]; exact (hB ▸ HB1.out).size
  have HB := mkHid hB
  have HC0 := HB1
  clear hB HB1
  obtain ⟨n, hn⟩ : ∃ n, n = bs.length := ⟨_, rfl⟩
  rw [← hn] at p1 hl h2 ⊢
  have HN := mkHid hn
  clear hn
  go_wp2
  refine wp_loop_rounds 5 ?_
  rw [rounds_succ]
  go_wp2_with (first | (at_builtin; refine wpList_pushB rfl (.tmp 16) (.tmp 22) rfl B _ _ _ rfl p1.out (S / 16777216) _ (by first | rfl | omega) _ rfl rfl (by omega) hz0 ?_; intro v1 w3 q1 b1; have P1 := mkHid q1; have hz1 : B ≤ w3.heap.size := Nat.le_trans hz0 b1.size; have HC1 := mkHid (HC0.out.trans b1); clear q1 b1))
  rw [rounds_succ]
  go_wp2_with (first | (at_builtin; refine wpList_pushB rfl (.tmp 16) (.tmp 22) rfl B _ _ _ rfl P1.out (S / 65536 % 256) _ (by first | rfl | omega) _ rfl rfl (by omega) hz1 ?_; intro v2 w4 q2 b2; have P2 := mkHid q2; have hz2 : B ≤ w4.heap.size := Nat.le_trans hz1 b2.size; have HC2 := mkHid (HC1.out.trans b2); clear q2 b2))
  rw [rounds_succ]
  go_wp2_with (first | (at_builtin; refine wpList_pushB rfl (.tmp 16) (.tmp 22) rfl B _ _ _ rfl P2.out (S / 256 % 256) _ (by first | rfl | omega) _ rfl rfl (by omega) hz2 ?_; intro v3 w5 q3 b3; have P3 := mkHid q3; have hz3 : B ≤ w5.heap.size := Nat.le_trans hz2 b3.size; have HC3 := mkHid (HC2.out.trans b3); clear q3 b3))
  rw [rounds_succ]
  go_wp2_with (first | (at_builtin; refine wpList_pushB rfl (.tmp 16) (.tmp 22) rfl B _ _ _ rfl P3.out (S % 256) _ (by first | rfl | omega) _ rfl rfl (by omega) hz3 ?_; intro v4 w6 q4 b4; have P4 := mkHid q4; have hz4 : B ≤ w6.heap.size := Nat.le_trans hz3 b4.size; have HC4 := mkHid (HC3.out.trans b4); clear q4 b4))
  have HLb : Hid (Lies w6 (.slice ao n cap) bs) := by
    have h := HV0.out.old (HB.out ▸ HC4.out)
    rw [← HN.out] at h
    exact h
  rw [rounds_succ]
  go_wp2_with (at_builtin; refine wpList_appL rfl (.tmp 24) (.tmp 25) rfl B _ _ _ rfl P4.out _ bs rfl HLb.out (by rw [← HN.out]; omega) hz4 ?_; intro v7 w7 q7 b7 g7)
  go_ret
  refine ⟨v7, rfl, ?_, ?_⟩
  · have e1 : (sealL bs).length = 0 + 1 + 1 + 1 + 1 + bs.length := by simp [sealL]; omega
    have e2 : (sealL bs).map byteV = [] ++ [byteV (S / 16777216)] ++ [byteV (S / 65536 % 256)] ++ [byteV (S / 256 % 256)] ++ [byteV (S % 256)] ++ bs.map byteV := by rw [HS.out]; rfl
    rw [e1, e2, ← HB.out]
    exact q7
  · rw [← HB.out]
    exact HC4.out.trans b7

end Go.Proofs.Ytnldjcjhhenppaa
