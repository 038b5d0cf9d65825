/-
  The queue of Order: its state, its methods' look-up, each method walked.
-/
import Derived.Test.YtcogeebfldlpoaaHc
import Derived.Test.YtcogeebfldlpoaaQm
set_option linter.unusedSimpArgs false
set_option linter.unusedVariables false
namespace Go.Proofs.Ytcogeebfldlpoaa
open Go.RowKit

theorem meth_push (a : Addr) (w : World) : (method 208 48 (.pointer (some a)) "Push").run Try.prog w = .ok (77, .pointer (some a)) w := by kernel_rfl
theorem meth_pop (a : Addr) (w : World) : (method 208 48 (.pointer (some a)) "Pop").run Try.prog w = .ok (76, .pointer (some a)) w := by kernel_rfl
theorem meth_less0 (q : Nat) (w : World) : (method 208 48 (.pointer (some ⟨q, 0, none⟩)) "Less").run Try.prog w = (do let v ← loadVar 49 ⟨q, 0, none⟩; pure (75, v) : Sem (FuncId × Value)).run Try.prog w := by kernel_rfl
theorem meth_len0 (q : Nat) (w : World) : (method 208 48 (.pointer (some ⟨q, 0, none⟩)) "Len").run Try.prog w = (do let v ← loadVar 49 ⟨q, 0, none⟩; pure (27, v) : Sem (FuncId × Value)).run Try.prog w := by kernel_rfl
theorem meth_swap0 (q : Nat) (w : World) : (method 208 48 (.pointer (some ⟨q, 0, none⟩)) "Swap").run Try.prog w = (do let v ← loadVar 49 ⟨q, 0, none⟩; pure (79, v) : Sem (FuncId × Value)).run Try.prog w := by kernel_rfl

theorem run_loadVar49 {w : World} {a : Addr} {v : Value} (h : w.cell? a = some v) : (loadVar 49 a).run Try.prog w = .ok v w := by
  have e : (isAgg 49).run Try.prog w = .ok false w := by kernel_rfl
  simp [loadVar, Sem.run_bind, e, h]

theorem meth_less {q : Nat} {w : World} {v : Value} (h : w.cell? ⟨q, 0, none⟩ = some v) : (method 208 48 (.pointer (some ⟨q, 0, none⟩)) "Less").run Try.prog w = .ok (75, v) w := by
  rw [meth_less0, Sem.run_bind, run_loadVar49 h]; rfl
theorem meth_len {q : Nat} {w : World} {v : Value} (h : w.cell? ⟨q, 0, none⟩ = some v) : (method 208 48 (.pointer (some ⟨q, 0, none⟩)) "Len").run Try.prog w = .ok (27, v) w := by
  rw [meth_len0, Sem.run_bind, run_loadVar49 h]; rfl
theorem meth_swap {q : Nat} {w : World} {v : Value} (h : w.cell? ⟨q, 0, none⟩ = some v) : (method 208 48 (.pointer (some ⟨q, 0, none⟩)) "Swap").run Try.prog w = .ok (79, v) w := by
  rw [meth_swap0, Sem.run_bind, run_loadVar49 h]; rfl

/-- The queue at q: its row's value is v, it holds xs. -/
structure Qu (B : Nat) (w : World) (q : Nat) (v : Value) (xs : List Txt) : Prop where
  blk : w.heap[q]? = some (.cells #[v] 51 (0, 0))
  row : w.ownsRow B 9 1 v xs.length (xs.map encStr)
  hB : B ≤ q

theorem Qu.cell {B : Nat} {w : World} {q : Nat} {v : Value} {xs : List Txt} (h : Qu B w q v xs) : w.cell? ⟨q, 0, none⟩ = some v := by
  simp [World.cell?, h.blk]

theorem Qu.lies {B : Nat} {w : World} {q : Nat} {v : Value} {xs : List Txt} (h : Qu B w q v xs) : LiesS w v xs := lies_own rfl h.row

set_option maxHeartbeats 400000 in
theorem len_walk (w : World) (ao : Option Addr) (n cap : Nat) : Calls Try.prog 27 #[.slice ao n cap] w fun e w' => e = .returned (.int .i64 (n : Int)) ∧ w' = w := by
  go_enter Try.func27, Try.ntmps27
  go_wp2
  go_ret
  exact ⟨rfl, rfl⟩

set_option maxHeartbeats 1000000 in
theorem less_walk (w : World) (v : Value) (xs : List Txt) (hv : LiesS w v xs) (hl : xs.length ≤ 1000000) (i j : Nat) (hi : i < xs.length) (hj : j < xs.length) :
    Calls Try.prog 75 #[v, .int .i64 (i : Int), .int .i64 (j : Int)] w fun e w' => e = .returned (.bool (decide (xs.getD i [] < xs.getD j []))) ∧ ∃ n, w' = w.drewN n := by
  obtain ⟨b, o, c, rfl, hc, hh⟩ := hv.form (by omega)
  have r1 : w.cell? ⟨b, o + i, none⟩ = some (.string (str (xs.getD i []))) := hh i hi
  have r2 : w.cell? ⟨b, o + j, none⟩ = some (.string (str (xs.getD j []))) := hh j hj
  obtain ⟨d, hd⟩ : ∃ d, d = decide (xs.getD i [] < xs.getD j []) := ⟨_, rfl⟩
  rw [← hd]
  obtain ⟨s, hs⟩ : ∃ s, s = str (xs.getD i []) := ⟨_, rfl⟩
  obtain ⟨t, ht⟩ : ∃ t, t = str (xs.getD j []) := ⟨_, rfl⟩
  have e : Op.bytesLess s.toList t.toList = d := by
    rw [bytesLess_eq, ByteArray.toList_eq, ByteArray.toList_eq, hs, ht, hd]; rfl
  rw [← hs] at r1
  rw [← ht] at r2
  obtain ⟨m, hm⟩ : ∃ m, m = xs.length := ⟨_, rfl⟩
  rw [← hm] at hl hi hj ⊢
  have i1 : (i : Int) < (m : Int) := by omega
  have j1 : (j : Int) < (m : Int) := by omega
  clear hs ht hd hh hm
  go_enter Try.func75, Try.ntmps75
  go_wp2
  go_quiet (fail)
  go_wp2
  go_ret
  exact ⟨rfl, _, rfl⟩
end Go.Proofs.Ytcogeebfldlpoaa
