/-
  caught: a panic with a number is that number.
-/
import Derived.Test.YtdokpimhhkbdbaaDoorUa
import Derived.Defers
import Derived.Recover
set_option linter.unusedSimpArgs false
set_option linter.unusedVariables false
namespace Go.Proofs.YtdokpimhhkbdbaaDoor.Q
open Go.RowKit

theorem Tryd.under25 : Tryd.prog.underlying 25 = some (.int .i64) := by kernel_rfl

theorem assert_num (n : Int) (w : World) : (Instr.typeAssert (.iface 25 (.int .i64 n)) 20 25 true).run Tryd.prog w = .ok (.tuple #[.int .i64 n, .bool true]) w := by
  simp [Instr.typeAssert, run_underlying Tryd.under25]

set_option maxRecDepth 100000 in
theorem catch_panicking (p : Addr) (n x : Int) (w : World) (hc : w.cell? p = some (.int .i64 x)) (hz : w.frozen? p = false) :
    CallsD Tryd.prog 48 #[.pointer (some p)] (.panicking ({ v := .iface 25 (.int .i64 n), recovered := false } :: [])) w fun e u' w' =>
      e = .returned (.tuple #[]) ∧ u' = .panicking ({ v := .iface 25 (.int .i64 n), recovered := true } :: []) ∧ w' = w.setCell p (.int .i64 n) := by
  refine callsD_of_wpS Tryd.func48 rfl fun c₀ cs hu => ?_
  apply wpS_seq
  apply wpS_region
  simp [wpOpsS, go_sem, recoverD, hu, Tryd.ntmps48, Exit.thenS]
  refine wpS_of_wp ?_
  simp only [Array.replicate]
  have hta := assert_num n
  go_wp2
  cases c₀
  simp_all [bodyPostS, results, Tryd.results48]

set_option maxRecDepth 100000 in
theorem catch_idle (p : Addr) (w : World) :
    CallsD Tryd.prog 48 #[.pointer (some p)] .returning w fun e u' w' => e = .returned (.tuple #[]) ∧ u' = .returning ∧ w' = w := by
  refine callsD_of_wpS Tryd.func48 rfl fun c₀ cs hu => ?_
  apply wpS_seq
  apply wpS_region
  simp [wpOpsS, go_sem, recoverD, hu, Tryd.ntmps48, Exit.thenS]
  refine wpS_of_wp ?_
  simp only [Array.replicate]
  go_wp2
  cases c₀
  simp_all [bodyPostS, results, Tryd.results48]

/-- The work came to its end, or panicked with a number. -/
theorem caught_any (ub : Nat) (w : World) (Q1 : World → Prop) (Q2 : Int → World → Prop)
    (hw : Calls Tryd.prog 33 #[.pointer (some ⟨ub, 0, none⟩)] (w.alloc (.cells #[.int .i64 0] 25)) fun e w' => (e = .returned (.tuple #[]) ∧ Q1 w' ∨ ∃ n, e = Pn n ∧ Q2 n w') ∧ w'.heap[w.heap.size]? = some (.cells #[.int .i64 0] 25 (0, 0))) :
    Calls Tryd.prog 32 #[.func (.func 33) #[.pointer (some ⟨ub, 0, none⟩)] #[]] w fun e w' => (e = .returned (.int .i64 0) ∧ ∃ w2, Q1 w2 ∧ w' = w2.setCell ⟨w.heap.size, 0, none⟩ (.int .i64 0)) ∨ (∃ n, e = .returned (.int .i64 n) ∧ ∃ w2, Q2 n w2 ∧ w' = w2.setCell ⟨w.heap.size, 0, none⟩ (.int .i64 n)) := by
  have hmf : ∀ (fn : Fn) (first cap : Array Value) (w : World), (Instr.makeFunc fn first cap).run Tryd.prog w = .ok (.func fn first cap) w := fun _ _ _ _ => rfl
  have hwk := mkHid hw
  clear hw
  go_enter_defers Tryd.func32, Tryd.ntmps32
  go_wp2_with (first
    | (go_at_call 33; (with_reducible refine hwk.out.mono ?_); rintro e w2 ⟨hq, hb⟩
       have c0 : w2.cell? ⟨w.heap.size, 0, none⟩ = some (.int .i64 0) := by simp [World.cell?, hb]
       have z0 := free_at hb 0
       have HB := mkHid hb
       rcases hq with ⟨rfl, hq⟩ | ⟨n, rfl, hq⟩
       all_goals
         have HQ := mkHid hq
         clear hq
       all_goals clear hb))
  · refine leaves_cons (f := 48) (args := #[.pointer (some ⟨w.heap.size, 0, none⟩)]) (by simp) (by simp [go_sem]) ?_
    refine (catch_idle ⟨w.heap.size, 0, none⟩ _).mono ?_
    rintro e u' w'' ⟨rfl, rfl, rfl⟩
    have c1 : (w2.setCell ⟨w.heap.size, 0, none⟩ (.int .i64 0)).cell? ⟨w.heap.size, 0, none⟩ = some (.int .i64 0) := by
      have := row_setCell HB.out 0 (.int .i64 0)
      simp [World.cell?, this]
    simp [Leaves, settle, results, Tryd.results32, go_sem, c1]
    exact .inl ⟨w2, HQ.out, rfl⟩
  · refine leaves_cons (f := 48) (args := #[.pointer (some ⟨w.heap.size, 0, none⟩)]) (by simp) (by simp [go_sem]) ?_
    refine (catch_panicking ⟨w.heap.size, 0, none⟩ n 0 _ c0 z0).mono ?_
    rintro e u' w'' ⟨rfl, rfl, rfl⟩
    have c1 : (w2.setCell ⟨w.heap.size, 0, none⟩ (.int .i64 n)).cell? ⟨w.heap.size, 0, none⟩ = some (.int .i64 n) := by
      have := row_setCell HB.out 0 (.int .i64 n)
      simp [World.cell?, this]
    simp [Leaves, settle, results, Tryd.results32, go_sem, c1]
    exact .inr ⟨w2, HQ.out, rfl⟩

end Go.Proofs.YtdokpimhhkbdbaaDoor.Q
