/-
  What stood stands; cells of new blocks; rows of things.
-/
import Derived.Test.YtcogeebfldlpoaaSc
import Derived.Sort.Walk0
set_option linter.unusedSimpArgs false
set_option linter.unusedVariables false
namespace Go.Proofs.Ytcogeebfldlpoaa
open Go.RowKit

abbrev Txt := List UInt8
def str (l : Txt) : ByteArray := ⟨l.toArray⟩
theorem str_list (l : Txt) : (str l).data.toList = l := rfl
theorem str_size (l : Txt) : (str l).size = l.length := rfl
theorem encStr_str (l : Txt) : encStr l = .string (str l) := rfl

theorem txt_beq (a b : List UInt8) : (a == b) = decide (a = b) := by
  rw [Bool.eq_iff_iff]; simp
theorem txt_irr (a : List UInt8) : ¬ a < a := List.lt_irrefl a
theorem txt_asym {a b : List UInt8} (h : a < b) : ¬ b < a := fun k => txt_irr a (List.lt_trans h k)

theorem block_old {w w' : World} {b : Nat} {o : Obj} (hb : Below w.heap.size w w') (h : w.heap[b]? = some o) : w'.heap[b]? = some o := by
  rw [hb.block b (Array.getElem?_eq_some_iff.1 h).1]; exact h

theorem bcell {W w1 : World} (hb : Below W.heap.size W w1) : (∀ b o, b < W.heap.size → w1.cell? ⟨b, o, none⟩ = W.cell? ⟨b, o, none⟩) ∧ (∀ b o, b < W.heap.size → w1.frozen? ⟨b, o, none⟩ = W.frozen? ⟨b, o, none⟩) :=
  ⟨fun b o h => hb.cell (p := ⟨b, o, none⟩) h, fun b o h => hb.frozen (p := ⟨b, o, none⟩) h⟩

theorem exec_append {P : Program} {o : Oper} {a : Act} {w w' : World} {t : TypeId} {v u v' : Value} (s x : Operand) (ho : o.op = .call { callee := .builtin .append, args := #[s, x], argTypes := #[t, t] }) (hs : a.eval s = v) (hx : a.eval x = u)
    (hr : (Builtin.append_ #[t, t] o.type #[v, u]).run P w = .ok v' w') : (execOp a.eval o).run P w = .ok (.value v') w' := by
  unfold execOp
  simp only [ho, resolve, invoke, builtin, Sem.run_bind, Sem.run_pure, Result.andThen_ok, List.map_toArray, List.map_cons, List.map_nil, hs, hx, hr]

/-- What stood stands. -/
abbrev Old (w w' : World) : Prop := Below w.heap.size w w'
theorem old_refl (w : World) : Old w w := Below.refl _ _
theorem old1 (w : World) (o : Obj) : Old w (w.alloc o) := (Below.refl _ w).alloc (Nat.le_refl _) _
theorem old2 (w : World) (o p : Obj) : Old w ((w.alloc o).alloc p) := (old1 w o).alloc (by simp) _
theorem old3 (w : World) (o p q : Obj) : Old w (((w.alloc o).alloc p).alloc q) := (old2 w o p).alloc (by simp; omega) _
theorem old4 (w : World) (o p q r : Obj) : Old w ((((w.alloc o).alloc p).alloc q).alloc r) := (old3 w o p q).alloc (by simp; omega) _

theorem heap_a2 (w : World) (a o : Obj) : ((w.alloc a).alloc o).heap[w.heap.size + 1]? = some o := by
  have := heap_alloc_new (w.alloc a) o
  simpa using this
theorem heap_a3 (w : World) (a b o : Obj) : (((w.alloc a).alloc b).alloc o).heap[w.heap.size + 1 + 1]? = some o := by
  have := heap_alloc_new ((w.alloc a).alloc b) o
  simpa using this

theorem h10 (w : World) (a : Obj) : (w.alloc a).heap[w.heap.size]? = some a := heap_alloc_new w a
theorem h20 (w : World) (a b : Obj) : ((w.alloc a).alloc b).heap[w.heap.size]? = some a := block_old (old1 _ _) (h10 w a)
theorem h21 (w : World) (a b : Obj) : ((w.alloc a).alloc b).heap[w.heap.size + 1]? = some b := heap_a2 w a b
theorem h30 (w : World) (a b c : Obj) : (((w.alloc a).alloc b).alloc c).heap[w.heap.size]? = some a := block_old (old1 _ _) (h20 w a b)
theorem h31 (w : World) (a b c : Obj) : (((w.alloc a).alloc b).alloc c).heap[w.heap.size + 1]? = some b := block_old (old1 _ _) (h21 w a b)
theorem h32 (w : World) (a b c : Obj) : (((w.alloc a).alloc b).alloc c).heap[w.heap.size + 1 + 1]? = some c := heap_a3 w a b c
theorem cell2 {w : World} {b : Nat} {x y : Value} {t : TypeId} (h : w.heap[b]? = some (.cells #[x, y] t (0, 0))) : w.cell? ⟨b, 0, none⟩ = some x ∧ w.cell? ⟨b, 1, none⟩ = some y := by simp [World.cell?, h]
theorem cell3 {w : World} {b : Nat} {x y z : Value} {t : TypeId} (h : w.heap[b]? = some (.cells #[x, y, z] t (0, 0))) : w.cell? ⟨b, 0, none⟩ = some x ∧ w.cell? ⟨b, 1, none⟩ = some y ∧ w.cell? ⟨b, 2, none⟩ = some z := by simp [World.cell?, h]
theorem cell4 {w : World} {b : Nat} {x y z u : Value} {t : TypeId} (h : w.heap[b]? = some (.cells #[x, y, z, u] t (0, 0))) : w.cell? ⟨b, 0, none⟩ = some x ∧ w.cell? ⟨b, 1, none⟩ = some y ∧ w.cell? ⟨b, 2, none⟩ = some z ∧ w.cell? ⟨b, 3, none⟩ = some u := by simp [World.cell?, h]
theorem cell6 {w : World} {b : Nat} {x y z u v r : Value} {t : TypeId} (h : w.heap[b]? = some (.cells #[x, y, z, u, v, r] t (0, 0))) : w.cell? ⟨b, 0, none⟩ = some x ∧ w.cell? ⟨b, 1, none⟩ = some y ∧ w.cell? ⟨b, 2, none⟩ = some z ∧ w.cell? ⟨b, 3, none⟩ = some u ∧ w.cell? ⟨b, 4, none⟩ = some v ∧ w.cell? ⟨b, 5, none⟩ = some r := by simp [World.cell?, h]

/-- A row of things of wd cells each. -/
def LiesV (wd : Nat) (w : World) (v : Value) (n : Nat) (cs : List Value) : Prop :=
  cs.length = wd * n ∧ ∃ ao cap, v = .slice ao n cap ∧ n ≤ cap ∧ (ao = none → cap = 0) ∧ ∀ a, ao = some a → ∀ j u, cs[j]? = some u → w.cell? (a.add j) = some u

theorem LiesV.old {wd : Nat} {w w' : World} {v : Value} {n : Nat} {cs : List Value} (h : LiesV wd w v n cs) (hb : Old w w') : LiesV wd w' v n cs := by
  obtain ⟨h0, ao, cap, h1, h2, h3, h4⟩ := h
  exact ⟨h0, ao, cap, h1, h2, h3, fun a ha j u hu => cell_old hb (h4 a ha j u hu)⟩

theorem range_old {w w' : World} {b o : Nat} {cs : List Value} (h : w.rangeAt b o cs) (hb : Old w w') : w'.rangeAt b o cs := fun j v hv => cell_old hb (h j v hv)

end Go.Proofs.Ytcogeebfldlpoaa
