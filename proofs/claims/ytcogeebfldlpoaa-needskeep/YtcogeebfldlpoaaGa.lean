/-
  General: Within; frames.
-/
import Derived.Test.YtcogeebfldlpoaaRows
import Derived.WalkKit
import Derived.WalkSpells
import Derived.WalkLawsBesides
import Derived.Laws.BitsAllLaws
import Derived.BigRegion
import Derived.BigQuiet
import Derived.Laws.AppendOwnNone
import Derived.Deep.WholeRow
import Derived.Laws.ResultCell
import Derived.Deep.MidRow
import Derived.Deep.DeepCutAuto
set_option linter.unusedSimpArgs false
set_option linter.unusedVariables false
namespace Go.Proofs.Ytcogeebfldlpoaa
open Go.RowKit

theorem mkHid {p : Prop} (h : p) : Hid p := h

theorem meas {k n : Nat} (h : k < n) : n - (intOf (.int .i64 ((k : Int) + 1))).toNat < n - (intOf (.int .i64 (k : Int))).toNat := by
  simp [intOf]; omega

theorem ret_bool {a b : Bool} (h : a = b) : Ending.returned (.bool a) = .returned (.bool b) := by rw [h]

theorem ret_int {k : IntKind} {a b : Int} (h : a = b) : Ending.returned (.int k a) = .returned (.int k b) := by rw [h]

theorem within_walk (v n : Int) (hn : 0 < n) (hn2 : n < 4611686018427387904) (w : World) :
    Calls Try.prog 9 #[.int .i64 v, .int .i64 n] w fun e w' => e = .returned (.int .i64 (v % n)) ∧ w' = w := by
  have h1 : ¬ n < 1 := by omega
  have ht : v.tmod n = v % n ∨ (v.tmod n = v % n - n ∧ v.tmod n < 0) := by
    rw [Int.tmod_eq_emod]
    have := Int.emod_nonneg v (show n ≠ 0 by omega)
    have h2 := Int.emod_lt_of_pos v hn
    split
    · left; omega
    · right
      have : (n.natAbs : Int) = n := by omega
      rw [this]
      omega
  have h3 := Int.emod_nonneg v (show n ≠ 0 by omega)
  have h4 := Int.emod_lt_of_pos v hn
  by_cases hk : v.tmod n < 0
  · go_enter Try.func9, Try.ntmps9
    go_wp2
    go_ret
    refine ⟨ret_int ?_, rfl⟩
    omega
  · go_enter Try.func9, Try.ntmps9
    go_wp2
    go_ret
    refine ⟨ret_int ?_, rfl⟩
    omega


theorem free_at {w : World} {b : Nat} {c : Array Value} {t : TypeId} (h : w.heap[b]? = some (.cells c t (0, 0))) (o : Nat) : w.frozen? ⟨b, o, none⟩ = false := by simp [World.frozen?, h]

theorem row_setCell {w : World} {b : Nat} {c : Array Value} {t : TypeId} (h : w.heap[b]? = some (.cells c t (0, 0))) (o : Nat) (u : Value) :
    (w.setCell ⟨b, o, none⟩ u).heap[b]? = some (.cells (c.setIfInBounds o u) t (0, 0)) := heap_setCell_same w b o c t u h

theorem cell_lt {w : World} {a : Addr} {v : Value} (h : w.cell? a = some v) : a.block < w.heap.size := by
  rcases Nat.lt_or_ge a.block w.heap.size with h' | h'
  · exact h'
  · simp [World.cell?, Array.getElem?_eq_none h'] at h

theorem cell_old {w w' : World} {a : Addr} {v : Value} (hb : Below w.heap.size w w') (h : w.cell? a = some v) : w'.cell? a = some v :=
  (hb.cell (cell_lt h)).trans h

structure Fr (x y : Option Nat) (w w' : World) : Prop where
  os : w'.os = w.os
  tape : w'.tape = w.tape
  output : w'.output = w.output
  size : w.heap.size ≤ w'.heap.size
  block : ∀ k, k < w.heap.size → some k ≠ x → some k ≠ y → w'.heap[k]? = w.heap[k]?

theorem Fr.refl (x y : Option Nat) (w : World) : Fr x y w w := ⟨rfl, rfl, rfl, Nat.le_refl _, fun _ _ _ _ => rfl⟩

theorem Fr.trans {x y y' : Option Nat} {a b c : World} (h : Fr x y a b) (k : Fr x y' b c) (hy : y' = y ∨ ∀ j, y' = some j → a.heap.size ≤ j) : Fr x y a c := by
  refine ⟨k.os.trans h.os, k.tape.trans h.tape, k.output.trans h.output, Nat.le_trans h.size k.size, fun j hj hx hy2 => ?_⟩
  rw [k.block j (Nat.lt_of_lt_of_le hj h.size) hx ?_]
  · exact h.block j hj hx hy2
  · rcases hy with rfl | hy
    · exact hy2
    · intro e
      have := hy j e.symm
      omega

theorem Fr.ofBelow {x y : Option Nat} {w w' : World} (h : Below w.heap.size w w') : Fr x y w w' := ⟨h.os, h.tape, h.output, h.size, fun k hk _ _ => h.block k hk⟩

theorem Fr.ofGrown {x y : Option Nat} {w w' : World} (h : w.grownBy w' y) : Fr x y w w' := ⟨h.os, h.tape, h.output, h.size, fun k hk _ hy => h.block k hk hy⟩

theorem Fr.ofGrown1 {x y : Option Nat} {w w' : World} (h : w.grownBy w' x) : Fr x y w w' := ⟨h.os, h.tape, h.output, h.size, fun k hk hx _ => h.block k hk hx⟩

theorem Fr.below {x y : Option Nat} {w w' : World} (h : Fr x y w w') {B : Nat} (hB : B ≤ w.heap.size) (hx : ∀ j, x = some j → B ≤ j) (hy : ∀ j, y = some j → B ≤ j) : Below B w w' :=
  ⟨h.os, h.tape, h.output, h.size, fun k hk => h.block k (by omega) (fun e => by have := hx k e.symm; omega) (fun e => by have := hy k e.symm; omega)⟩

theorem Fr.setCell {x y : Option Nat} {w w' : World} (h : Fr x y w w') (b o : Nat) (u : Value) (hb : some b = x ∨ some b = y ∨ w.heap.size ≤ b) : Fr x y w (w'.setCell ⟨b, o, none⟩ u) := by
  refine ⟨h.os, h.tape, h.output, by simpa using h.size, fun k hk hx hy => ?_⟩
  rw [Below.heap_setCell _ _ _ _ ?_]
  · exact h.block k hk hx hy
  · rintro rfl
    rcases hb with e | e | e
    · exact hx e
    · exact hy e
    · omega

theorem Fr.drew {x y : Option Nat} {w w' : World} (h : Fr x y w w') : Fr x y w w'.drew := ⟨h.os, h.tape, h.output, h.size, h.block⟩

theorem Fr.drewN {x y : Option Nat} {w w' : World} (h : Fr x y w w') (k : Nat) : Fr x y w (w'.drewN k) := ⟨h.os, h.tape, h.output, h.size, h.block⟩

theorem owns_lt {w : World} {B t : Nat} {v : Value} {n : Nat} {xs : List Value} (h : w.ownsRow B t 1 v n xs) : ∀ j, v.ownBlock = some j → B ≤ j ∧ j < w.heap.size := fun j hj => h.lt j hj

theorem blocks_ne {w : World} {a b : Nat} {c d : Array Value} {t u : TypeId} (h : w.heap[a]? = some (.cells c t (0, 0))) (h2 : w.heap[b]? = some (.cells d u (0, 0))) (hn : t ≠ u) : a ≠ b := by
  rintro rfl
  rw [h] at h2
  simp at h2
  exact hn h2.2

theorem below_setRow {B g : Nat} {w w' : World} (h : Below B w w') (hg : B ≤ g) (cs : Array Value) : Below B w (w'.setRow g cs) :=
  ⟨h.os, h.tape, h.output, by simpa [World.setRow] using h.size, fun k hk => by rw [setRow_other _ _ _ _ (by omega)]; exact h.block k hk⟩

theorem wpList_load_rowG {P : Program} {ops : Array Oper} {rest : List Oper} {o : Oper} {a : Act} {w : World} {Q : Exit → Act → World → Prop} (hw : Region.wanted o (yielded ops a.tmps) = true) (ty : TypeId) (x : Operand) (ho : o.op = .load ty x)
    (g : Nat) (hx : a.eval x = .pointer (some ⟨g, 0, none⟩)) (t : TypeId) (cs : Array Value) (fr : Nat × Nat) (d : TypeDesc) (hg : w.heap[g]? = some (.cells cs t fr))
    (hu : P.underlying ty = some d) (hd : (match d with | .struct _ | .array _ _ => true | _ => false) = true) (hi : (P.info? ty).map (·.size) = some cs.size)
    (h : wpList P ops Q rest (a.put o.dst (.agg cs)) w) : wpList P ops Q (o :: rest) a w :=
  wpList_step fun K hK => by
    rw [if_pos hw]
    exact wp_load_row ty x ho g hx t cs fr d hg hu hd hi (hK _ _ h)

theorem below_drewN (w : World) (k : Nat) : Below w.heap.size w (w.drewN k) := ⟨rfl, rfl, rfl, Nat.le_refl _, fun _ _ => rfl⟩


/-- A guard: the operation at hand is this one. -/
theorem at_op {P : Program} {ops : Array Oper} {Q : Exit → Act → World → Prop} {rest : List Oper} {a : Act} {w : World} (op : Op) {dst : Option Tmp} {type : TypeId} {pos : String} {after : Array Edge} {guard : Option (Nat × Bool)}
    (h : wpList P ops Q ({ dst := dst, op := op, type := type, pos := pos, after := after, guard := guard } :: rest) a w) : wpList P ops Q ({ dst := dst, op := op, type := type, pos := pos, after := after, guard := guard } :: rest) a w := h

end Go.Proofs.Ytcogeebfldlpoaa
