/-
  IdBack: its IDs, and the law's first statement, which draws its order.
-/
import Derived.Test.YtbjgldpnichoeaaDoorSd
import Derived.Test.YtbjgldpnichoeaaDoorPb
import Derived.Test.YtbjgldpnichoeaaDoorRg
set_option linter.unusedSimpArgs false
set_option linter.unusedVariables false
namespace Go.Proofs.YtbjgldpnichoeaaDoor
open Go.RowKit Go.Sort

/-- One of the three names. -/
def nm (k : Nat) : ByteArray := if k = 0 then ⟨#[97]⟩ else if k = 1 then ⟨#[97, 98]⟩ else ⟨#[98, 49]⟩

theorem names_cells (w : World) (k : Nat) (hk : k < 3) : (w.alloc (.cells #[.string ⟨#[97]⟩, .string ⟨#[97, 98]⟩, .string ⟨#[98, 49]⟩] 9)).cell? ⟨w.heap.size, k, none⟩ = some (.string (nm k)) := by
  rw [cell_of_row _ _ k _ 9 (0, 0) (heap_alloc_new w _)]
  match k, hk with
  | 0, _ => rfl
  | 1, _ => rfl
  | 2, _ => rfl

theorem names_two (w : World) (k : Nat) (hk : k < 3) : ((w.alloc (.cells #[.string ⟨#[97]⟩, .string ⟨#[97, 98]⟩, .string ⟨#[98, 49]⟩] 9)).alloc (.cells #[.string ⟨#[97]⟩, .string ⟨#[97, 98]⟩, .string ⟨#[98, 49]⟩] 9)).cell? ⟨w.heap.size, k, none⟩ = some (.string (nm k)) :=
  cell_old ((Below.refl _ _).alloc (Nat.le_refl _) _) (names_cells w k hk)

theorem names_snd (w : World) (k : Nat) (hk : k < 3) : ((w.alloc (.cells #[.string ⟨#[97]⟩, .string ⟨#[97, 98]⟩, .string ⟨#[98, 49]⟩] 9)).alloc (.cells #[.string ⟨#[97]⟩, .string ⟨#[97, 98]⟩, .string ⟨#[98, 49]⟩] 9)).cell? ⟨w.heap.size + 1, k, none⟩ = some (.string (nm k)) := by
  have h := names_cells (w.alloc (.cells #[.string ⟨#[97]⟩, .string ⟨#[97, 98]⟩, .string ⟨#[98, 49]⟩] 9)) k hk
  simpa using h

def nmL (k : Nat) : List UInt8 := if k = 0 then [97] else if k = 1 then [97, 98] else [98, 49]

theorem nm_list (k : Nat) (hk : k < 3) : (nm k).data.toList = nmL k := by
  match k, hk with
  | 0, _ => rfl
  | 1, _ => rfl
  | 2, _ => rfl

theorem names_back : ∀ k : Fin 40, ∀ p : Fin 3, Lib.atoiAll (cutD (nmL p.val ++ [46] ++ Lib.decDigits (1 + k.val))) = .ok ((1 + k.val : Nat) : Int) ∧ cutP (nmL p.val ++ [46] ++ Lib.decDigits (1 + k.val)) = nmL p.val ∧ rightL (nmL p.val) = true ∧ nmL p.val ++ [46] ++ Lib.decDigits (1 + k.val) ≠ [45] ∧ (nmL p.val ++ [46] ++ Lib.decDigits (1 + k.val)).length ≤ 8 := by decide +kernel

/-- The text of one of the IDs. -/
def idB (a i : Nat) : ByteArray := nm a ++ ⟨#[46]⟩ ++ ⟨(Lib.decDigits (1 + i)).toArray⟩

theorem id_list (a i : Nat) (ha : a < 3) : (idB a i).data.toList = nmL a ++ [46] ++ Lib.decDigits (1 + i) := by
  unfold idB
  rw [ByteArray.data_append, ByteArray.data_append, Array.toList_append, Array.toList_append, nm_list a ha]

theorem id_inj {a i b j : Nat} (ha : a < 3) (hi : i < 40) (hb : b < 3) (hj : j < 40) (h : idB a i = idB b j) : nm a = nm b ∧ i = j := by
  have h1 := names_back ⟨i, hi⟩ ⟨a, ha⟩
  have h2 := names_back ⟨j, hj⟩ ⟨b, hb⟩
  have e := congrArg (fun s : ByteArray => s.data.toList) h
  simp only [id_list a i ha, id_list b j hb] at e
  simp only at h1 h2
  rw [e] at h1
  have e1 := h1.1.symm.trans h2.1
  have e2 := h1.2.1.symm.trans h2.2.1
  refine ⟨?_, ?_⟩
  · apply ByteArray.ext
    apply Array.toList_inj.1
    rw [nm_list a ha, nm_list b hb]
    exact e2
  · injection e1 with e1
    omega

theorem nm_size (k : Nat) (hk : k < 3) : (nm k).size ≤ 2 ∧ 1 ≤ (nm k).size := by
  match k, hk with
  | 0, _ => decide
  | 1, _ => decide
  | 2, _ => decide

theorem print_id (a i : Nat) (ha : a < 3) (hi : i < 40) (p q : ByteArray) (x : Int) (hp : p = nm a) (hq : q = idB a i) (hx : x = 1 + (i : Int)) :
    Hid (∀ w, Calls Tryd.prog 9 #[.agg #[.string p, .int .i64 x]] w fun e w' => e = .returned (.string q) ∧ Below w.heap.size w w') := by
  subst hp hq hx
  have := nm_size a ha
  have h := print_lit (nm a) (1 + i) (by omega) _ rfl (by omega) (by rintro ⟨_, e⟩; omega)
  intro w
  have h' := h w
  rw [show ((1 + i : Nat) : Int) = 1 + (i : Int) by omega] at h'
  exact h'

theorem parse_id (a i : Nat) (ha : a < 3) (hi : i < 40) (p q : ByteArray) (x : Int) (hp : p = nm a) (hq : q = idB a i) (hx : x = 1 + (i : Int)) :
    Hid (∀ w, Env w → Calls Tryd.prog 11 #[.string q] w fun e w' => e = .returned (.tuple #[.agg #[.string p, .int .i64 x], .bool true]) ∧ Below w.heap.size w w') := by
  subst hp hq hx
  intro w hE
  obtain ⟨h1, h2, h3, h4, h5⟩ := names_back ⟨i, hi⟩ ⟨a, ha⟩
  simp only at h1 h2 h3 h4 h5
  have hl := id_list a i ha
  have hsz : (idB a i).size ≤ 8 := by
    have : (idB a i).data.toList.length = (idB a i).size := by simp
    rw [hl] at this
    omega
  have h := parse_in w (idB a i) (by omega) hE (by rw [hl]; exact h4) (1 + i) (by rw [hl]; exact h1) ⟨by omega, by omega⟩ (by rw [hl, h2]; exact h3) true (by rw [hl, h2]; simp)
  rw [if_pos rfl, hl, h2, show ((1 + i : Nat) : Int) = 1 + (i : Int) by omega, ← nm_list a ha] at h
  exact h

theorem four_old {w w' : World} {a b c d : Addr} {x y z u : Value} (hb : Below w.heap.size w w') (h : w.cell? a = some x ∧ w.cell? b = some y ∧ w.cell? c = some z ∧ w.cell? d = some u) : w'.cell? a = some x ∧ w'.cell? b = some y ∧ w'.cell? c = some z ∧ w'.cell? d = some u :=
  ⟨cell_old hb h.1, cell_old hb h.2.1, cell_old hb h.2.2.1, cell_old hb h.2.2.2⟩

theorem undrew {w w' : World} (h : Below w.drew.heap.size w.drew w') : Below w.heap.size w w' := ⟨h.os, h.tape, h.output, h.size, h.block⟩

def lessB (p q : ByteArray) (m n : Int) : Bool := if p = q then decide (m < n) else decide (p.data.toList < q.data.toList)

theorem less_hid (p q : ByteArray) (m n : Int) (b : Bool) (hb : b = lessB p q m n) :
    Hid (∀ w, Calls Tryd.prog 12 #[.agg #[.string p, .int .i64 m], .agg #[.string q, .int .i64 n]] w fun e w' => e = .returned (.bool b) ∧ Below w.heap.size w w') := by
  subst hb
  intro w
  unfold lessB
  by_cases h : p = q
  · subst h
    rw [if_pos rfl]
    exact less_one p m n w
  · rw [if_neg h]
    exact less_two p q m n w h

theorem less_three (p q : ByteArray) (m n : Int) : (lessB p q m n = true ∧ lessB q p n m = false ∧ ¬ (p = q ∧ m = n)) ∨ (lessB p q m n = false ∧ lessB q p n m = true ∧ ¬ (p = q ∧ m = n)) ∨ (lessB p q m n = false ∧ lessB q p n m = false ∧ p = q ∧ m = n) := by
  unfold lessB
  by_cases h : p = q
  · subst h
    rw [if_pos rfl, if_pos rfl]
    simp only [decide_eq_true_eq, decide_eq_false_iff_not, true_and]
    omega
  · rw [if_neg h, if_neg (fun e => h e.symm)]
    have hne : p.data.toList ≠ q.data.toList := fun e => h (ByteArray.ext (Array.toList_inj.1 e))
    simp only [decide_eq_true_eq, decide_eq_false_iff_not, h, false_and, not_false_eq_true, and_true, and_false, or_false]
    rcases txt_tri p.data.toList q.data.toList with h1 | h1 | h1
    · exact .inl ⟨h1, txt_asymm h1⟩
    · exact absurd h1 hne
    · exact .inr ⟨txt_asymm h1, h1⟩

section
variable {Q : Exit → Act → World → Prop} {o : Oper} {A : Act} {w : World} {f : Nat → Option Value} {k : Nat} {J : (Nat → Option Value) → World → Prop}

theorem st_move (x : Operand) (u : Value) (hop : o.op = .move x) (hx : A.eval x = u) (hJ : J (Rg.upd f k u) w) :
    o.wp Tryd.prog A w (fun a' w' => ∃ v, a' = A.put o.dst v ∧ J (Rg.upd f k v) w') Q := by
  refine Rg.wp_value (v := u) ?_ hJ
  simp [execOp, hop, hx]

theorem name6 : (Tryd.f6.name == "runtime.NumGoroutine") = false := by kernel_rfl
theorem body6 : Tryd.f6.body.isNone = false := by kernel_rfl
theorem run_within (args : Array Value) (w : World) : (callFunc 6 args).run Tryd.prog w = .ok (.enter 6 args) w := by
  unfold callFunc
  simp only [Sem.run_bind, run_program, Result.andThen_ok, Tryd.func6, name6, body6, Bool.false_eq_true, if_false, Sem.run_pure]

theorem st_within (x y : Operand) (ats : Array TypeId) (vx vy u : Value) (hop : o.op = .call { callee := .value (.func 6), args := #[x, y], argTypes := ats }) (hx : A.eval x = vx) (hy : A.eval y = vy)
    (hc : Calls Tryd.prog 6 #[vx, vy] w fun e w' => e = .returned u ∧ w' = w) (hJ : J (Rg.upd f k u) w) :
    o.wp Tryd.prog A w (fun a' w' => ∃ v, a' = A.put o.dst v ∧ J (Rg.upd f k v) w') Q := by
  refine Rg.wp_call (g := 6) (args := #[vx, vy]) ?_ hc ?_
  · obtain ⟨dst, op, ty, pos, after, guard⟩ := o
    simp only at hop
    subst hop
    rw [execOp_call_go]
    have hargs : (#[] ++ #[x, y].map A.eval ++ #[]) = #[vx, vy] := by simp only [List.map_toArray, List.map_cons, List.map_nil, hx, hy]; rfl
    rw [hargs, run_within]
  · rintro e w' ⟨rfl, rfl⟩
    exact ⟨u, rfl, hJ⟩

theorem st_quo (x y : Operand) (n : Int) (hop : o.op = .binOp .quo 3 x y 3) (hx : A.eval x = .int .i64 n) (hy : A.eval y = .int .i64 3) (hJ : J (Rg.upd f k (.int .i64 (IntKind.i64.wrap (n.tdiv 3)))) w) :
    o.wp Tryd.prog A w (fun a' w' => ∃ v, a' = A.put o.dst v ∧ J (Rg.upd f k v) w') Q := by
  refine Rg.wp_value (v := .int .i64 (IntKind.i64.wrap (n.tdiv 3))) ?_ hJ
  simp only [execOp, hop, hx, hy]
  simp [go_sem]

theorem st_add (x y : Operand) (n : Int) (hop : o.op = .binOp .add 3 x y 3) (hx : A.eval x = .int .i64 1) (hy : A.eval y = .int .i64 n) (hn : IntKind.i64.wrap (1 + n) = 1 + n) (hJ : J (Rg.upd f k (.int .i64 (1 + n))) w) :
    o.wp Tryd.prog A w (fun a' w' => ∃ v, a' = A.put o.dst v ∧ J (Rg.upd f k v) w') Q := by
  refine Rg.wp_value (v := .int .i64 (1 + n)) ?_ hJ
  simp only [execOp, hop, hx, hy]
  simp [go_sem, hn]

theorem st_build (x y : Operand) (p : ByteArray) (z : Int) (hop : o.op = .build 27 #[(0, x), (1, y)]) (hx : A.eval x = .string p) (hy : A.eval y = .int .i64 z) (hJ : J (Rg.upd f k (.agg #[.string p, .int .i64 z])) w) :
    o.wp Tryd.prog A w (fun a' w' => ∃ v, a' = A.put o.dst v ∧ J (Rg.upd f k v) w') Q := by
  refine Rg.wp_value (v := .agg #[.string p, .int .i64 z]) ?_ hJ
  generalize A.eval = ρ at hx hy ⊢
  simp [execOp, hop, hx, hy, go_sem]

theorem st_row (hop : o.op = .buildSlice 30 3 #[(0, .const (.string ⟨#[97]⟩)), (1, .const (.string ⟨#[97, 98]⟩)), (2, .const (.string ⟨#[98, 49]⟩))]) (hJ : J (Rg.upd f k (.slice (some ⟨w.heap.size, 0, none⟩) 3 3)) (w.alloc (.cells #[.string ⟨#[97]⟩, .string ⟨#[97, 98]⟩, .string ⟨#[98, 49]⟩] 9))) :
    o.wp Tryd.prog A w (fun a' w' => ∃ v, a' = A.put o.dst v ∧ J (Rg.upd f k v) w') Q := by
  refine Rg.wp_value (v := .slice (some ⟨w.heap.size, 0, none⟩) 3 3) ?_ hJ
  simp only [execOp, hop]
  simp [go_sem]

theorem st_index (x y : Operand) (g i n c : Nat) (hop : o.op = .indexAddr 30 x y) (hx : A.eval x = .slice (some ⟨g, 0, none⟩) n c) (hy : A.eval y = .int .i64 (i : Int)) (hi : i < n) (hJ : J (Rg.upd f k (.pointer (some ⟨g, i, none⟩))) w) :
    o.wp Tryd.prog A w (fun a' w' => ∃ v, a' = A.put o.dst v ∧ J (Rg.upd f k v) w') Q := by
  refine Rg.wp_value (v := .pointer (some ⟨g, i, none⟩)) ?_ hJ
  have h1 : (i : Int) < (n : Int) := by omega
  simp only [execOp, hop, hx, hy]
  simp [go_sem, h1]

theorem st_load (x : Operand) (a : Addr) (u : Value) (hop : o.op = .load 9 x) (hx : A.eval x = .pointer (some a)) (hc : w.cell? a = some u) (hJ : J (Rg.upd f k u) w) :
    o.wp Tryd.prog A w (fun a' w' => ∃ v, a' = A.put o.dst v ∧ J (Rg.upd f k v) w') Q := by
  refine Rg.wp_value (v := u) ?_ hJ
  simp only [execOp, hop, hx]
  simp [go_sem, hc]

theorem st_alloc (hop : o.op = .alloc 27) (hJ : J (Rg.upd f k (.pointer (some ⟨w.heap.size, 0, none⟩))) (w.alloc (.cells #[.string ⟨#[]⟩, .int .i64 0] 27))) :
    o.wp Tryd.prog A w (fun a' w' => ∃ v, a' = A.put o.dst v ∧ J (Rg.upd f k v) w') Q := by
  refine Rg.wp_value (v := .pointer (some ⟨w.heap.size, 0, none⟩)) ?_ hJ
  simp only [execOp, hop]
  simp [go_sem]

theorem st_store (x y : Operand) (g : Nat) (cs old : Array Value) (hop : o.op = .store 27 x y) (hx : A.eval x = .pointer (some ⟨g, 0, none⟩)) (hy : A.eval y = .agg cs) (hg : w.heap[g]? = some (.cells old 27 (0, 0))) (h2 : cs.size = 2) (h3 : old.size = 2) (h1 : cs.all (·.oneCell') = true) (hJ : J (Rg.upd f k undef) (w.setRow g cs)) :
    o.wp Tryd.prog A w (fun a' w' => ∃ v, a' = A.put o.dst v ∧ J (Rg.upd f k v) w') Q :=
  wp_store_row 27 x y hop g cs hx hy 27 old hg (by rw [h2]; exact size27) (by rw [h2, h3]) h1 ⟨undef, rfl, hJ⟩

end

abbrev three : Array Value := #[.string ⟨#[97]⟩, .string ⟨#[97, 98]⟩, .string ⟨#[98, 49]⟩]

/-- What each of the region's pure operations yields. -/
def valOf (n m : Int) (a i b j : Nat) (p1 p2 : ByteArray) : Nat → Option Value
  | 1 => some (.int .i64 n)
  | 2 => some (.int .i64 a)
  | 4 => some (.string p1)
  | 5 => some (.int .i64 n)
  | 6 => some (.int .i64 (IntKind.i64.wrap (n.tdiv 3)))
  | 7 => some (.int .i64 i)
  | 8 => some (.int .i64 (1 + (i : Int)))
  | 9 => some (.agg #[.string p1, .int .i64 (1 + (i : Int))])
  | 11 => some (.int .i64 m)
  | 12 => some (.int .i64 b)
  | 14 => some (.string p2)
  | 15 => some (.int .i64 m)
  | 16 => some (.int .i64 (IntKind.i64.wrap (m.tdiv 3)))
  | 17 => some (.int .i64 j)
  | 18 => some (.int .i64 (1 + (j : Int)))
  | 19 => some (.agg #[.string p2, .int .i64 (1 + (j : Int))])
  | _ => none

def rowOf (done : Bool) (p : ByteArray) (x : Int) : Array Value := if done then #[.string p, .int .i64 x] else #[.string ⟨#[]⟩, .int .i64 0]

/-- The region's invariant. -/
structure J1 (W : World) (n m : Int) (a i b j : Nat) (p1 p2 : ByteArray) (f : Nat → Option Value) (w : World) : Prop where
  old : Below W.heap.size W w
  val : ∀ k v u, f k = some v → valOf n m a i b j p1 p2 k = some u → v = u
  s0 : ∀ v, f 0 = some v → ∃ g, v = .slice (some ⟨g, 0, none⟩) 3 3 ∧ w.heap[g]? = some (.cells three 9 (0, 0))
  s1 : ∀ v, f 10 = some v → ∃ g, v = .slice (some ⟨g, 0, none⟩) 3 3 ∧ w.heap[g]? = some (.cells three 9 (0, 0))
  q0 : ∀ v, f 3 = some v → ∃ g, v = .pointer (some ⟨g, a, none⟩) ∧ w.heap[g]? = some (.cells three 9 (0, 0))
  q1 : ∀ v, f 13 = some v → ∃ g, v = .pointer (some ⟨g, b, none⟩) ∧ w.heap[g]? = some (.cells three 9 (0, 0))
  a0 : ∀ v, f 20 = some v → ∃ g, v = .pointer (some ⟨g, 0, none⟩) ∧ W.heap.size ≤ g ∧ w.heap[g]? = some (.cells (rowOf (f 22).isSome p1 (1 + (i : Int))) 27 (0, 0))
  a1 : ∀ v, f 21 = some v → ∃ g, v = .pointer (some ⟨g, 0, none⟩) ∧ W.heap.size ≤ g ∧ w.heap[g]? = some (.cells (rowOf (f 23).isSome p2 (1 + (j : Int))) 27 (0, 0))
  ne : ∀ g g', f 20 = some (.pointer (some ⟨g, 0, none⟩)) → f 21 = some (.pointer (some ⟨g', 0, none⟩)) → g ≠ g'
  d22 : (f 22).isSome = true → (f 20).isSome = true
  d23 : (f 23).isSome = true → (f 21).isSome = true

section
variable {W : World} {n m : Int} {a i b j : Nat} {p1 p2 : ByteArray} {f : Nat → Option Value} {w w' : World}

theorem J1.grow (h : J1 W n m a i b j p1 p2 f w) (hb : Below w.heap.size w w') : J1 W n m a i b j p1 p2 f w' where
  old := below_then h.old hb
  val := h.val
  s0 := fun v hv => let ⟨g, e, hg⟩ := h.s0 v hv; ⟨g, e, block_old hb hg⟩
  s1 := fun v hv => let ⟨g, e, hg⟩ := h.s1 v hv; ⟨g, e, block_old hb hg⟩
  q0 := fun v hv => let ⟨g, e, hg⟩ := h.q0 v hv; ⟨g, e, block_old hb hg⟩
  q1 := fun v hv => let ⟨g, e, hg⟩ := h.q1 v hv; ⟨g, e, block_old hb hg⟩
  a0 := fun v hv => let ⟨g, e, hg, hh⟩ := h.a0 v hv; ⟨g, e, hg, block_old hb hh⟩
  a1 := fun v hv => let ⟨g, e, hg, hh⟩ := h.a1 v hv; ⟨g, e, hg, block_old hb hh⟩
  ne := h.ne
  d22 := h.d22
  d23 := h.d23

/-- One more has come up: not a store. -/
theorem J1.next (h : J1 W n m a i b j p1 p2 f w) (k : Nat) (v : Value) (h22 : k ≠ 22) (h23 : k ≠ 23) (hv : ∀ u, valOf n m a i b j p1 p2 k = some u → v = u)
    (hs : k = 0 ∨ k = 10 → ∃ g, v = .slice (some ⟨g, 0, none⟩) 3 3 ∧ w.heap[g]? = some (.cells three 9 (0, 0)))
    (hq0 : k = 3 → ∃ g, v = .pointer (some ⟨g, a, none⟩) ∧ w.heap[g]? = some (.cells three 9 (0, 0)))
    (hq1 : k = 13 → ∃ g, v = .pointer (some ⟨g, b, none⟩) ∧ w.heap[g]? = some (.cells three 9 (0, 0)))
    (ha0 : k = 20 → ∃ g, v = .pointer (some ⟨g, 0, none⟩) ∧ W.heap.size ≤ g ∧ w.heap[g]? = some (.cells (rowOf (f 22).isSome p1 (1 + (i : Int))) 27 (0, 0)) ∧ ∀ g', f 21 = some (.pointer (some ⟨g', 0, none⟩)) → g ≠ g')
    (ha1 : k = 21 → ∃ g, v = .pointer (some ⟨g, 0, none⟩) ∧ W.heap.size ≤ g ∧ w.heap[g]? = some (.cells (rowOf (f 23).isSome p2 (1 + (j : Int))) 27 (0, 0)) ∧ ∀ g', f 20 = some (.pointer (some ⟨g', 0, none⟩)) → g' ≠ g) :
    J1 W n m a i b j p1 p2 (Rg.upd f k v) w where
  old := h.old
  val := fun l u x hl hx => by
    by_cases e : l = k
    · subst e; rw [Rg.upd_same] at hl; cases hl; exact hv x hx
    · rw [Rg.upd_other _ _ e] at hl; exact h.val l u x hl hx
  s0 := fun u hu => by
    by_cases e : (0 : Nat) = k
    · subst e; rw [Rg.upd_same] at hu; cases hu; exact hs (.inl rfl)
    · rw [Rg.upd_other _ _ e] at hu; exact h.s0 u hu
  s1 := fun u hu => by
    by_cases e : (10 : Nat) = k
    · subst e; rw [Rg.upd_same] at hu; cases hu; exact hs (.inr rfl)
    · rw [Rg.upd_other _ _ e] at hu; exact h.s1 u hu
  q0 := fun u hu => by
    by_cases e : (3 : Nat) = k
    · subst e; rw [Rg.upd_same] at hu; cases hu; exact hq0 rfl
    · rw [Rg.upd_other _ _ e] at hu; exact h.q0 u hu
  q1 := fun u hu => by
    by_cases e : (13 : Nat) = k
    · subst e; rw [Rg.upd_same] at hu; cases hu; exact hq1 rfl
    · rw [Rg.upd_other _ _ e] at hu; exact h.q1 u hu
  a0 := fun u hu => by
    rw [Rg.upd_other _ _ (Ne.symm h22)]
    by_cases e : (20 : Nat) = k
    · subst e; rw [Rg.upd_same] at hu; cases hu; obtain ⟨g, e1, e2, e3, _⟩ := ha0 rfl; exact ⟨g, e1, e2, e3⟩
    · rw [Rg.upd_other _ _ e] at hu; exact h.a0 u hu
  a1 := fun u hu => by
    rw [Rg.upd_other _ _ (Ne.symm h23)]
    by_cases e : (21 : Nat) = k
    · subst e; rw [Rg.upd_same] at hu; cases hu; obtain ⟨g, e1, e2, e3, _⟩ := ha1 rfl; exact ⟨g, e1, e2, e3⟩
    · rw [Rg.upd_other _ _ e] at hu; exact h.a1 u hu
  ne := fun g g' hg hg' => by
    by_cases e : (20 : Nat) = k
    · subst e
      rw [Rg.upd_same] at hg; cases hg
      rw [Rg.upd_other _ _ (by decide)] at hg'
      obtain ⟨g2, e1, _, _, e4⟩ := ha0 rfl
      cases e1
      exact e4 g' hg'
    · rw [Rg.upd_other _ _ e] at hg
      by_cases e' : (21 : Nat) = k
      · subst e'
        rw [Rg.upd_same] at hg'; cases hg'
        obtain ⟨g2, e1, _, _, e4⟩ := ha1 rfl
        cases e1
        exact e4 g hg
      · rw [Rg.upd_other _ _ e'] at hg'
        exact h.ne g g' hg hg'
  d22 := fun hh => by
    rw [Rg.upd_other _ _ (Ne.symm h22)] at hh
    by_cases e : (20 : Nat) = k
    · subst e; rw [Rg.upd_same]; rfl
    · rw [Rg.upd_other _ _ e]; exact h.d22 hh
  d23 := fun hh => by
    rw [Rg.upd_other _ _ (Ne.symm h23)] at hh
    by_cases e : (21 : Nat) = k
    · subst e; rw [Rg.upd_same]; rfl
    · rw [Rg.upd_other _ _ e]; exact h.d23 hh

/-- A pure one. -/
theorem J1.pure (h : J1 W n m a i b j p1 p2 f w) (k : Nat) (v : Value) (hk : valOf n m a i b j p1 p2 k = some v) : J1 W n m a i b j p1 p2 (Rg.upd f k v) w := by
  have hne : ∀ l, valOf n m a i b j p1 p2 l = none → k ≠ l := fun l hl e => by subst e; rw [hl] at hk; cases hk
  exact h.next k v (hne 22 rfl) (hne 23 rfl) (fun u hu => by rw [hk] at hu; cases hu; rfl) (fun e => by rcases e with e | e; exact absurd e (hne 0 rfl); exact absurd e (hne 10 rfl))
    (fun e => absurd e (hne 3 rfl)) (fun e => absurd e (hne 13 rfl)) (fun e => absurd e (hne 20 rfl)) (fun e => absurd e (hne 21 rfl))

theorem J1.at (h : J1 W n m a i b j p1 p2 f w) {k : Nat} {u : Value} (hf : (f k).isSome = true) (hk : valOf n m a i b j p1 p2 k = some u) : f k = some u := by
  obtain ⟨v, hv⟩ := Option.isSome_iff_exists.1 hf
  rw [hv, h.val k v u hv hk]

theorem J1.start : J1 W n m a i b j p1 p2 (fun _ => none) W.drew where
  old := ⟨rfl, rfl, rfl, Nat.le_refl _, fun _ _ => rfl⟩
  val := fun _ _ _ h => by cases h
  s0 := fun _ h => by cases h
  s1 := fun _ h => by cases h
  q0 := fun _ h => by cases h
  q1 := fun _ h => by cases h
  a0 := fun _ h => by cases h
  a1 := fun _ h => by cases h
  ne := fun _ _ h => by cases h
  d22 := fun h => by cases h
  d23 := fun h => by cases h

theorem J1.store0 (h : J1 W n m a i b j p1 p2 f w) {g : Nat} (hf : f 20 = some (.pointer (some ⟨g, 0, none⟩))) (hw : W.heap.size ≤ g) {old : Array Value} (hg : w.heap[g]? = some (.cells old 27 (0, 0))) (u : Value) :
    J1 W n m a i b j p1 p2 (Rg.upd f 22 u) (w.setRow g #[.string p1, .int .i64 (1 + (i : Int))]) where
  old := below_setRow h.old hw _
  val := fun l v x hl hx => by
    by_cases e : l = 22
    · subst e; cases hx
    · rw [Rg.upd_other _ _ e] at hl; exact h.val l v x hl hx
  s0 := fun v hv => by
    rw [Rg.upd_other _ _ (by decide)] at hv
    obtain ⟨g2, e, h2⟩ := h.s0 v hv
    exact ⟨g2, e, by rw [setRow_other _ _ _ _ (blocks_ne h2 hg (by decide))]; exact h2⟩
  s1 := fun v hv => by
    rw [Rg.upd_other _ _ (by decide)] at hv
    obtain ⟨g2, e, h2⟩ := h.s1 v hv
    exact ⟨g2, e, by rw [setRow_other _ _ _ _ (blocks_ne h2 hg (by decide))]; exact h2⟩
  q0 := fun v hv => by
    rw [Rg.upd_other _ _ (by decide)] at hv
    obtain ⟨g2, e, h2⟩ := h.q0 v hv
    exact ⟨g2, e, by rw [setRow_other _ _ _ _ (blocks_ne h2 hg (by decide))]; exact h2⟩
  q1 := fun v hv => by
    rw [Rg.upd_other _ _ (by decide)] at hv
    obtain ⟨g2, e, h2⟩ := h.q1 v hv
    exact ⟨g2, e, by rw [setRow_other _ _ _ _ (blocks_ne h2 hg (by decide))]; exact h2⟩
  a0 := fun v hv => by
    rw [Rg.upd_other _ _ (by decide), hf] at hv
    cases hv
    exact ⟨g, rfl, hw, by rw [Rg.upd_same]; exact setRow_heap _ _ _ _ _ _ hg⟩
  a1 := fun v hv => by
    rw [Rg.upd_other _ _ (by decide)] at hv ⊢
    obtain ⟨g2, rfl, h1, h2⟩ := h.a1 v hv
    exact ⟨g2, rfl, h1, by rw [setRow_other _ _ _ _ (Ne.symm (h.ne g g2 hf hv))]; exact h2⟩
  ne := fun g g' h1 h2 => by
    rw [Rg.upd_other _ _ (by decide)] at h1 h2
    exact h.ne g g' h1 h2
  d22 := fun _ => by rw [Rg.upd_other _ _ (by decide), hf]; rfl
  d23 := fun hh => by
    rw [Rg.upd_other _ _ (by decide)] at hh ⊢
    exact h.d23 hh

theorem J1.store1 (h : J1 W n m a i b j p1 p2 f w) {g : Nat} (hf : f 21 = some (.pointer (some ⟨g, 0, none⟩))) (hw : W.heap.size ≤ g) {old : Array Value} (hg : w.heap[g]? = some (.cells old 27 (0, 0))) (u : Value) :
    J1 W n m a i b j p1 p2 (Rg.upd f 23 u) (w.setRow g #[.string p2, .int .i64 (1 + (j : Int))]) where
  old := below_setRow h.old hw _
  val := fun l v x hl hx => by
    by_cases e : l = 23
    · subst e; cases hx
    · rw [Rg.upd_other _ _ e] at hl; exact h.val l v x hl hx
  s0 := fun v hv => by
    rw [Rg.upd_other _ _ (by decide)] at hv
    obtain ⟨g2, e, h2⟩ := h.s0 v hv
    exact ⟨g2, e, by rw [setRow_other _ _ _ _ (blocks_ne h2 hg (by decide))]; exact h2⟩
  s1 := fun v hv => by
    rw [Rg.upd_other _ _ (by decide)] at hv
    obtain ⟨g2, e, h2⟩ := h.s1 v hv
    exact ⟨g2, e, by rw [setRow_other _ _ _ _ (blocks_ne h2 hg (by decide))]; exact h2⟩
  q0 := fun v hv => by
    rw [Rg.upd_other _ _ (by decide)] at hv
    obtain ⟨g2, e, h2⟩ := h.q0 v hv
    exact ⟨g2, e, by rw [setRow_other _ _ _ _ (blocks_ne h2 hg (by decide))]; exact h2⟩
  q1 := fun v hv => by
    rw [Rg.upd_other _ _ (by decide)] at hv
    obtain ⟨g2, e, h2⟩ := h.q1 v hv
    exact ⟨g2, e, by rw [setRow_other _ _ _ _ (blocks_ne h2 hg (by decide))]; exact h2⟩
  a0 := fun v hv => by
    rw [Rg.upd_other _ _ (by decide)] at hv ⊢
    obtain ⟨g2, rfl, h1, h2⟩ := h.a0 v hv
    exact ⟨g2, rfl, h1, by rw [setRow_other _ _ _ _ (h.ne g2 g hv hf)]; exact h2⟩
  a1 := fun v hv => by
    rw [Rg.upd_other _ _ (by decide), hf] at hv
    cases hv
    exact ⟨g, rfl, hw, by rw [Rg.upd_same]; exact setRow_heap _ _ _ _ _ _ hg⟩
  ne := fun g g' h1 h2 => by
    rw [Rg.upd_other _ _ (by decide)] at h1 h2
    exact h.ne g g' h1 h2
  d22 := fun hh => by
    rw [Rg.upd_other _ _ (by decide)] at hh ⊢
    exact h.d22 hh
  d23 := fun _ => by rw [Rg.upd_other _ _ (by decide), hf]; rfl

theorem three_at {g k : Nat} (h : w.heap[g]? = some (.cells three 9 (0, 0))) (hk : k < 3) : w.cell? ⟨g, k, none⟩ = some (.string (nm k)) := by
  rw [cell_of_row _ _ k _ 9 (0, 0) h]
  match k, hk with
  | 0, _ => rfl
  | 1, _ => rfl
  | 2, _ => rfl

theorem rowOf_size (d : Bool) (p : ByteArray) (x : Int) : (rowOf d p x).size = 2 := by cases d <;> rfl
end

end Go.Proofs.YtbjgldpnichoeaaDoor
