/-
  A region that draws its order: one walk in the order of the text serves every order, over any set of worlds; an operation may leave it by a panic. Nothing of a program.
-/
import Derived.Orders
import Derived.Still
import Derived.WalkKit
set_option linter.unusedVariables false
namespace Go.Rq
open Go

/-- The frame behind those operations that have come up: each one's value in its slot. -/
def fillF (f : Nat → Option Value) : Nat → List Oper → Act → Act
  | _, [], a => a
  | i, o :: r, a => fillF f (i + 1) r (match f i with | some v => a.put o.dst v | none => a)

def upd (f : Nat → Option Value) (i : Nat) (v : Value) : Nat → Option Value := fun j => if j = i then some v else f j

theorem upd_same (f : Nat → Option Value) (i : Nat) (v : Value) : upd f i v i = some v := by simp [upd]
theorem upd_other (f : Nat → Option Value) {i j : Nat} (v : Value) (h : j ≠ i) : upd f i v j = f j := by simp [upd, h]

def Apart (ops : List Oper) : Prop := ops.Pairwise fun x y => ∀ d, x.dst = some d → y.dst ≠ some d

theorem fill_put (f : Nat → Option Value) (v : Value) (x : Option Tmp) : ∀ (r : List Oper) (s : Nat) (a : Act), (∀ o ∈ r, ∀ d, x = some d → o.dst ≠ some d) → (fillF f s r a).put x v = fillF f s r (a.put x v)
  | [], _, _, _ => rfl
  | o :: r, s, a, h => by
    unfold fillF
    rw [fill_put f v x r (s + 1) _ (fun o ho => h o (List.mem_cons_of_mem _ ho))]
    congr 1
    cases f s with
    | none => rfl
    | some u => exact (Act.put_comm a v u (fun d hd => h o (by simp) d hd)).symm

theorem fill_congr {f g : Nat → Option Value} : ∀ (r : List Oper) (s : Nat) (a : Act), (∀ i, s ≤ i → i < s + r.length → f i = g i) → fillF f s r a = fillF g s r a
  | [], _, _, _ => rfl
  | o :: r, s, a, h => by
    unfold fillF
    rw [h s (Nat.le_refl _) (by simp)]
    exact fill_congr r (s + 1) _ (fun i h1 h2 => h i (by omega) (by simp at h2 ⊢; omega))

theorem fill_upd (f : Nat → Option Value) (v : Value) : ∀ (r : List Oper) (s k : Nat) (a : Act) (o : Oper), Apart r → r[k]? = some o → f (s + k) = none → (fillF f s r a).put o.dst v = fillF (upd f (s + k) v) s r a
  | [], _, _, _, _, _, h, _ => by simp at h
  | o0 :: r, s, 0, a, o, hp, h, hf => by
    obtain ⟨hp1, hp2⟩ := List.pairwise_cons.1 hp
    simp at h
    subst h
    unfold fillF
    simp only [Nat.add_zero] at hf ⊢
    rw [hf, upd_same]
    rw [fill_put f v o0.dst r (s + 1) a (fun o ho d hd => hp1 o ho d hd)]
    exact fill_congr r (s + 1) _ (fun i h1 _ => (upd_other f v (by omega)).symm)
  | o0 :: r, s, k + 1, a, o, hp, h, hf => by
    obtain ⟨hp1, hp2⟩ := List.pairwise_cons.1 hp
    unfold fillF
    have e : s + (k + 1) = (s + 1) + k := by omega
    rw [e] at hf ⊢
    rw [upd_other f v (show s ≠ s + 1 + k by omega)]
    exact fill_upd f v r (s + 1) k _ o hp2 (by simpa using h) hf

theorem put_size (a : Act) (x : Option Tmp) (v : Value) : (a.put x v).tmps.size = a.tmps.size := by cases x <;> simp [Act.put]

theorem fill_defers (f : Nat → Option Value) : ∀ (r : List Oper) (s : Nat) (a : Act), (fillF f s r a).defers = a.defers
  | [], _, _ => rfl
  | o :: r, s, a => by
    unfold fillF
    rw [fill_defers f r (s + 1)]
    cases f s with
    | none => rfl
    | some v => cases o.dst <;> simp [Act.put]

theorem fill_size (f : Nat → Option Value) : ∀ (r : List Oper) (s : Nat) (a : Act), (fillF f s r a).tmps.size = a.tmps.size
  | [], _, _ => rfl
  | o :: r, s, a => by
    unfold fillF
    rw [fill_size f r (s + 1)]
    cases f s with
    | none => rfl
    | some v => exact put_size _ _ _

/-- A slot that some operation has filled. -/
theorem fill_eval (f : Nat → Option Value) (r : List Oper) (a : Act) (k : Nat) (o : Oper) (t : Tmp) (v : Value) (hp : Apart r) (h : r[k]? = some o) (hd : o.dst = some t) (hf : f k = some v) (ht : t < a.tmps.size) : (fillF f 0 r a).eval (.tmp t) = v := by
  let g : Nat → Option Value := fun j => if j = k then none else f j
  have hg : upd g k v = f := by
    funext j
    by_cases e : j = k
    · subst e; rw [upd_same, hf]
    · rw [upd_other _ _ e]; simp [g, e]
  have hgk : g (0 + k) = none := by simp [g]
  have := fill_upd g v r 0 k a o hp h hgk
  rw [Nat.zero_add, hg] at this
  rw [← this, hd]
  simp [Act.eval, Act.put, fill_size, ht]

/-- A slot that no operation fills. -/
theorem fill_free (f : Nat → Option Value) (t : Tmp) : ∀ (r : List Oper) (s : Nat) (a : Act), (∀ o ∈ r, o.dst ≠ some t) → (fillF f s r a).eval (.tmp t) = a.eval (.tmp t)
  | [], _, _, _ => rfl
  | o :: r, s, a, h => by
    unfold fillF
    rw [fill_free f t r (s + 1) _ (fun o ho => h o (List.mem_cons_of_mem _ ho))]
    cases f s with
    | none => rfl
    | some v =>
      have := h o (by simp)
      cases hd : o.dst with
      | none => rfl
      | some d =>
        have hne : d ≠ t := fun e => this (by rw [hd, e])
        simp [Act.eval, Act.put, Array.getElem?_setIfInBounds_ne hne]

def apartB (ops : List Oper) : Bool := match ops with
  | [] => true
  | o :: r => (match o.dst with | some d => r.all fun y => decide (y.dst ≠ some d) | none => true) && apartB r

theorem apart_of : ∀ (ops : List Oper), apartB ops = true → Apart ops
  | [], _ => List.Pairwise.nil
  | o :: r, h => by
    unfold apartB at h
    rw [Bool.and_eq_true] at h
    refine List.pairwise_cons.2 ⟨fun y hy d hd => ?_, apart_of r h.2⟩
    have h1 := h.1
    rw [hd] at h1
    simp only [List.all_eq_true, decide_eq_true_eq] at h1
    exact h1 y hy


def ordOK (ops : Array Oper) : Bool := (List.range ops.size).all fun i => match ops[i]? with
  | some o => o.after.toList.all fun e => !Region.binds .any e || decide (e.on < i)
  | none => true

def lookOK (ops : Array Oper) : Bool := (List.range ops.size).all fun i => match ops[i]? with
  | some o => (List.range ops.size).all fun j => match ops[j]? with
    | some oj => (match oj.dst with
      | some d => !(o.looksAt ops).contains d || o.after.toList.any fun e => Region.binds .any e && decide (e.on = j)
      | none => true)
    | none => true
  | none => true

def okB (ops : Array Oper) : Bool := Region.noSelect ops && ordOK ops && lookOK ops && apartB ops.toList

variable {P : Program} {ops : Array Oper} {Q : Exit → Act → World → Prop} {C E : World → Prop} {D : List PanicEntry → World → Prop} {F : Act → Prop}

def upT (P : Program) (C : World → Prop) (D : List PanicEntry → World → Prop) (v : Value) (dd : Bool) (w : World) : Result Next → Prop
  | .ok (.value u) w' => u = v ∧ dd = false ∧ C w'
  | .ok .skip w' => undef = v ∧ dd = false ∧ C w'
  | .ok (.enter f args) w' => Calls P f args w' fun e w'' => (e = .returned v ∧ dd = false ∧ C w'') ∨ ∃ ch, e = .panicked ch ∧ D ch w''
  | _ => False

theorem upT_value {v : Value} {w w' : World} (h : C w') : upT P C D v false w (.ok (.value v) w') := ⟨rfl, rfl, h⟩
theorem upT_skip {w w' : World} (h : C w') : upT P C D undef false w (.ok .skip w') := ⟨rfl, rfl, h⟩
theorem upT_call {v : Value} {w w' : World} {f : FuncId} {args : Array Value} (h : Calls P f args w' fun e w'' => e = .returned v ∧ C w'') : upT P C D v false w (.ok (.enter f args) w') :=
  h.mono fun e w'' ⟨he, hc⟩ => .inl ⟨he, rfl, hc⟩
theorem upT_dies (v : Value) {w w' : World} {f : FuncId} {args : Array Value} (h : Calls P f args w' fun e w'' => ∃ ch, e = .panicked ch ∧ D ch w'') : upT P C D v true w (.ok (.enter f args) w') :=
  h.mono fun e w'' he => .inr he

theorem upT_any {v : Value} {dd : Bool} {w w' : World} {f : FuncId} {args : Array Value} (h : Calls P f args w' fun e w'' => (e = .returned v ∧ dd = false ∧ C w'') ∨ ∃ ch, e = .panicked ch ∧ D ch w'') : upT P C D v dd w (.ok (.enter f args) w') := h

/-- E: the worlds behind the last operation of the text -/
def nextC (C E : World → Prop) (r : List Oper) : World → Prop := match r with | [] => E | _ :: _ => C

def wpT (P : Program) (ops : Array Oper) (C E : World → Prop) (D : List PanicEntry → World → Prop) (F : Act → Prop) : List Oper → Act → Bool → Prop
  | [], a, d => d = false → F a
  | o :: r, a, d => if Region.wanted o (yielded ops a.tmps) = true then ∃ v dd, (∀ w, C w → upT P (nextC C E r) D v dd w ((execOp a.eval o).run P w)) ∧ wpT P ops C E D F r (a.put o.dst v) (dd || d) else (r = [] → ∀ w, C w → E w) ∧ wpT P ops C E D F r (a.put o.dst undef) d

theorem wpT_yes {o o2 : Oper} {r : List Oper} {a : Act} {d : Bool} (hg : Region.wanted o (yielded ops a.tmps) = true) (v : Value) (dd : Bool) (h1 : ∀ w, C w → upT P C D v dd w ((execOp a.eval o).run P w))
    (h2 : ∀ K : Act → Bool → Prop, (∀ a d, wpT P ops C E D F (o2 :: r) a d → K a d) → K (a.put o.dst v) (dd || d)) : wpT P ops C E D F (o :: o2 :: r) a d := by
  unfold wpT
  rw [if_pos hg]
  exact ⟨v, dd, h1, h2 _ (fun _ _ h => h)⟩
theorem wpT_last {o : Oper} {a : Act} {d : Bool} (hg : Region.wanted o (yielded ops a.tmps) = true) (v : Value) (dd : Bool) (h1 : ∀ w, C w → upT P E D v dd w ((execOp a.eval o).run P w))
    (h2 : ∀ K : Act → Bool → Prop, (∀ a d, (d = false → F a) → K a d) → K (a.put o.dst v) (dd || d)) : wpT P ops C E D F [o] a d := by
  unfold wpT
  rw [if_pos hg]
  exact ⟨v, dd, h1, h2 _ (fun _ _ h => h)⟩
theorem wpT_no {o o2 : Oper} {r : List Oper} {a : Act} {d : Bool} (hg : Region.wanted o (yielded ops a.tmps) = false)
    (h2 : ∀ K : Act → Bool → Prop, (∀ a d, wpT P ops C E D F (o2 :: r) a d → K a d) → K (a.put o.dst undef) d) : wpT P ops C E D F (o :: o2 :: r) a d := by
  unfold wpT
  rw [if_neg (by rw [hg]; decide)]
  exact ⟨fun h => (by cases h), h2 _ (fun _ _ h => h)⟩

/-- what is known of one operation -/
def Fact (P : Program) (ops : Array Oper) (C N : World → Prop) (D : List PanicEntry → World → Prop) (o : Oper) (a : Act) (g : Value × Bool) : Prop :=
  (Region.wanted o (yielded ops a.tmps) = true ∧ ∀ w, C w → upT P N D g.1 g.2 w ((execOp a.eval o).run P w)) ∨ (Region.wanted o (yielded ops a.tmps) = false ∧ g = (undef, false) ∧ ∀ w, C w → N w)

def cutF (g : Nat → Value × Bool) (n : Nat) : Nat → Option Value := fun j => if j < n then some (g j).1 else none

theorem fill_none : ∀ (r : List Oper) (s : Nat) (a : Act) (f : Nat → Option Value), (∀ i, s ≤ i → i < s + r.length → f i = none) → fillF f s r a = a
  | [], _, _, _, _ => rfl
  | o :: r, s, a, f, h => by
    unfold fillF
    rw [h s (Nat.le_refl _) (by simp)]
    exact fill_none r (s + 1) a f (fun i h1 h2 => h i (by omega) (by simp at h2 ⊢; omega))

theorem extr : ∀ (r : List Oper) (s : Nat) (a : Act) (d : Bool), wpT P ops C E D F r a d → ∃ g : Nat → Value × Bool,
    (∀ k o, r[k]? = some o → Fact P ops C (if k + 1 = r.length then E else C) D o (fillF (cutF g (s + k)) s r a) (g (s + k))) ∧ (d = false → (∀ k, k < r.length → (g (s + k)).2 = false) → F (fillF (fun j => some (g j).1) s r a))
  | [], s, a, d, h => ⟨fun _ => (undef, false), fun k o h => by simp at h, fun hd _ => h hd⟩
  | o :: r, s, a, d, h => by
    unfold wpT at h
    obtain ⟨v, dd, hf, h'⟩ : ∃ v dd, Fact P ops C (nextC C E r) D o a (v, dd) ∧ wpT P ops C E D F r (a.put o.dst v) (dd || d) := by
      by_cases hw : Region.wanted o (yielded ops a.tmps) = true
      · rw [if_pos hw] at h
        obtain ⟨v, dd, h1, h2⟩ := h
        exact ⟨v, dd, .inl ⟨hw, h1⟩, h2⟩
      · rw [if_neg hw] at h
        refine ⟨undef, false, .inr ⟨by simpa using hw, rfl, ?_⟩, by simpa using h.2⟩
        cases r with
        | nil => exact h.1 rfl
        | cons _ _ => exact fun w hw => hw
    obtain ⟨g, hg1, hg2⟩ := extr r (s + 1) _ _ h'
    refine ⟨fun j => if j = s then (v, dd) else g j, fun k o' hk => ?_, fun hd hall => ?_⟩
    · cases k with
      | zero =>
        have ho : o = o' := by simpa using hk
        subst ho
        rw [fill_none (o :: r) s a _ (fun i h1 _ => by unfold cutF; rw [if_neg (by omega)])]
        have e2 : (if 0 + 1 = (o :: r).length then E else C) = nextC C E r := by
          cases r with
          | nil => rfl
          | cons _ _ => rw [if_neg (by simp)]; rfl
        rw [e2]
        simpa using hf
      | succ k =>
        have := hg1 k o' (by simpa using hk)
        have e : s + (k + 1) = s + 1 + k := by omega
        unfold fillF
        have e1 : cutF (fun j => if j = s then (v, dd) else g j) (s + (k + 1)) s = some v := by unfold cutF; rw [if_pos (by omega)]; simp
        rw [e1, e]
        simp only
        rw [fill_congr (f := cutF (fun j => if j = s then (v, dd) else g j) (s + 1 + k)) (g := cutF g (s + 1 + k)) r (s + 1) _ (fun i h1 _ => by unfold cutF; split <;> simp [show i ≠ s by omega])]
        rw [if_neg (show ¬ s + 1 + k = s by omega)]
        have e3 : (if k + 1 + 1 = (o :: r).length then E else C) = (if k + 1 = r.length then E else C) := by simp
        rw [e3]
        exact this
    · unfold fillF
      simp only [if_true]
      rw [fill_congr (g := fun j => some (g j).1) r (s + 1) _ (fun i h1 _ => by simp [show i ≠ s by omega])]
      have h0 := hall 0 (by simp)
      simp at h0
      refine hg2 (by rw [h0, hd]; rfl) (fun k hk => ?_)
      have this : (if s + (k + 1) = s then (v, dd) else g (s + (k + 1))).2 = false := hall (k + 1) (by simpa using hk)
      rw [if_neg (show ¬ s + (k + 1) = s by omega), show s + (k + 1) = s + 1 + k by omega] at this
      exact this

theorem eval_eq (hap : Apart ops.toList) {o : Oper} {a0 : Act} {f g : Nat → Option Value} (t : Tmp) (ht : t ∈ o.looksAt ops)
    (h : ∀ j oj, ops[j]? = some oj → ∀ d, oj.dst = some d → d ∈ o.looksAt ops → ∃ v, f j = some v ∧ g j = some v) :
    (fillF f 0 ops.toList a0).tmps[t]? = (fillF g 0 ops.toList a0).tmps[t]? := by
  by_cases hs : t < a0.tmps.size
  · have hh : (fillF f 0 ops.toList a0).eval (.tmp t) = (fillF g 0 ops.toList a0).eval (.tmp t) := by
      by_cases hx : ∃ oj ∈ ops.toList, oj.dst = some t
      · obtain ⟨oj, hm, hd⟩ := hx
        obtain ⟨j, hj⟩ := List.mem_iff_getElem?.1 hm
        obtain ⟨v, h1, h2⟩ := h j oj (by simpa using hj) t hd ht
        rw [fill_eval f ops.toList a0 j oj t v hap hj hd h1 hs, fill_eval g ops.toList a0 j oj t v hap hj hd h2 hs]
      · have hno : ∀ o ∈ ops.toList, o.dst ≠ some t := fun o ho hd => hx ⟨o, ho, hd⟩
        rw [fill_free f t _ _ _ hno, fill_free g t _ _ _ hno]
    simp only [Act.eval] at hh
    rw [getElem?_pos _ _ (by rw [fill_size]; exact hs), getElem?_pos _ _ (by rw [fill_size]; exact hs)]
    simp only [Array.getD_eq_getD_getElem?] at hh
    rw [getElem?_pos _ _ (by rw [fill_size]; exact hs), getElem?_pos _ _ (by rw [fill_size]; exact hs)] at hh
    simpa using hh
  · rw [getElem?_neg _ _ (by rw [fill_size]; exact hs), getElem?_neg _ _ (by rw [fill_size]; exact hs)]

theorem exec_eq (hap : Apart ops.toList) {o : Oper} (hsel : ∀ cs b, o.op ≠ .select cs b) {a0 : Act} {f g : Nat → Option Value}
    (h : ∀ j oj, ops[j]? = some oj → ∀ d, oj.dst = some d → d ∈ o.looksAt ops → ∃ v, f j = some v ∧ g j = some v) :
    execOp (fillF f 0 ops.toList a0).eval o = execOp (fillF g 0 ops.toList a0).eval o ∧ Region.wanted o (yielded ops (fillF f 0 ops.toList a0).tmps) = Region.wanted o (yielded ops (fillF g 0 ops.toList a0).tmps) := by
  constructor
  · refine execOp_congr o hsel fun x hx => ?_
    cases x with
    | tmp t =>
      simp only [Act.eval, Array.getD_eq_getD_getElem?]
      rw [eval_eq hap t (List.mem_append_left _ (List.mem_filterMap.2 ⟨.tmp t, by simpa using hx, rfl⟩)) h]
    | const v => rfl
    | global g => rfl
    | func f => rfl
  · unfold Region.wanted
    cases hg : o.guard with
    | none => rfl
    | some gb =>
      obtain ⟨k, b⟩ := gb
      simp only
      have : yielded ops (fillF f 0 ops.toList a0).tmps k = yielded ops (fillF g 0 ops.toList a0).tmps k := by
        unfold yielded
        cases hd : (ops[k]?).bind (·.dst) with
        | none => rfl
        | some t =>
          simp only [Option.bind_some]
          rw [eval_eq hap t (List.mem_append_right _ (by rw [hg]; simp [hd])) h]
      rw [this]

theorem look_spec (h : lookOK ops = true) {i j : Nat} {o oj : Oper} (hi : ops[i]? = some o) (hj : ops[j]? = some oj) {d : Tmp} (hd : oj.dst = some d) (hm : d ∈ o.looksAt ops) : ∃ e ∈ o.after, Region.binds .any e = true ∧ e.on = j := by
  have hi' : i < ops.size := (Array.getElem?_eq_some_iff.1 hi).1
  have hj' : j < ops.size := (Array.getElem?_eq_some_iff.1 hj).1
  unfold lookOK at h
  have h1 := (List.all_eq_true.1 h) i (List.mem_range.2 hi')
  rw [hi] at h1
  have h2 := (List.all_eq_true.1 h1) j (List.mem_range.2 hj')
  rw [hj] at h2
  simp only [hd] at h2
  rw [Bool.or_eq_true] at h2
  rcases h2 with h2 | h2
  · simp at h2; exact absurd hm h2
  · rw [List.any_eq_true] at h2
    obtain ⟨e, he, hb⟩ := h2
    rw [Bool.and_eq_true, decide_eq_true_eq] at hb
    exact ⟨e, by simpa using he, hb.1, hb.2⟩

theorem ord_spec (h : ordOK ops = true) {i : Nat} {o : Oper} (hi : ops[i]? = some o) {e : Edge} (he : e ∈ o.after) (hb : Region.binds .any e = true) : e.on < i := by
  have hi' : i < ops.size := (Array.getElem?_eq_some_iff.1 hi).1
  have h1 := (List.all_eq_true.1 h) i (List.mem_range.2 hi')
  rw [hi] at h1
  have h2 := (List.all_eq_true.1 h1) e (by simpa using he)
  rw [Bool.or_eq_true, decide_eq_true_eq] at h2
  rcases h2 with h2 | h2
  · rw [hb] at h2; cases h2
  · exact h2

theorem ready_nil (hord : ordOK ops = true) {listed : Array Bool} (hs : listed.size = ops.size) (hr : Region.ready .any ops listed = []) : ∀ i, i < ops.size → listed.getD i false = true := by
  intro i
  induction i using Nat.strongRecOn with
  | ind i ih =>
    intro hi
    refine Classical.byContradiction fun hn => ?_
    have hm : i ∈ Region.ready .any ops listed := by
      rw [mem_ready]
      refine ⟨?_, ops[i], by simp [hi], fun e he hb => ?_⟩
      · have hil : i < listed.size := by omega
        simp only [Array.getD_eq_getD_getElem?, hil, getElem?_pos, Option.getD_some] at hn ⊢
        simpa using hn
      · have := ord_spec hord (show ops[i]? = some ops[i] by simp [hi]) he hb
        exact ih e.on this (by omega)
    rw [hr] at hm
    cases hm

theorem count_less {l : List Bool} {i : Nat} (hi : i < l.length) (h : l[i] = false) : (l.set i true).count false + 1 = l.count false := by
  induction l generalizing i with
  | nil => simp at hi
  | cons b l ih =>
    cases i with
    | zero => simp at h; subst h; simp
    | succ i =>
      simp only [List.set_cons_succ, List.count_cons]
      have := ih (i := i) (by simpa using hi) (by simpa using h)
      omega


/-- each operation but the last is waited for by a later one -/
def lastB (ops : Array Oper) : Bool := (List.range (ops.size - 1)).all fun i => (List.range ops.size).any fun j => decide (i < j) && (match ops[j]? with
  | some o => o.after.toList.any fun e => Region.binds .any e && decide (e.on = i)
  | none => false)

theorem last_all (hl : lastB ops = true) {f : Nat → Option Value} (hcl : ∀ j o, ops[j]? = some o → (f j).isSome = true → ∀ e ∈ o.after, Region.binds .any e = true → (f e.on).isSome = true)
    {o : Oper} (ho : ops[ops.size - 1]? = some o) (hdep : ∀ e ∈ o.after, Region.binds .any e = true → (f e.on).isSome = true) : ∀ k i, i + k + 1 = ops.size - 1 → (f i).isSome = true := by
  intro k
  induction k using Nat.strongRecOn with
  | ind k ih =>
    intro i hi
    unfold lastB at hl
    have h1 := (List.all_eq_true.1 hl) i (List.mem_range.2 (by omega))
    rw [List.any_eq_true] at h1
    obtain ⟨j, hj, h2⟩ := h1
    rw [Bool.and_eq_true, decide_eq_true_eq] at h2
    have hjn := List.mem_range.1 hj
    have hoj : ops[j]? = some ops[j] := by simp [hjn]
    rw [hoj] at h2
    simp only [List.any_eq_true, Bool.and_eq_true, decide_eq_true_eq] at h2
    obtain ⟨hij, e, he, hb, rfl⟩ := h2
    by_cases hjm : j = ops.size - 1
    · subst hjm
      rw [ho] at hoj
      cases hoj
      exact hdep e (by simpa using he) hb
    · exact hcl j _ hoj (ih (ops.size - 1 - 1 - j) (by omega) j (by omega)) e (by simpa using he) hb

theorem any_T (hlast : lastB ops = true ∨ E = C) (hord : ordOK ops = true) (hlook : lookOK ops = true) (hsel : Region.noSelect ops = true) (hap : Apart ops.toList) (a0 : Act) (g : Nat → Value × Bool)
    (hQ : ∀ ch a w, a.defers = a0.defers → D ch w → Q (.panic ch) a w)
    (hfact : ∀ k o, ops[k]? = some o → Fact P ops C (if k + 1 = ops.size then E else C) D o (fillF (cutF g k) 0 ops.toList a0) (g k))
    (fin : ∀ w, E w → (∀ k, k < ops.size → (g k).2 = false) → Q .normal (fillF (fun j => some (g j).1) 0 ops.toList a0) w) :
    ∀ (fuel : Nat) (listed : Array Bool) (f : Nat → Option Value) (w : World), listed.size = ops.size → (∀ i, i < ops.size → listed.getD i false = (f i).isSome) → (if (f (ops.size - 1)).isSome = true ∨ ops.size = 0 then E w else C w) → (∀ j o, ops[j]? = some o → (f j).isSome = true → ∀ e ∈ o.after, Region.binds .any e = true → (f e.on).isSome = true) → (∀ i v, f i = some v → v = (g i).1 ∧ (g i).2 = false) → listed.toList.count false ≤ fuel →
      wpAny P .any ops Q fuel listed (fillF f 0 ops.toList a0) w := by
  have done : ∀ (f : Nat → Option Value) (w : World), (∀ i, i < ops.size → (f i).isSome = true) → (if (f (ops.size - 1)).isSome = true ∨ ops.size = 0 then E w else C w) → (∀ i v, f i = some v → v = (g i).1 ∧ (g i).2 = false) → Q .normal (fillF f 0 ops.toList a0) w := by
    intro f w hall hC hf
    rw [if_pos (by
      rcases Nat.eq_zero_or_pos ops.size with h | h
      · exact .inr h
      · exact .inl (hall _ (by omega)))] at hC
    rw [fill_congr (f := f) (g := fun j => some (g j).1) ops.toList 0 a0 (fun i _ hi => by
      obtain ⟨v, hv⟩ := Option.isSome_iff_exists.1 (hall i (by simpa using hi))
      rw [hv, (hf i v hv).1])]
    refine fin w hC fun k hk => ?_
    obtain ⟨v, hv⟩ := Option.isSome_iff_exists.1 (hall k hk)
    exact (hf k v hv).2
  intro fuel
  induction fuel with
  | zero =>
    intro listed f w hs hl hC hcl0 hf hc
    have hall : ∀ i, i < ops.size → listed.getD i false = true := by
      intro i hi
      have h0 : listed.toList.count false = 0 := by omega
      rw [List.count_eq_zero] at h0
      have hil : i < listed.size := by omega
      simp only [Array.getD_eq_getD_getElem?, hil, getElem?_pos, Option.getD_some]
      refine Classical.byContradiction fun hn => h0 ?_
      have hf : listed[i] = false := by simpa using hn
      rw [← hf]
      simp
    refine ⟨?_, done f w (fun i hi => by rw [← hl i hi]; exact hall i hi) hC hf⟩
    refine List.eq_nil_iff_forall_not_mem.2 fun i hm => ?_
    obtain ⟨h1, o, ho, _⟩ := mem_ready.1 hm
    have hi : i < ops.size := (Array.getElem?_eq_some_iff.1 ho).1
    have h2 := hall i hi
    have hil : i < listed.size := by omega
    simp only [Array.getD_eq_getD_getElem?, hil, getElem?_pos, Option.getD_some] at h1 h2
    rw [h1] at h2
    cases h2
  | succ fuel ih =>
    intro listed f w hs hl hC hcl0 hf hc
    refine ⟨fun hr => done f w (fun i hi => by rw [← hl i hi]; exact ready_nil hord hs hr i hi) hC hf, fun i hm => ?_⟩
    obtain ⟨h1, o, ho, hdep⟩ := mem_ready.1 hm
    have hi : i < ops.size := (Array.getElem?_eq_some_iff.1 ho).1
    have hil : i < listed.size := by omega
    have hli : listed[i] = false := by simpa [Array.getD_eq_getD_getElem?, hil] using h1
    have hfi : f i = none := by
      have := hl i hi
      simp only [Array.getD_eq_getD_getElem?, hil, getElem?_pos, Option.getD_some, hli] at this
      cases hfx : f i with
      | none => rfl
      | some v => rw [hfx] at this; cases this
    have hag : ∀ j oj, ops[j]? = some oj → ∀ d, oj.dst = some d → d ∈ o.looksAt ops → ∃ v, f j = some v ∧ cutF g i j = some v := by
      intro j oj hj d hd hm
      obtain ⟨e, he, hb, rfl⟩ := look_spec hlook ho hj hd hm
      have hlt := ord_spec hord ho he hb
      have h2 := hdep e he hb
      rw [hl e.on (by omega)] at h2
      obtain ⟨v, hv⟩ := Option.isSome_iff_exists.1 h2
      refine ⟨v, hv, ?_⟩
      unfold cutF
      rw [if_pos hlt, (hf _ _ hv).1]
    obtain ⟨e1, e2⟩ := exec_eq hap (Region.noSelect_spec hsel i o · · ho) (a0 := a0) hag
    have hdf : ∀ e ∈ o.after, Region.binds .any e = true → (f e.on).isSome = true := fun e he hb => by
      rw [← hl e.on (by have := ord_spec hord ho he hb; omega)]
      exact hdep e he hb
    have hCw : C w := by
      by_cases hx : (f (ops.size - 1)).isSome = true ∨ ops.size = 0
      · rw [if_pos hx] at hC
        rcases hlast with hla | rfl
        · rcases hx with hx | hx
          · have hm1 : ops[ops.size - 1]? = some ops[ops.size - 1] := by simp
            have hall := last_all hla hcl0 hm1 (fun e he hb => hcl0 _ _ hm1 hx e he hb)
            have : (f i).isSome = true := by
              by_cases e : i = ops.size - 1
              · rw [e]; exact hx
              · exact hall (ops.size - 1 - 1 - i) i (by omega)
            rw [hfi] at this
            cases this
          · omega
        · exact hC
      · rwa [if_neg hx] at hC
    have next : ∀ v w', v = (g i).1 → (g i).2 = false → (if i + 1 = ops.size then E else C) w' → wpAny P .any ops Q fuel (listed.setIfInBounds i true) ((fillF f 0 ops.toList a0).put o.dst v) w' := by
      intro v w' hv hd hC'
      have hfu := fill_upd f v ops.toList 0 i a0 o hap (by simpa using ho) (by simpa using hfi)
      rw [Nat.zero_add] at hfu
      rw [hfu]
      refine ih _ _ _ (by simpa using hs) (fun j hj => ?_) ?_ (fun j oj hj hsj e he hb => ?_) (fun j u hu => ?_) ?_
      · by_cases e : j = i
        · subst e
          rw [upd_same]
          simp [Array.getD_eq_getD_getElem?, hil]
        · rw [upd_other f v e, ← hl j hj]
          simp [Array.getD_eq_getD_getElem?, Array.getElem?_setIfInBounds_ne (Ne.symm e)]
      · by_cases e : i + 1 = ops.size
        · rw [if_pos e] at hC'
          rw [if_pos (.inl (by rw [show ops.size - 1 = i by omega, upd_same]; rfl))]
          exact hC'
        · rw [if_neg e] at hC'
          split
          · rename_i hx
            rcases hx with hx | hx
            · rw [upd_other f v (by omega)] at hx
              rcases hlast with hla | rfl
              · exfalso
                have hm1 : ops[ops.size - 1]? = some ops[ops.size - 1] := by simp
                have := last_all hla hcl0 hm1 (fun e he hb => hcl0 _ _ hm1 hx e he hb) (ops.size - 1 - 1 - i) i (by omega)
                rw [hfi] at this
                cases this
              · exact hC'
            · omega
          · exact hC'
      · by_cases e2 : e.on = i
        · rw [e2, upd_same]; rfl
        · rw [upd_other f v e2]
          by_cases e3 : j = i
          · subst e3
            rw [ho] at hj
            cases hj
            exact hdf e he hb
          · rw [upd_other f v e3] at hsj
            exact hcl0 j oj hj hsj e he hb
      · by_cases e : j = i
        · subst e
          rw [upd_same] at hu
          cases hu
          exact ⟨hv, hd⟩
        · rw [upd_other f v e] at hu
          exact hf j u hu
      · have hcl := count_less (l := listed.toList) (i := i) (by simpa using hil) (by simpa using hli)
        have : (listed.setIfInBounds i true).toList = listed.toList.set i true := by simp
        rw [this]
        omega
    unfold wpOp
    rw [ho]
    simp only [e2]
    rcases hfact i o ho with ⟨hw, hu⟩ | ⟨hw, hg, hn⟩
    · rw [if_pos hw]
      refine .inl ?_
      unfold Oper.wp
      rw [e1]
      have hu := hu w hCw
      generalize (execOp (fillF (cutF g i) 0 ops.toList a0).eval o).run P w = res at hu ⊢
      cases res with
      | ok n w' =>
        cases n <;> simp only [upT] at hu <;> simp only [Oper.upon]
        case value u => exact next u w' hu.1 hu.2.1 hu.2.2
        case skip => exact next undef w' hu.1 hu.2.1 hu.2.2
        case enter fn args =>
          refine hu.mono fun e w'' he => ?_
          rcases he with ⟨rfl, hd, hC'⟩ | ⟨ch, rfl, hD⟩
          · exact next _ w'' rfl hd hC'
          · exact hQ ch _ w'' (fill_defers _ _ _ _) hD
      | halt x w' => simp only [upT] at hu
    · rw [if_neg (by rw [hw]; decide)]
      exact next undef w (by rw [hg]) (by rw [hg]) (hn w hCw)

/-- THE LAW: E is what holds behind the last operation of the text; it is C, or each other operation is waited for. -/
theorem wp_region_try {id : Nat} {a0 : Act} {w0 : World} (hm : P.follows .mixedOrders = true) (hB : okB ops = true) (C E : World → Prop) (hlast : lastB ops = true ∨ E = C) (hne : ops.size ≠ 0) (D : List PanicEntry → World → Prop) (h0 : C w0.drew)
    (hQ : ∀ ch a w, a.defers = a0.defers → D ch w → Q (.panic ch) a w) (h : wpT P ops C E D (fun a => ∀ w, E w → Q .normal a w) ops.toList a0 false) :
    (Code.region id ops true).wp P Q a0 w0 := by
  refine wp_region_any hm ?_
  unfold okB at hB
  simp only [Bool.and_eq_true] at hB
  obtain ⟨⟨⟨hs, ho⟩, hl⟩, ha⟩ := hB
  obtain ⟨g, hg1, hg2⟩ := extr ops.toList 0 a0 false h
  have := any_T (P := P) (Q := Q) (C := C) (E := E) (D := D) hlast ho hl hs (apart_of _ ha) a0 g hQ (fun k o hk => by
      have := hg1 k o (by simpa using hk)
      rw [Nat.zero_add] at this
      simpa using this) (fun w hC hall => hg2 rfl (fun k hk => by rw [Nat.zero_add]; exact hall k (by simpa using hk)) w hC)
    ops.size (Array.replicate ops.size false) (fun _ => none) w0.drew (by simp) (fun i hi => by simp [Array.getD_eq_getD_getElem?, hi]) (by rw [if_neg (by simp [hne])]; exact h0) (fun j o _ h => by cases h) (fun i v h => by cases h) (by simp)
  rw [fill_none _ _ _ _ (fun _ _ _ => rfl)] at this
  exact this

/-- The same of a region that is written out. -/
theorem wp_region_try_lit {id : Nat} {a0 : Act} {w0 : World} {l : List Oper} (hm : P.follows .mixedOrders = true) (hB : okB l.toArray = true) (C E : World → Prop) (hlast : lastB l.toArray = true ∨ E = C) (hne : l.length ≠ 0) (D : List PanicEntry → World → Prop) (h0 : C w0.drew)
    (hQ : ∀ ch a w, a.defers = a0.defers → D ch w → Q (.panic ch) a w) (h : wpT P l.toArray C E D (fun a => ∀ w, E w → Q .normal a w) l a0 false) :
    (Code.region id l.toArray true).wp P Q a0 w0 := wp_region_try hm hB C E hlast (by simpa using hne) D h0 hQ (by simpa using h)

end Go.Rq
