/-
  A region that draws its order: one walk in the order of the text serves every order, over any set of worlds; an operation may leave it by a panic. Nothing of a program. Blocks of several kinds, one behind the other: what Unpack answers, in plain numbers. FlateBlocks: the law's state. FlateBlocks: the law's walk.
-/
import Derived.Orders
import Derived.Still
import Derived.WalkKit
import Derived.Test.YtdokpimhhkbdbaaDoorIa
import Derived.Deep.DeepCutAuto
set_option linter.unusedVariables false
namespace Go.Rq
open Go

/-- The frame behind those operations that have come up: each one's value in its slot. -/
def fillF (f : Nat → Option Value) : Nat → List Oper → Act → Act
  | _, [], a => a
  | i, o :: r, a => fillF f (i + 1) r (match f i with | some v => a.put o.dst v | none => a)

def upd (f : Nat → Option Value) (i : Nat) (v : Value) : Nat → Option Value := fun j => if j = i then some v else f j

theorem upd_same (f : Nat → Option Value) (i : Nat) (v : Value) : upd f i v i = some v := by simp [upd]
theorem upd_other (f : Nat → Option Value) {i j : Nat} (v : Value) (h : j ≠ i) : upd f i v j = f j := by simp [upd, h]

def Apart (ops : List Oper) : Prop := ops.Pairwise fun x y => ∀ d, x.dst = some d → y.dst ≠ some d

theorem fill_put (f : Nat → Option Value) (v : Value) (x : Option Tmp) : ∀ (r : List Oper) (s : Nat) (a : Act), (∀ o ∈ r, ∀ d, x = some d → o.dst ≠ some d) → (fillF f s r a).put x v = fillF f s r (a.put x v)
  | [], _, _, _ => rfl
  | o :: r, s, a, h => by
    unfold fillF
    rw [fill_put f v x r (s + 1) _ (fun o ho => h o (List.mem_cons_of_mem _ ho))]
    congr 1
    cases f s with
    | none => rfl
    | some u => exact (Act.put_comm a v u (fun d hd => h o (by simp) d hd)).symm

theorem fill_congr {f g : Nat → Option Value} : ∀ (r : List Oper) (s : Nat) (a : Act), (∀ i, s ≤ i → i < s + r.length → f i = g i) → fillF f s r a = fillF g s r a
  | [], _, _, _ => rfl
  | o :: r, s, a, h => by
    unfold fillF
    rw [h s (Nat.le_refl _) (by simp)]
    exact fill_congr r (s + 1) _ (fun i h1 h2 => h i (by omega) (by simp at h2 ⊢; omega))

theorem fill_upd (f : Nat → Option Value) (v : Value) : ∀ (r : List Oper) (s k : Nat) (a : Act) (o : Oper), Apart r → r[k]? = some o → f (s + k) = none → (fillF f s r a).put o.dst v = fillF (upd f (s + k) v) s r a
  | [], _, _, _, _, _, h, _ => by simp at h
  | o0 :: r, s, 0, a, o, hp, h, hf => by
    obtain ⟨hp1, hp2⟩ := List.pairwise_cons.1 hp
    simp at h
    subst h
    unfold fillF
    simp only [Nat.add_zero] at hf ⊢
    rw [hf, upd_same]
    rw [fill_put f v o0.dst r (s + 1) a (fun o ho d hd => hp1 o ho d hd)]
    exact fill_congr r (s + 1) _ (fun i h1 _ => (upd_other f v (by omega)).symm)
  | o0 :: r, s, k + 1, a, o, hp, h, hf => by
    obtain ⟨hp1, hp2⟩ := List.pairwise_cons.1 hp
    unfold fillF
    have e : s + (k + 1) = (s + 1) + k := by omega
    rw [e] at hf ⊢
    rw [upd_other f v (show s ≠ s + 1 + k by omega)]
    exact fill_upd f v r (s + 1) k _ o hp2 (by simpa using h) hf

theorem put_size (a : Act) (x : Option Tmp) (v : Value) : (a.put x v).tmps.size = a.tmps.size := by cases x <;> simp [Act.put]

theorem fill_defers (f : Nat → Option Value) : ∀ (r : List Oper) (s : Nat) (a : Act), (fillF f s r a).defers = a.defers
  | [], _, _ => rfl
  | o :: r, s, a => by
    unfold fillF
    rw [fill_defers f r (s + 1)]
    cases f s with
    | none => rfl
    | some v => cases o.dst <;> simp [Act.put]

theorem fill_size (f : Nat → Option Value) : ∀ (r : List Oper) (s : Nat) (a : Act), (fillF f s r a).tmps.size = a.tmps.size
  | [], _, _ => rfl
  | o :: r, s, a => by
    unfold fillF
    rw [fill_size f r (s + 1)]
    cases f s with
    | none => rfl
    | some v => exact put_size _ _ _

/-- A slot that some operation has filled. -/
theorem fill_eval (f : Nat → Option Value) (r : List Oper) (a : Act) (k : Nat) (o : Oper) (t : Tmp) (v : Value) (hp : Apart r) (h : r[k]? = some o) (hd : o.dst = some t) (hf : f k = some v) (ht : t < a.tmps.size) : (fillF f 0 r a).eval (.tmp t) = v := by
  let g : Nat → Option Value := fun j => if j = k then none else f j
  have hg : upd g k v = f := by
    funext j
    by_cases e : j = k
    · subst e; rw [upd_same, hf]
    · rw [upd_other _ _ e]; simp [g, e]
  have hgk : g (0 + k) = none := by simp [g]
  have := fill_upd g v r 0 k a o hp h hgk
  rw [Nat.zero_add, hg] at this
  rw [← this, hd]
  simp [Act.eval, Act.put, fill_size, ht]

/-- A slot that no operation fills. -/
theorem fill_free (f : Nat → Option Value) (t : Tmp) : ∀ (r : List Oper) (s : Nat) (a : Act), (∀ o ∈ r, o.dst ≠ some t) → (fillF f s r a).eval (.tmp t) = a.eval (.tmp t)
  | [], _, _, _ => rfl
  | o :: r, s, a, h => by
    unfold fillF
    rw [fill_free f t r (s + 1) _ (fun o ho => h o (List.mem_cons_of_mem _ ho))]
    cases f s with
    | none => rfl
    | some v =>
      have := h o (by simp)
      cases hd : o.dst with
      | none => rfl
      | some d =>
        have hne : d ≠ t := fun e => this (by rw [hd, e])
        simp [Act.eval, Act.put, Array.getElem?_setIfInBounds_ne hne]

def apartB (ops : List Oper) : Bool := match ops with
  | [] => true
  | o :: r => (match o.dst with | some d => r.all fun y => decide (y.dst ≠ some d) | none => true) && apartB r

theorem apart_of : ∀ (ops : List Oper), apartB ops = true → Apart ops
  | [], _ => List.Pairwise.nil
  | o :: r, h => by
    unfold apartB at h
    rw [Bool.and_eq_true] at h
    refine List.pairwise_cons.2 ⟨fun y hy d hd => ?_, apart_of r h.2⟩
    have h1 := h.1
    rw [hd] at h1
    simp only [List.all_eq_true, decide_eq_true_eq] at h1
    exact h1 y hy


def ordOK (ops : Array Oper) : Bool := (List.range ops.size).all fun i => match ops[i]? with
  | some o => o.after.toList.all fun e => !Region.binds .any e || decide (e.on < i)
  | none => true

def lookOK (ops : Array Oper) : Bool := (List.range ops.size).all fun i => match ops[i]? with
  | some o => (List.range ops.size).all fun j => match ops[j]? with
    | some oj => (match oj.dst with
      | some d => !(o.looksAt ops).contains d || o.after.toList.any fun e => Region.binds .any e && decide (e.on = j)
      | none => true)
    | none => true
  | none => true

def okB (ops : Array Oper) : Bool := Region.noSelect ops && ordOK ops && lookOK ops && apartB ops.toList

variable {P : Program} {ops : Array Oper} {Q : Exit → Act → World → Prop} {C E : World → Prop} {D : List PanicEntry → World → Prop} {F : Act → Prop}

def upT (P : Program) (C : World → Prop) (D : List PanicEntry → World → Prop) (v : Value) (dd : Bool) (w : World) : Result Next → Prop
  | .ok (.value u) w' => u = v ∧ dd = false ∧ C w'
  | .ok .skip w' => undef = v ∧ dd = false ∧ C w'
  | .ok (.enter f args) w' => Calls P f args w' fun e w'' => (e = .returned v ∧ dd = false ∧ C w'') ∨ ∃ ch, e = .panicked ch ∧ D ch w''
  | _ => False

theorem upT_value {v : Value} {w w' : World} (h : C w') : upT P C D v false w (.ok (.value v) w') := ⟨rfl, rfl, h⟩
theorem upT_skip {w w' : World} (h : C w') : upT P C D undef false w (.ok .skip w') := ⟨rfl, rfl, h⟩
theorem upT_call {v : Value} {w w' : World} {f : FuncId} {args : Array Value} (h : Calls P f args w' fun e w'' => e = .returned v ∧ C w'') : upT P C D v false w (.ok (.enter f args) w') :=
  h.mono fun e w'' ⟨he, hc⟩ => .inl ⟨he, rfl, hc⟩
theorem upT_dies (v : Value) {w w' : World} {f : FuncId} {args : Array Value} (h : Calls P f args w' fun e w'' => ∃ ch, e = .panicked ch ∧ D ch w'') : upT P C D v true w (.ok (.enter f args) w') :=
  h.mono fun e w'' he => .inr he

theorem upT_any {v : Value} {dd : Bool} {w w' : World} {f : FuncId} {args : Array Value} (h : Calls P f args w' fun e w'' => (e = .returned v ∧ dd = false ∧ C w'') ∨ ∃ ch, e = .panicked ch ∧ D ch w'') : upT P C D v dd w (.ok (.enter f args) w') := h

/-- E: the worlds behind the last operation of the text -/
def nextC (C E : World → Prop) (r : List Oper) : World → Prop := match r with | [] => E | _ :: _ => C

def wpT (P : Program) (ops : Array Oper) (C E : World → Prop) (D : List PanicEntry → World → Prop) (F : Act → Prop) : List Oper → Act → Bool → Prop
  | [], a, d => d = false → F a
  | o :: r, a, d => if Region.wanted o (yielded ops a.tmps) = true then ∃ v dd, (∀ w, C w → upT P (nextC C E r) D v dd w ((execOp a.eval o).run P w)) ∧ wpT P ops C E D F r (a.put o.dst v) (dd || d) else (r = [] → ∀ w, C w → E w) ∧ wpT P ops C E D F r (a.put o.dst undef) d

theorem wpT_yes {o o2 : Oper} {r : List Oper} {a : Act} {d : Bool} (hg : Region.wanted o (yielded ops a.tmps) = true) (v : Value) (dd : Bool) (h1 : ∀ w, C w → upT P C D v dd w ((execOp a.eval o).run P w))
    (h2 : ∀ K : Act → Bool → Prop, (∀ a d, wpT P ops C E D F (o2 :: r) a d → K a d) → K (a.put o.dst v) (dd || d)) : wpT P ops C E D F (o :: o2 :: r) a d := by
  unfold wpT
  rw [if_pos hg]
  exact ⟨v, dd, h1, h2 _ (fun _ _ h => h)⟩
theorem wpT_last {o : Oper} {a : Act} {d : Bool} (hg : Region.wanted o (yielded ops a.tmps) = true) (v : Value) (dd : Bool) (h1 : ∀ w, C w → upT P E D v dd w ((execOp a.eval o).run P w))
    (h2 : ∀ K : Act → Bool → Prop, (∀ a d, (d = false → F a) → K a d) → K (a.put o.dst v) (dd || d)) : wpT P ops C E D F [o] a d := by
  unfold wpT
  rw [if_pos hg]
  exact ⟨v, dd, h1, h2 _ (fun _ _ h => h)⟩
theorem wpT_no {o o2 : Oper} {r : List Oper} {a : Act} {d : Bool} (hg : Region.wanted o (yielded ops a.tmps) = false)
    (h2 : ∀ K : Act → Bool → Prop, (∀ a d, wpT P ops C E D F (o2 :: r) a d → K a d) → K (a.put o.dst undef) d) : wpT P ops C E D F (o :: o2 :: r) a d := by
  unfold wpT
  rw [if_neg (by rw [hg]; decide)]
  exact ⟨fun h => (by cases h), h2 _ (fun _ _ h => h)⟩

/-- what is known of one operation -/
def Fact (P : Program) (ops : Array Oper) (C N : World → Prop) (D : List PanicEntry → World → Prop) (o : Oper) (a : Act) (g : Value × Bool) : Prop :=
  (Region.wanted o (yielded ops a.tmps) = true ∧ ∀ w, C w → upT P N D g.1 g.2 w ((execOp a.eval o).run P w)) ∨ (Region.wanted o (yielded ops a.tmps) = false ∧ g = (undef, false) ∧ ∀ w, C w → N w)

def cutF (g : Nat → Value × Bool) (n : Nat) : Nat → Option Value := fun j => if j < n then some (g j).1 else none

theorem fill_none : ∀ (r : List Oper) (s : Nat) (a : Act) (f : Nat → Option Value), (∀ i, s ≤ i → i < s + r.length → f i = none) → fillF f s r a = a
  | [], _, _, _, _ => rfl
  | o :: r, s, a, f, h => by
    unfold fillF
    rw [h s (Nat.le_refl _) (by simp)]
    exact fill_none r (s + 1) a f (fun i h1 h2 => h i (by omega) (by simp at h2 ⊢; omega))

theorem extr : ∀ (r : List Oper) (s : Nat) (a : Act) (d : Bool), wpT P ops C E D F r a d → ∃ g : Nat → Value × Bool,
    (∀ k o, r[k]? = some o → Fact P ops C (if k + 1 = r.length then E else C) D o (fillF (cutF g (s + k)) s r a) (g (s + k))) ∧ (d = false → (∀ k, k < r.length → (g (s + k)).2 = false) → F (fillF (fun j => some (g j).1) s r a))
  | [], s, a, d, h => ⟨fun _ => (undef, false), fun k o h => by simp at h, fun hd _ => h hd⟩
  | o :: r, s, a, d, h => by
    unfold wpT at h
    obtain ⟨v, dd, hf, h'⟩ : ∃ v dd, Fact P ops C (nextC C E r) D o a (v, dd) ∧ wpT P ops C E D F r (a.put o.dst v) (dd || d) := by
      by_cases hw : Region.wanted o (yielded ops a.tmps) = true
      · rw [if_pos hw] at h
        obtain ⟨v, dd, h1, h2⟩ := h
        exact ⟨v, dd, .inl ⟨hw, h1⟩, h2⟩
      · rw [if_neg hw] at h
        refine ⟨undef, false, .inr ⟨by simpa using hw, rfl, ?_⟩, by simpa using h.2⟩
        cases r with
        | nil => exact h.1 rfl
        | cons _ _ => exact fun w hw => hw
    obtain ⟨g, hg1, hg2⟩ := extr r (s + 1) _ _ h'
    refine ⟨fun j => if j = s then (v, dd) else g j, fun k o' hk => ?_, fun hd hall => ?_⟩
    · cases k with
      | zero =>
        have ho : o = o' := by simpa using hk
        subst ho
        rw [fill_none (o :: r) s a _ (fun i h1 _ => by unfold cutF; rw [if_neg (by omega)])]
        have e2 : (if 0 + 1 = (o :: r).length then E else C) = nextC C E r := by
          cases r with
          | nil => rfl
          | cons _ _ => rw [if_neg (by simp)]; rfl
        rw [e2]
        simpa using hf
      | succ k =>
        have := hg1 k o' (by simpa using hk)
        have e : s + (k + 1) = s + 1 + k := by omega
        unfold fillF
        have e1 : cutF (fun j => if j = s then (v, dd) else g j) (s + (k + 1)) s = some v := by unfold cutF; rw [if_pos (by omega)]; simp
        rw [e1, e]
        simp only
        rw [fill_congr (f := cutF (fun j => if j = s then (v, dd) else g j) (s + 1 + k)) (g := cutF g (s + 1 + k)) r (s + 1) _ (fun i h1 _ => by unfold cutF; split <;> simp [show i ≠ s by omega])]
        rw [if_neg (show ¬ s + 1 + k = s by omega)]
        have e3 : (if k + 1 + 1 = (o :: r).length then E else C) = (if k + 1 = r.length then E else C) := by simp
        rw [e3]
        exact this
    · unfold fillF
      simp only [if_true]
      rw [fill_congr (g := fun j => some (g j).1) r (s + 1) _ (fun i h1 _ => by simp [show i ≠ s by omega])]
      have h0 := hall 0 (by simp)
      simp at h0
      refine hg2 (by rw [h0, hd]; rfl) (fun k hk => ?_)
      have this : (if s + (k + 1) = s then (v, dd) else g (s + (k + 1))).2 = false := hall (k + 1) (by simpa using hk)
      rw [if_neg (show ¬ s + (k + 1) = s by omega), show s + (k + 1) = s + 1 + k by omega] at this
      exact this

theorem eval_eq (hap : Apart ops.toList) {o : Oper} {a0 : Act} {f g : Nat → Option Value} (t : Tmp) (ht : t ∈ o.looksAt ops)
    (h : ∀ j oj, ops[j]? = some oj → ∀ d, oj.dst = some d → d ∈ o.looksAt ops → ∃ v, f j = some v ∧ g j = some v) :
    (fillF f 0 ops.toList a0).tmps[t]? = (fillF g 0 ops.toList a0).tmps[t]? := by
  by_cases hs : t < a0.tmps.size
  · have hh : (fillF f 0 ops.toList a0).eval (.tmp t) = (fillF g 0 ops.toList a0).eval (.tmp t) := by
      by_cases hx : ∃ oj ∈ ops.toList, oj.dst = some t
      · obtain ⟨oj, hm, hd⟩ := hx
        obtain ⟨j, hj⟩ := List.mem_iff_getElem?.1 hm
        obtain ⟨v, h1, h2⟩ := h j oj (by simpa using hj) t hd ht
        rw [fill_eval f ops.toList a0 j oj t v hap hj hd h1 hs, fill_eval g ops.toList a0 j oj t v hap hj hd h2 hs]
      · have hno : ∀ o ∈ ops.toList, o.dst ≠ some t := fun o ho hd => hx ⟨o, ho, hd⟩
        rw [fill_free f t _ _ _ hno, fill_free g t _ _ _ hno]
    simp only [Act.eval] at hh
    rw [getElem?_pos _ _ (by rw [fill_size]; exact hs), getElem?_pos _ _ (by rw [fill_size]; exact hs)]
    simp only [Array.getD_eq_getD_getElem?] at hh
    rw [getElem?_pos _ _ (by rw [fill_size]; exact hs), getElem?_pos _ _ (by rw [fill_size]; exact hs)] at hh
    simpa using hh
  · rw [getElem?_neg _ _ (by rw [fill_size]; exact hs), getElem?_neg _ _ (by rw [fill_size]; exact hs)]

theorem exec_eq (hap : Apart ops.toList) {o : Oper} (hsel : ∀ cs b, o.op ≠ .select cs b) {a0 : Act} {f g : Nat → Option Value}
    (h : ∀ j oj, ops[j]? = some oj → ∀ d, oj.dst = some d → d ∈ o.looksAt ops → ∃ v, f j = some v ∧ g j = some v) :
    execOp (fillF f 0 ops.toList a0).eval o = execOp (fillF g 0 ops.toList a0).eval o ∧ Region.wanted o (yielded ops (fillF f 0 ops.toList a0).tmps) = Region.wanted o (yielded ops (fillF g 0 ops.toList a0).tmps) := by
  constructor
  · refine execOp_congr o hsel fun x hx => ?_
    cases x with
    | tmp t =>
      simp only [Act.eval, Array.getD_eq_getD_getElem?]
      rw [eval_eq hap t (List.mem_append_left _ (List.mem_filterMap.2 ⟨.tmp t, by simpa using hx, rfl⟩)) h]
    | const v => rfl
    | global g => rfl
    | func f => rfl
  · unfold Region.wanted
    cases hg : o.guard with
    | none => rfl
    | some gb =>
      obtain ⟨k, b⟩ := gb
      simp only
      have : yielded ops (fillF f 0 ops.toList a0).tmps k = yielded ops (fillF g 0 ops.toList a0).tmps k := by
        unfold yielded
        cases hd : (ops[k]?).bind (·.dst) with
        | none => rfl
        | some t =>
          simp only [Option.bind_some]
          rw [eval_eq hap t (List.mem_append_right _ (by rw [hg]; simp [hd])) h]
      rw [this]

theorem look_spec (h : lookOK ops = true) {i j : Nat} {o oj : Oper} (hi : ops[i]? = some o) (hj : ops[j]? = some oj) {d : Tmp} (hd : oj.dst = some d) (hm : d ∈ o.looksAt ops) : ∃ e ∈ o.after, Region.binds .any e = true ∧ e.on = j := by
  have hi' : i < ops.size := (Array.getElem?_eq_some_iff.1 hi).1
  have hj' : j < ops.size := (Array.getElem?_eq_some_iff.1 hj).1
  unfold lookOK at h
  have h1 := (List.all_eq_true.1 h) i (List.mem_range.2 hi')
  rw [hi] at h1
  have h2 := (List.all_eq_true.1 h1) j (List.mem_range.2 hj')
  rw [hj] at h2
  simp only [hd] at h2
  rw [Bool.or_eq_true] at h2
  rcases h2 with h2 | h2
  · simp at h2; exact absurd hm h2
  · rw [List.any_eq_true] at h2
    obtain ⟨e, he, hb⟩ := h2
    rw [Bool.and_eq_true, decide_eq_true_eq] at hb
    exact ⟨e, by simpa using he, hb.1, hb.2⟩

theorem ord_spec (h : ordOK ops = true) {i : Nat} {o : Oper} (hi : ops[i]? = some o) {e : Edge} (he : e ∈ o.after) (hb : Region.binds .any e = true) : e.on < i := by
  have hi' : i < ops.size := (Array.getElem?_eq_some_iff.1 hi).1
  have h1 := (List.all_eq_true.1 h) i (List.mem_range.2 hi')
  rw [hi] at h1
  have h2 := (List.all_eq_true.1 h1) e (by simpa using he)
  rw [Bool.or_eq_true, decide_eq_true_eq] at h2
  rcases h2 with h2 | h2
  · rw [hb] at h2; cases h2
  · exact h2

theorem ready_nil (hord : ordOK ops = true) {listed : Array Bool} (hs : listed.size = ops.size) (hr : Region.ready .any ops listed = []) : ∀ i, i < ops.size → listed.getD i false = true := by
  intro i
  induction i using Nat.strongRecOn with
  | ind i ih =>
    intro hi
    refine Classical.byContradiction fun hn => ?_
    have hm : i ∈ Region.ready .any ops listed := by
      rw [mem_ready]
      refine ⟨?_, ops[i], by simp [hi], fun e he hb => ?_⟩
      · have hil : i < listed.size := by omega
        simp only [Array.getD_eq_getD_getElem?, hil, getElem?_pos, Option.getD_some] at hn ⊢
        simpa using hn
      · have := ord_spec hord (show ops[i]? = some ops[i] by simp [hi]) he hb
        exact ih e.on this (by omega)
    rw [hr] at hm
    cases hm

theorem count_less {l : List Bool} {i : Nat} (hi : i < l.length) (h : l[i] = false) : (l.set i true).count false + 1 = l.count false := by
  induction l generalizing i with
  | nil => simp at hi
  | cons b l ih =>
    cases i with
    | zero => simp at h; subst h; simp
    | succ i =>
      simp only [List.set_cons_succ, List.count_cons]
      have := ih (i := i) (by simpa using hi) (by simpa using h)
      omega


/-- each operation but the last is waited for by a later one -/
def lastB (ops : Array Oper) : Bool := (List.range (ops.size - 1)).all fun i => (List.range ops.size).any fun j => decide (i < j) && (match ops[j]? with
  | some o => o.after.toList.any fun e => Region.binds .any e && decide (e.on = i)
  | none => false)

theorem last_all (hl : lastB ops = true) {f : Nat → Option Value} (hcl : ∀ j o, ops[j]? = some o → (f j).isSome = true → ∀ e ∈ o.after, Region.binds .any e = true → (f e.on).isSome = true)
    {o : Oper} (ho : ops[ops.size - 1]? = some o) (hdep : ∀ e ∈ o.after, Region.binds .any e = true → (f e.on).isSome = true) : ∀ k i, i + k + 1 = ops.size - 1 → (f i).isSome = true := by
  intro k
  induction k using Nat.strongRecOn with
  | ind k ih =>
    intro i hi
    unfold lastB at hl
    have h1 := (List.all_eq_true.1 hl) i (List.mem_range.2 (by omega))
    rw [List.any_eq_true] at h1
    obtain ⟨j, hj, h2⟩ := h1
    rw [Bool.and_eq_true, decide_eq_true_eq] at h2
    have hjn := List.mem_range.1 hj
    have hoj : ops[j]? = some ops[j] := by simp [hjn]
    rw [hoj] at h2
    simp only [List.any_eq_true, Bool.and_eq_true, decide_eq_true_eq] at h2
    obtain ⟨hij, e, he, hb, rfl⟩ := h2
    by_cases hjm : j = ops.size - 1
    · subst hjm
      rw [ho] at hoj
      cases hoj
      exact hdep e (by simpa using he) hb
    · exact hcl j _ hoj (ih (ops.size - 1 - 1 - j) (by omega) j (by omega)) e (by simpa using he) hb

theorem any_T (hlast : lastB ops = true ∨ E = C) (hord : ordOK ops = true) (hlook : lookOK ops = true) (hsel : Region.noSelect ops = true) (hap : Apart ops.toList) (a0 : Act) (g : Nat → Value × Bool)
    (hQ : ∀ ch a w, a.defers = a0.defers → D ch w → Q (.panic ch) a w)
    (hfact : ∀ k o, ops[k]? = some o → Fact P ops C (if k + 1 = ops.size then E else C) D o (fillF (cutF g k) 0 ops.toList a0) (g k))
    (fin : ∀ w, E w → (∀ k, k < ops.size → (g k).2 = false) → Q .normal (fillF (fun j => some (g j).1) 0 ops.toList a0) w) :
    ∀ (fuel : Nat) (listed : Array Bool) (f : Nat → Option Value) (w : World), listed.size = ops.size → (∀ i, i < ops.size → listed.getD i false = (f i).isSome) → (if (f (ops.size - 1)).isSome = true ∨ ops.size = 0 then E w else C w) → (∀ j o, ops[j]? = some o → (f j).isSome = true → ∀ e ∈ o.after, Region.binds .any e = true → (f e.on).isSome = true) → (∀ i v, f i = some v → v = (g i).1 ∧ (g i).2 = false) → listed.toList.count false ≤ fuel →
      wpAny P .any ops Q fuel listed (fillF f 0 ops.toList a0) w := by
  have done : ∀ (f : Nat → Option Value) (w : World), (∀ i, i < ops.size → (f i).isSome = true) → (if (f (ops.size - 1)).isSome = true ∨ ops.size = 0 then E w else C w) → (∀ i v, f i = some v → v = (g i).1 ∧ (g i).2 = false) → Q .normal (fillF f 0 ops.toList a0) w := by
    intro f w hall hC hf
    rw [if_pos (by
      rcases Nat.eq_zero_or_pos ops.size with h | h
      · exact .inr h
      · exact .inl (hall _ (by omega)))] at hC
    rw [fill_congr (f := f) (g := fun j => some (g j).1) ops.toList 0 a0 (fun i _ hi => by
      obtain ⟨v, hv⟩ := Option.isSome_iff_exists.1 (hall i (by simpa using hi))
      rw [hv, (hf i v hv).1])]
    refine fin w hC fun k hk => ?_
    obtain ⟨v, hv⟩ := Option.isSome_iff_exists.1 (hall k hk)
    exact (hf k v hv).2
  intro fuel
  induction fuel with
  | zero =>
    intro listed f w hs hl hC hcl0 hf hc
    have hall : ∀ i, i < ops.size → listed.getD i false = true := by
      intro i hi
      have h0 : listed.toList.count false = 0 := by omega
      rw [List.count_eq_zero] at h0
      have hil : i < listed.size := by omega
      simp only [Array.getD_eq_getD_getElem?, hil, getElem?_pos, Option.getD_some]
      refine Classical.byContradiction fun hn => h0 ?_
      have hf : listed[i] = false := by simpa using hn
      rw [← hf]
      simp
    refine ⟨?_, done f w (fun i hi => by rw [← hl i hi]; exact hall i hi) hC hf⟩
    refine List.eq_nil_iff_forall_not_mem.2 fun i hm => ?_
    obtain ⟨h1, o, ho, _⟩ := mem_ready.1 hm
    have hi : i < ops.size := (Array.getElem?_eq_some_iff.1 ho).1
    have h2 := hall i hi
    have hil : i < listed.size := by omega
    simp only [Array.getD_eq_getD_getElem?, hil, getElem?_pos, Option.getD_some] at h1 h2
    rw [h1] at h2
    cases h2
  | succ fuel ih =>
    intro listed f w hs hl hC hcl0 hf hc
    refine ⟨fun hr => done f w (fun i hi => by rw [← hl i hi]; exact ready_nil hord hs hr i hi) hC hf, fun i hm => ?_⟩
    obtain ⟨h1, o, ho, hdep⟩ := mem_ready.1 hm
    have hi : i < ops.size := (Array.getElem?_eq_some_iff.1 ho).1
    have hil : i < listed.size := by omega
    have hli : listed[i] = false := by simpa [Array.getD_eq_getD_getElem?, hil] using h1
    have hfi : f i = none := by
      have := hl i hi
      simp only [Array.getD_eq_getD_getElem?, hil, getElem?_pos, Option.getD_some, hli] at this
      cases hfx : f i with
      | none => rfl
      | some v => rw [hfx] at this; cases this
    have hag : ∀ j oj, ops[j]? = some oj → ∀ d, oj.dst = some d → d ∈ o.looksAt ops → ∃ v, f j = some v ∧ cutF g i j = some v := by
      intro j oj hj d hd hm
      obtain ⟨e, he, hb, rfl⟩ := look_spec hlook ho hj hd hm
      have hlt := ord_spec hord ho he hb
      have h2 := hdep e he hb
      rw [hl e.on (by omega)] at h2
      obtain ⟨v, hv⟩ := Option.isSome_iff_exists.1 h2
      refine ⟨v, hv, ?_⟩
      unfold cutF
      rw [if_pos hlt, (hf _ _ hv).1]
    obtain ⟨e1, e2⟩ := exec_eq hap (Region.noSelect_spec hsel i o · · ho) (a0 := a0) hag
    have hdf : ∀ e ∈ o.after, Region.binds .any e = true → (f e.on).isSome = true := fun e he hb => by
      rw [← hl e.on (by have := ord_spec hord ho he hb; omega)]
      exact hdep e he hb
    have hCw : C w := by
      by_cases hx : (f (ops.size - 1)).isSome = true ∨ ops.size = 0
      · rw [if_pos hx] at hC
        rcases hlast with hla | rfl
        · rcases hx with hx | hx
          · have hm1 : ops[ops.size - 1]? = some ops[ops.size - 1] := by simp
            have hall := last_all hla hcl0 hm1 (fun e he hb => hcl0 _ _ hm1 hx e he hb)
            have : (f i).isSome = true := by
              by_cases e : i = ops.size - 1
              · rw [e]; exact hx
              · exact hall (ops.size - 1 - 1 - i) i (by omega)
            rw [hfi] at this
            cases this
          · omega
        · exact hC
      · rwa [if_neg hx] at hC
    have next : ∀ v w', v = (g i).1 → (g i).2 = false → (if i + 1 = ops.size then E else C) w' → wpAny P .any ops Q fuel (listed.setIfInBounds i true) ((fillF f 0 ops.toList a0).put o.dst v) w' := by
      intro v w' hv hd hC'
      have hfu := fill_upd f v ops.toList 0 i a0 o hap (by simpa using ho) (by simpa using hfi)
      rw [Nat.zero_add] at hfu
      rw [hfu]
      refine ih _ _ _ (by simpa using hs) (fun j hj => ?_) ?_ (fun j oj hj hsj e he hb => ?_) (fun j u hu => ?_) ?_
      · by_cases e : j = i
        · subst e
          rw [upd_same]
          simp [Array.getD_eq_getD_getElem?, hil]
        · rw [upd_other f v e, ← hl j hj]
          simp [Array.getD_eq_getD_getElem?, Array.getElem?_setIfInBounds_ne (Ne.symm e)]
      · by_cases e : i + 1 = ops.size
        · rw [if_pos e] at hC'
          rw [if_pos (.inl (by rw [show ops.size - 1 = i by omega, upd_same]; rfl))]
          exact hC'
        · rw [if_neg e] at hC'
          split
          · rename_i hx
            rcases hx with hx | hx
            · rw [upd_other f v (by omega)] at hx
              rcases hlast with hla | rfl
              · exfalso
                have hm1 : ops[ops.size - 1]? = some ops[ops.size - 1] := by simp
                have := last_all hla hcl0 hm1 (fun e he hb => hcl0 _ _ hm1 hx e he hb) (ops.size - 1 - 1 - i) i (by omega)
                rw [hfi] at this
                cases this
              · exact hC'
            · omega
          · exact hC'
      · by_cases e2 : e.on = i
        · rw [e2, upd_same]; rfl
        · rw [upd_other f v e2]
          by_cases e3 : j = i
          · subst e3
            rw [ho] at hj
            cases hj
            exact hdf e he hb
          · rw [upd_other f v e3] at hsj
            exact hcl0 j oj hj hsj e he hb
      · by_cases e : j = i
        · subst e
          rw [upd_same] at hu
          cases hu
          exact ⟨hv, hd⟩
        · rw [upd_other f v e] at hu
          exact hf j u hu
      · have hcl := count_less (l := listed.toList) (i := i) (by simpa using hil) (by simpa using hli)
        have : (listed.setIfInBounds i true).toList = listed.toList.set i true := by simp
        rw [this]
        omega
    unfold wpOp
    rw [ho]
    simp only [e2]
    rcases hfact i o ho with ⟨hw, hu⟩ | ⟨hw, hg, hn⟩
    · rw [if_pos hw]
      refine .inl ?_
      unfold Oper.wp
      rw [e1]
      have hu := hu w hCw
      generalize (execOp (fillF (cutF g i) 0 ops.toList a0).eval o).run P w = res at hu ⊢
      cases res with
      | ok n w' =>
        cases n <;> simp only [upT] at hu <;> simp only [Oper.upon]
        case value u => exact next u w' hu.1 hu.2.1 hu.2.2
        case skip => exact next undef w' hu.1 hu.2.1 hu.2.2
        case enter fn args =>
          refine hu.mono fun e w'' he => ?_
          rcases he with ⟨rfl, hd, hC'⟩ | ⟨ch, rfl, hD⟩
          · exact next _ w'' rfl hd hC'
          · exact hQ ch _ w'' (fill_defers _ _ _ _) hD
      | halt x w' => simp only [upT] at hu
    · rw [if_neg (by rw [hw]; decide)]
      exact next undef w (by rw [hg]) (by rw [hg]) (hn w hCw)

/-- THE LAW: E is what holds behind the last operation of the text; it is C, or each other operation is waited for. -/
theorem wp_region_try {id : Nat} {a0 : Act} {w0 : World} (hm : P.follows .mixedOrders = true) (hB : okB ops = true) (C E : World → Prop) (hlast : lastB ops = true ∨ E = C) (hne : ops.size ≠ 0) (D : List PanicEntry → World → Prop) (h0 : C w0.drew)
    (hQ : ∀ ch a w, a.defers = a0.defers → D ch w → Q (.panic ch) a w) (h : wpT P ops C E D (fun a => ∀ w, E w → Q .normal a w) ops.toList a0 false) :
    (Code.region id ops true).wp P Q a0 w0 := by
  refine wp_region_any hm ?_
  unfold okB at hB
  simp only [Bool.and_eq_true] at hB
  obtain ⟨⟨⟨hs, ho⟩, hl⟩, ha⟩ := hB
  obtain ⟨g, hg1, hg2⟩ := extr ops.toList 0 a0 false h
  have := any_T (P := P) (Q := Q) (C := C) (E := E) (D := D) hlast ho hl hs (apart_of _ ha) a0 g hQ (fun k o hk => by
      have := hg1 k o (by simpa using hk)
      rw [Nat.zero_add] at this
      simpa using this) (fun w hC hall => hg2 rfl (fun k hk => by rw [Nat.zero_add]; exact hall k (by simpa using hk)) w hC)
    ops.size (Array.replicate ops.size false) (fun _ => none) w0.drew (by simp) (fun i hi => by simp [Array.getD_eq_getD_getElem?, hi]) (by rw [if_neg (by simp [hne])]; exact h0) (fun j o _ h => by cases h) (fun i v h => by cases h) (by simp)
  rw [fill_none _ _ _ _ (fun _ _ _ => rfl)] at this
  exact this

/-- The same of a region that is written out. -/
theorem wp_region_try_lit {id : Nat} {a0 : Act} {w0 : World} {l : List Oper} (hm : P.follows .mixedOrders = true) (hB : okB l.toArray = true) (C E : World → Prop) (hlast : lastB l.toArray = true ∨ E = C) (hne : l.length ≠ 0) (D : List PanicEntry → World → Prop) (h0 : C w0.drew)
    (hQ : ∀ ch a w, a.defers = a0.defers → D ch w → Q (.panic ch) a w) (h : wpT P l.toArray C E D (fun a => ∀ w, E w → Q .normal a w) l a0 false) :
    (Code.region id l.toArray true).wp P Q a0 w0 := wp_region_try hm hB C E hlast (by simpa using hne) D h0 hQ (by simpa using h)

end Go.Rq

set_option linter.unusedSimpArgs false
set_option linter.unusedVariables false
namespace Go.Proofs.YtdokpimhhkbdbaaDoor
open Go.RowKit

/-- the digits of a stored block that is not the last one, at a byte's beginning -/
def blkA (A : List Nat) : List (Nat × Nat) := lowP 0 3 :: lowP 0 5 :: lowP A.length 16 :: lowP (A.length ^^^ 65535) 16 :: A.map fun x => lowP x 8
def stepsB (B : List Nat) (far : Nat) : List Lz.St := ⟨0, 3, far⟩ :: B.map fun x => ⟨x, 0, 0⟩
def blkR (A B : List Nat) (far : Nat) : List (Nat × Nat) := blkA A ++ (lowP 0 1 :: lowP 1 2 :: ((stepsB B far).flatMap pcs ++ (sigP litsL 256 :: lowP 1 1 :: lowP 1 2 :: [sigP litsL 256])))

theorem wid_bytes (A : List Nat) : wid (A.map fun x => lowP x 8) = 8 * A.length := by
  induction A with
  | nil => rfl
  | cons a A ih => rw [List.map_cons, wid_cons, ih]; show 8 + _ = _; simp; omega

theorem ag_bytes (y : List Nat) (R : List (Nat × Nat)) : ∀ (A : List Nat) (P : Nat), Small A → Ag y P ((A.map fun x => lowP x 8) ++ R) → P + 8 * A.length ≤ 8 * y.length → Q.bytesAt y P A.length = A ∧ Ag y (P + 8 * A.length) R
  | [], P, _, h, _ => ⟨rfl, h⟩
  | a :: A, P, hs, h, hl => by
    simp only [List.length_cons] at hl ⊢
    have h' : Ag y P (lowP a 8 :: ((A.map fun x => lowP x 8) ++ R)) := h
    have ha : a < 256 := hs a (by simp)
    have d := low_dig h' (show a < 2 ^ 8 by omega) (by omega)
    obtain ⟨i1, i2⟩ := ag_bytes y R A (P + 8) (fun x hx => hs x (by simp [hx])) (h'.tail (lowP_lt _ _)) (by omega)
    refine ⟨?_, ?_⟩
    · unfold Q.bytesAt at i1 ⊢
      rw [List.range_succ_eq_map, List.map_cons, List.map_map]
      have e : (List.range A.length).map ((fun k => Q.dig y (P + 8 * k) 8) ∘ Nat.succ) = (List.range A.length).map fun k => Q.dig y (P + 8 + 8 * k) 8 := by
        apply List.map_congr_left
        intro k _
        show Q.dig y (P + 8 * (k + 1)) 8 = _
        congr 1; omega
      rw [e, i1, Nat.mul_zero, Nat.add_zero, d]
    · rw [show P + 8 * (A.length + 1) = P + 8 + 8 * A.length by omega]
      exact i2

set_option maxRecDepth 100000 in
theorem blkR_lt (A B : List Nat) (far : Nat) : ∀ x ∈ blkR A B far, x.1 < 2 ^ x.2 := by
  intro x hx
  unfold blkR blkA at hx
  simp only [List.mem_append, List.mem_cons, List.mem_map, List.mem_flatMap, List.not_mem_nil, or_false] at hx
  rcases hx with (rfl | rfl | rfl | rfl | ⟨a, _, rfl⟩) | rfl | rfl | ⟨s, _, hs⟩ | rfl | rfl | rfl | rfl
  all_goals first | exact lowP_lt _ _ | exact sigP_lt _ _ | exact pcs_lt s x hs

set_option maxRecDepth 100000 in
theorem blocks_unp (A B : List Nat) (far : Nat) (hA : Small A) (hlA : A.length ≤ 40) (hst : ∀ s ∈ stepsB B far, StOk s) (want : List Nat) (hJ : Lz.joinL A (stepsB B far) = some want) (y : List Nat) (h : Writ (blkR A B far) y) : Q.unp y = .ok want := by
  have hl := h.2.2
  have hrest := h.rest (blkR_lt A B far)
  have ha := h.ag
  obtain ⟨W, hW⟩ : ∃ W, W = wid ((stepsB B far).flatMap pcs) := ⟨_, rfl⟩
  have e7 : (sigP litsL 256).2 = 7 := lits_256.1
  have hw : wid (blkR A B far) = 40 + 8 * A.length + (3 + (W + (7 + (1 + (2 + 7))))) := by
    unfold blkR blkA
    rw [wid_append, wid_cons, wid_cons, wid_cons, wid_cons, wid_bytes, wid_cons, wid_cons, wid_append, wid_cons, wid_cons, wid_cons, wid_cons, wid_nil, ← hW, e7]
    show 3 + (5 + (16 + (16 + _))) + (1 + (2 + (W + (7 + (1 + (2 + (7 + 0))))))) = _
    omega
  have hx : A.length ^^^ 65535 < 2 ^ 16 := Nat.xor_lt_two_pow (by omega) (by decide)
  -- the stored block
  have t1 : Ag y 3 _ := ha.tail (lowP_lt 0 3)
  have t2 : Ag y 8 _ := t1.tail (lowP_lt 0 5)
  have t3 : Ag y 24 _ := t2.tail (lowP_lt _ 16)
  have t4 : Ag y 40 _ := t3.tail (lowP_lt _ 16)
  have d0 : Q.dig y 0 3 = 0 := low_dig ha (by decide) (by omega)
  have d1 : Q.dig y 8 16 = A.length := low_dig t2 (by omega) (by omega)
  have d2 : Q.dig y 24 16 = A.length ^^^ 65535 := low_dig t3 hx (by omega)
  have d01 : Q.dig y 0 1 = 0 := by unfold Q.dig at d0 ⊢; omega
  have d02 : Q.dig y 1 2 = 0 := by
    unfold Q.dig at d0 ⊢
    rw [Nat.pow_zero, Nat.div_one] at d0
    omega
  obtain ⟨b1, t5⟩ := ag_bytes y _ A 40 hA t4 (by omega)
  have hs0 : Q.stoAt y 3 [] = .ok (40 + 8 * A.length, A) := by
    unfold Q.stoAt
    rw [show (3 + 7) / 8 * 8 = 8 from rfl, d1, show 8 + 16 = 24 from rfl, d2, if_neg (by omega), if_neg (by omega), if_neg (by simp), if_neg (by omega), if_neg (by simp; omega), show 8 + 32 = 40 from rfl, b1, List.nil_append, Nat.mul_comm A.length 8]
  -- the block of fixed codes
  obtain ⟨P1, hP1⟩ : ∃ P1, P1 = 40 + 8 * A.length := ⟨_, rfl⟩
  rw [← hP1] at t5 hs0 hw
  have t6 : Ag y (P1 + 1) _ := t5.tail (lowP_lt 0 1)
  have t7 : Ag y (P1 + 1 + 2) _ := t6.tail (lowP_lt 1 2)
  have f0 : Q.dig y P1 1 = 0 := low_dig t5 (by decide) (by omega)
  have f1 : Q.dig y (P1 + 1) 2 = 1 := low_dig t6 (by decide) (by omega)
  obtain ⟨j1, j2⟩ := cod_join y _ (stepsB B far) A want (P1 + 1 + 2) hst hJ (by omega) t7 (by omega)
  rw [← hW] at j1 j2
  obtain ⟨P2, hP2⟩ : ∃ P2, P2 = P1 + 1 + 2 + W := ⟨_, rfl⟩
  rw [← hP2] at j1 j2
  obtain ⟨c1, c2⟩ := cod_end y want P2 _ j2 (by omega)
  -- the empty one
  obtain ⟨P3, hP3⟩ : ∃ P3, P3 = P2 + 7 := ⟨_, rfl⟩
  rw [← hP3] at c1 c2
  have t8 : Ag y (P3 + 1) _ := c2.tail (lowP_lt 1 1)
  have t9 : Ag y (P3 + 1 + 2) _ := t8.tail (lowP_lt 1 2)
  have g0 : Q.dig y P3 1 = 1 := low_dig c2 (by decide) (by omega)
  have g1 : Q.dig y (P3 + 1) 2 = 1 := low_dig t8 (by decide) (by omega)
  obtain ⟨c3, _⟩ := cod_end y want (P3 + 1 + 2) _ t9 (by omega)
  have hfu : Q.unp y = match Q.allAt y (8 * y.length + 1) 0 [] with
    | .error n => .error n
    | .ok (p, o) => if 8 * y.length - p < 8 ∧ Q.dig y p (8 * y.length - p) = 0 then .ok o else .error 2 := rfl
  obtain ⟨F, hF⟩ : ∃ F, 8 * y.length + 1 = F + 1 + 1 + 1 := ⟨8 * y.length - 2, by omega⟩
  have hall : Q.allAt y (F + 1 + 1 + 1) 0 [] = .ok (P3 + 1 + 2 + 7, want) := by
    rw [Q.allAt, if_neg (by omega), if_neg (by omega), show 0 + 1 = 1 from rfl, d02, show 1 + 2 = 3 from rfl]
    unfold Q.blkAt
    rw [if_pos rfl, hs0]
    simp only
    rw [d01, if_neg (by decide), Q.allAt, if_neg (by omega), if_neg (by omega), f1]
    unfold Q.blkAt
    rw [if_neg (by decide), if_pos rfl, j1, c1]
    simp only
    rw [f0, if_neg (by decide), Q.allAt, if_neg (by omega), if_neg (by omega), g1]
    unfold Q.blkAt
    rw [if_neg (by decide), if_pos rfl, c3]
    simp only
    rw [g0, if_pos rfl]
  rw [hfu, hF, hall]
  simp only
  have ep : P3 + 1 + 2 + 7 = wid (blkR A B far) := by omega
  rw [ep, if_pos hrest]

/-! what the steps make -/
theorem join_lits : ∀ (B out : List Nat), Small B → out.length + B.length ≤ 65536 → Lz.joinL out (B.map fun x => ⟨x, 0, 0⟩) = some (out ++ B)
  | [], out, _, _ => by simp [Lz.joinL]
  | b :: B, out, hs, hl => by
    have e : Lz.stepJ out ⟨b, 0, 0⟩ = some (out ++ [b]) := by
      unfold Lz.stepJ
      rw [if_pos (by refine ⟨⟨by simp, by simp⟩, fun h => by simp at h, ?_⟩; simp at hl; show ((out.length : Nat) : Int) + max (0 : Int) 1 ≤ 65536; omega), if_pos rfl]
    simp only [List.map_cons, Lz.joinL, e]
    rw [join_lits B (out ++ [b]) (fun x hx => hs x (by simp [hx])) (by simp at hl ⊢; omega)]
    simp

theorem lits_ok2 (B : List Nat) (far : Nat) (hB : Small B) (h1 : 1 ≤ far) (h2 : far ≤ 40) : ∀ s ∈ stepsB B far, StOk s := by
  intro s hs
  unfold stepsB at hs
  rcases List.mem_cons.1 hs with rfl | hs
  · exact .inr ⟨rfl, by show (3 : Int) ≤ 3; decide, by show (3 : Int) ≤ 258; decide, by show (1 : Int) ≤ far; omega, by show (far : Int) ≤ 32768; omega⟩
  · obtain ⟨x, hx, rfl⟩ := List.mem_map.1 hs
    exact .inl ⟨rfl, rfl, hB x hx⟩
end Go.Proofs.YtdokpimhhkbdbaaDoor

set_option linter.unusedSimpArgs false
set_option linter.unusedVariables false
namespace Go.Proofs.YtdokpimhhkbdbaaDoor
open Go.RowKit

/-- The writer at p, and the four rows of numbers. -/
structure M4 (p : Nat) (w wr : World) (S : Nat × Nat) (g1 g2 g3 g4 : Nat) : Prop where
  ms : Ms p w wr S g1 g2 g3
  t4 : Tb wr g4 32 (codesOf distsL)

theorem M4.go {p : Nat} {w wr w' : World} {S S' : Nat × Nat} {g1 g2 g3 g4 : Nat} (h : M4 p w wr S g1 g2 g3 g4) (hg : Gx p w w' S') (k : Kp wr w') : M4 p w w' S' g1 g2 g3 g4 := ⟨h.ms.go hg k, h.t4.keep k⟩
theorem M4.old {p : Nat} {w wr w' : World} {S : Nat × Nat} {g1 g2 g3 g4 : Nat} (h : M4 p w wr S g1 g2 g3 g4) (hb : Below wr.heap.size wr w') : M4 p w w' S g1 g2 g3 g4 := h.go (h.ms.gx.old hb) (Kp.ofBelow hb)
theorem M4.drew {p : Nat} {w wr : World} {S : Nat × Nat} {g1 g2 g3 g4 : Nat} (h : M4 p w wr S g1 g2 g3 g4) : M4 p w wr.drew S g1 g2 g3 g4 := h.old ⟨rfl, rfl, rfl, Nat.le_refl _, fun _ _ => rfl⟩
theorem M4.sig {p : Nat} {w wr : World} {S : Nat × Nat} {g1 g2 g3 g4 : Nat} (h : M4 p w wr S g1 g2 g3 g4) (t : List Nat) (s : Nat) (hc : nth t s ≤ 16) (hT : S.2 < 900000) :
    Calls Tryd.prog 17 #[.pointer (some ⟨p, 0, none⟩), .int .i64 (code t s : Nat), .int .i64 (nth t s : Nat)] wr fun e w' => e = .returned (.tuple #[]) ∧ M4 p w w' (wadd S (sigP t s)) g1 g2 g3 g4 :=
  (h.ms.gx.sig t s hc hT).mono fun e w' ⟨h1, h2, h3⟩ => ⟨h1, h.go h2 h3⟩
theorem M4.put {p : Nat} {w wr : World} {S : Nat × Nat} {g1 g2 g3 g4 : Nat} (h : M4 p w wr S g1 g2 g3 g4) (x k : Nat) (hc : k ≤ 16) (hT : S.2 < 900000) :
    Calls Tryd.prog 12 #[.pointer (some ⟨p, 0, none⟩), .int .i64 (x : Int), .int .i64 (k : Int)] wr fun e w' => e = .returned (.tuple #[]) ∧ M4 p w w' (wadd S (lowP x k)) g1 g2 g3 g4 :=
  (h.ms.gx.put x k hc hT).mono fun e w' ⟨h1, h2, h3⟩ => ⟨h1, h.go h2 h3⟩
theorem M4.lit {p : Nat} {w wr : World} {S : Nat × Nat} {g1 g2 g3 g4 : Nat} (h : M4 p w wr S g1 g2 g3 g4) (s : Nat) (hs : s < 288) : wr.cell? ⟨g1, s, none⟩ = some (.int .i64 (nth litsL s : Nat)) ∧ wr.cell? ⟨g3, s, none⟩ = some (.int .i64 (code litsL s : Nat)) := h.ms.lit s hs
theorem M4.dis {p : Nat} {w wr : World} {S : Nat × Nat} {g1 g2 g3 g4 : Nat} (h : M4 p w wr S g1 g2 g3 g4) (s : Nat) (hs : s < 32) : wr.cell? ⟨g2, s, none⟩ = some (.int .i64 (nth distsL s : Nat)) ∧ wr.cell? ⟨g4, s, none⟩ = some (.int .i64 (code distsL s : Nat)) :=
  ⟨h.ms.t2.2 s hs, by rw [← code_dists s hs]; exact h.t4.2 s hs⟩

/-- The writer's state behind some pieces. -/
def fw (R : List (Nat × Nat)) : Nat × Nat := R.foldl wadd (0, 0)
theorem fw_snoc (R : List (Nat × Nat)) (x : Nat × Nat) : fw (R ++ [x]) = wadd (fw R) x := by simp [fw]
theorem fw_wid (R : List (Nat × Nat)) : (fw R).2 = wid R := by unfold fw; rw [fold_wid]; simp

/-- the stored block as far as j bytes -/
def blkJ (A : List Nat) (j : Nat) : List (Nat × Nat) := lowP 0 3 :: lowP 0 5 :: lowP A.length 16 :: lowP (A.length ^^^ 65535) 16 :: (A.take j).map fun x => lowP x 8
theorem blkJ_all (A : List Nat) : blkJ A A.length = blkA A := by unfold blkJ blkA; rw [List.take_length]
theorem blkJ_succ (A : List Nat) (j : Nat) (hj : j < A.length) : blkJ A (j + 1) = blkJ A j ++ [lowP (A.getD j 0) 8] := by
  have e : A.take (j + 1) = A.take j ++ [A.getD j 0] := by rw [List.take_add_one]; simp [hj]
  unfold blkJ
  rw [e, List.map_append]
  simp only [List.cons_append, List.map_cons, List.map_nil]
theorem blkJ_wid (A : List Nat) (j : Nat) (hj : j ≤ A.length) : wid (blkJ A j) = 40 + 8 * j := by
  unfold blkJ
  rw [wid_cons, wid_cons, wid_cons, wid_cons, wid_bytes]
  show 3 + (5 + (16 + (16 + _))) = _
  rw [List.length_take]
  omega

theorem align8 : ((fw [lowP 0 3]).1, ((fw [lowP 0 3]).2 + 7) / 8 * 8) = fw [lowP 0 3, lowP 0 5] := by decide

/-- the block of fixed codes as far as j of its bytes -/
def blkK (A B : List Nat) (far j : Nat) : List (Nat × Nat) := blkA A ++ (lowP 0 1 :: lowP 1 2 :: (pcs ⟨0, 3, far⟩ ++ (B.take j).map fun x => sigP litsL x))
theorem blkK_succ (A B : List Nat) (far j : Nat) (hj : j < B.length) : blkK A B far (j + 1) = blkK A B far j ++ [sigP litsL (B.getD j 0)] := by
  have e : B.take (j + 1) = B.take j ++ [B.getD j 0] := by rw [List.take_add_one]; simp [hj]
  unfold blkK
  rw [e, List.map_append]
  simp only [List.append_assoc, List.cons_append, List.map_cons, List.map_nil]
theorem pcs_lits (B : List Nat) : (B.map fun x => (⟨x, 0, 0⟩ : Lz.St)).flatMap pcs = B.map fun x => sigP litsL x := by
  induction B with
  | nil => rfl
  | cons b B ih => rw [List.map_cons, List.flatMap_cons, ih]; rfl
theorem blkK_all (A B : List Nat) (far : Nat) : blkK A B far B.length ++ [sigP litsL 256, lowP 1 1, lowP 1 2, sigP litsL 256] = blkR A B far := by
  unfold blkK blkR stepsB
  rw [List.take_length, List.flatMap_cons, pcs_lits]
  simp

/-- the row from far back, and what makes it -/
theorem pcs_row (far : Nat) (h : 1 ≤ far) : pcs ⟨0, 3, far⟩ = [sigP litsL (257 + lenC 3), lowP (3 - Lz.lenB (lenC 3)) (Lz.lenN (lenC 3)), sigP distsL (disC far), lowP (far - Lz.disB (disC far)) (Lz.disN (disC far))] := by
  unfold pcs
  rw [if_neg (by show ¬ (3 : Int) = 0; decide)]
  simp only [Int.toNat_natCast]
  rfl
end Go.Proofs.YtdokpimhhkbdbaaDoor

set_option linter.unusedSimpArgs false
set_option linter.unusedVariables false
namespace Go.Proofs.YtdokpimhhkbdbaaDoor
open Go.RowKit

theorem and16 : ∀ k : Fin 41, bits .and .i64 (-(k.val : Int) - 1) 65535 = ((k.val ^^^ 65535 : Nat) : Int) := by decide +kernel

theorem news3 (w : World) : ∀ (j : Nat) (u : Value), ([Value.int .u8 120, .int .u8 121, .int .u8 122] : List Value)[j]? = some u → (w.alloc (.cells #[.int .u8 120, .int .u8 121, .int .u8 122] 5)).cell? ((⟨w.heap.size, 0, none⟩ : Addr).add j) = some u := by
  intro j u hj
  rw [show (⟨w.heap.size, 0, none⟩ : Addr).add j = ⟨w.heap.size, j, none⟩ by unfold Addr.add; split <;> simp_all, cell_of_row _ _ j _ 5 (0, 0) (heap_alloc_new w _)]
  rw [← hj]
  simp

theorem pos3 {j k : Nat} (h : 3 ≤ j) : 0 < j + k := by omega
theorem sub_lt3 {d m far j k : Nat} (hd : d = m - far) (hm : m = j + k) (hf : 1 ≤ far) (hj : 3 ≤ j) : d < m := by omega
theorem sub_far {d m far j k : Nat} (hd : d = m - far) (hm : m = j + k) (hf : far ≤ j) (hj : j ≤ 33) (hk : k ≤ 3) : wrap64 ((m : Int) - (far : Int)) = (d : Int) := by unfold wrap64; omega
theorem wrap_k {k : Nat} (h : k < 3) : wrap64 ((k : Int) + 1) = (k : Int) + 1 := by unfold wrap64; omega
theorem m_small {m j k : Nat} (hm : m = j + k) (hj : j ≤ 33) (hk : k ≤ 3) : m + 1 ≤ 140737488355328 := by omega
theorem small40 {j i n : Nat} (hj : j ≤ 33) (hi : i ≤ 20) (hn : i = n) : j + 3 + n ≤ 140737488400000 := by omega
theorem small41 {j i : Nat} (hj : j ≤ 33) (hi : i ≤ 20) : j + 3 + i ≤ 281474976710656 := by omega
theorem writ_small {R : List (Nat × Nat)} {bs : List Nat} {x : Nat} (h : Writ R bs) (hx : x = wid R) (hb : x ≤ 640) : bs.length ≤ 140737488355328 := by
  have := h.2.2
  omega
theorem join_blocks (A B : List Nat) (far : Nat) (hB : Small B) (h1 : 1 ≤ far) (h2 : far ≤ A.length) (h3 : A.length ≤ 33) (h4 : B.length ≤ 20) : Lz.joinL A (stepsB B far) = some (Lz.rowOf A far 3 ++ B) := by
  have e : Lz.stepJ A ⟨0, 3, far⟩ = some (Lz.rowOf A far 3) := by
    unfold Lz.stepJ
    rw [if_pos (by refine ⟨⟨by show (0 : Int) ≤ 3; decide, by show (3 : Int) ≤ 258; decide⟩, fun _ => ⟨by show (1 : Int) ≤ far; omega, by show (far : Int) ≤ A.length; omega⟩, ?_⟩; show ((A.length : Nat) : Int) + max (3 : Int) 1 ≤ 65536; omega), if_neg (by show ¬ (3 : Int) = 0; decide)]
    simp only [Int.toNat_natCast]
    rfl
  unfold stepsB
  simp only [Lz.joinL, e]
  exact join_lits B _ hB (by rw [Lz.rowOf_len]; omega)

theorem wrap_far {r j far : Nat} (hr : r < j) (hj : j ≤ 33) (hf : far = r + 1) : wrap64 (1 + (r : Int)) = (far : Int) := by
  unfold wrap64; omega
theorem far_le {j far : Nat} (h : far ≤ j) (hj : j ≤ 33) : (far : Int) ≤ 32768 := by omega

theorem measN2 {k n : Nat} (h : k < n) : n - (intOf (.int .i64 ((k : Int) + 1))).toNat < n - (intOf (.int .i64 (k : Int))).toNat := by
  simp [intOf]; omega

theorem Small.getD {L : List Nat} (h : Small L) (j : Nat) : L.getD j 0 < 256 := by
  rw [List.getD_eq_getElem?_getD]
  cases hx : L[j]? with
  | none => simp
  | some x => exact h x (List.mem_of_getElem? hx)

theorem owns3_old {w w' : World} {v : Value} {n : Nat} {xs : List Value} (h : w.ownsRow 0 3 1 v n xs) (hb : Below w.heap.size w w') : w'.ownsRow 0 3 1 v n xs := by
  refine ⟨h.1, ?_⟩
  rcases h.2 with h2 | ⟨g, cap, cur, rfl, hB, hg, r⟩
  · exact .inl h2
  · refine .inr ⟨g, cap, cur, rfl, hB, ?_, r⟩
    rw [hb.block g (Array.getElem?_eq_some_iff.1 hg).1]
    exact hg

set_option maxRecDepth 100000 in
set_option maxHeartbeats 16000000 in
theorem blocks_law (w : World) (av bv : Value) (A0 B0 : List Nat) (n : Int) (hA : Lies w av A0) (hB : Lies w bv B0) (sA : Small A0) (sB : Small B0) (lA : A0.length ≤ 140737488351232) (lB : B0.length ≤ 140737488351232) :
    Calls Tryd.prog 4 #[av, bv, .int .i64 n] w fun e w' => e = .returned (.bool true) ∧ Below w.heap.size w w' := by
  obtain ⟨A, hAd⟩ : ∃ A, A = A0.take 30 ++ [120, 121, 122] := ⟨_, rfl⟩
  obtain ⟨B, hBd⟩ : ∃ B, B = B0.take 20 := ⟨_, rfl⟩
  obtain ⟨nA, hnA⟩ : ∃ nA, nA = A.length := ⟨_, rfl⟩
  obtain ⟨nB, hnB⟩ : ∃ nB, nB = B.length := ⟨_, rfl⟩
  have hA1 : 3 ≤ nA ∧ nA ≤ 33 := by
    rw [hnA, hAd, List.length_append, List.length_take]
    simp; omega
  have hB1 : nB ≤ 20 := by rw [hnB, hBd, List.length_take]; omega
  have SA : Hid (Small A) := by
    show Small A
    rw [hAd]
    intro x hx
    rcases List.mem_append.1 hx with hx | hx
    · exact sA x (List.mem_of_mem_take hx)
    · simp at hx; omega
  have SB : Hid (Small B) := by
    show Small B
    rw [hBd]
    intro x hx
    exact sB x (List.mem_of_mem_take hx)
  obtain ⟨m0, hm0⟩ : ∃ m0, m0 = (A0.take 30).length := ⟨_, rfl⟩
  have kc1 : Hid (Calls Tryd.prog 11 #[av, .int .i64 30] w fun e w' => ∃ v', e = .returned v' ∧ w'.ownsRow w.heap.size 5 1 v' m0 ((A0.take 30).map byteV) ∧ Below w.heap.size w w') := by rw [hm0]; exact cut_walk w av A0 30 (by decide) hA (by omega)
  have kc2 : Hid (∀ wx, Lies wx bv B0 → Calls Tryd.prog 11 #[bv, .int .i64 20] wx fun e w' => ∃ bo cB, e = .returned (.slice bo nB cB) ∧ Hid (Lies w' (.slice bo nB cB) B) ∧ Below wx.heap.size wx w') := fun wx h => by
    refine (cut_walk wx bv B0 20 (by decide) h (by omega)).mono ?_
    rintro e w' ⟨v', rfl, ho, hb⟩
    obtain ⟨ao, cap, rfl, hl, _⟩ := Q.lies_form nB (by rw [hnB, hBd]) (lies_own ho)
    exact ⟨ao, cap, rfl, by rw [hBd]; exact hl, hb⟩
  have hm3 : m0 + 3 = nA := by rw [hnA, hAd, hm0]; simp
  have HBV := Q.mkHid hB
  have HAD : Hid ((A0.take 30).map byteV ++ [.int .u8 120, .int .u8 121, .int .u8 122] = A.map byteV) := by show _ = _; rw [hAd, List.map_append]; rfl
  have HNA := Q.mkHid hnA
  have HNB := Q.mkHid hnB
  have HM3 := Q.mkHid hm3
  have HA1 := Q.mkHid hA1
  have HB1 := Q.mkHid hB1
  have hm0b : m0 + 3 ≤ 140737488355328 := by omega
  clear hA hB sA sB lA lB hAd hBd hnA hnB hm0 hm3
  go_enter Tryd.func4, Tryd.ntmps4
  go_upto_region 2 with (first
    | (go_at_call 11; (with_reducible refine kc1.out.mono ?_); rintro e w1 ⟨v1, rfl, o1, b1⟩
       have O1 := Q.mkHid o1
       have B1 := Q.mkHid b1
       clear o1 b1)
    | (at_builtin; refine Q.wpList_appB rfl (.tmp 27) (.tmp 28) rfl w.heap.size _ m0 _ rfl (O1.out.alloc _) ⟨w1.heap.size, 0, none⟩ 3 3 [.int .u8 120, .int .u8 121, .int .u8 122] rfl rfl (news3 w1) (by intro u hu; simp at hu; rcases hu with rfl | rfl | rfl <;> rfl) (by decide) hm0b (Nat.le_trans B1.out.size (by simp)) ?_
       intro v2 w2 o2 b2 g2
       have o2' : w2.ownsRow w.heap.size 5 1 v2 nA (A.map byteV) := by rw [HAD.out, HM3.out] at o2; exact o2
       obtain ⟨ao, cA, rfl, la, -, hsome⟩ := Q.lies_form nA HNA.out (lies_n HNA.out.symm o2')
       obtain ⟨ad, rfl⟩ := hsome (by have := HA1.out; omega)
       have LA := Q.mkHid la
       have B2 : Hid (Below w.heap.size w w2) := (B1.out.alloc B1.out.size _).trans b2
       clear o2 o2' b2 g2 la)
    | (go_at_call 11; (with_reducible refine (kc2.out _ (HBV.out.old B2.out)).mono ?_); rintro e w3 ⟨bo, cB, rfl, LB, b3⟩
       have LA3 := Q.mkHid (LA.out.old b3)
       have B3 := Q.mkHid (B2.out.trans (b3.mono B2.out.size))
       clear b3))
  obtain ⟨p, hp⟩ : ∃ p, p = w3.heap.size := ⟨_, rfl⟩
  have G0 : Hid (Gx p w3 (w3.alloc (.cells #[.slice none 0 0, .int .i64 0, .bool false] 35)) (0, 0)) := by rw [hp]; exact Gx.first w3
  have HCA : Hid (∀ wx, Below p w3 wx → ∀ j, j < nA → wx.cell? (ad.add j) = some (.int .u8 (A.getD j 0 : Nat))) := fun wx hb j hj => by
    have hl := LA3.out
    obtain ⟨a, cap, e, hc⟩ := hl.at (by rw [← HNA.out]; have := HA1.out; omega)
    cases e
    exact cell_old (by rw [← hp]; exact hb) (hc j (by rw [← HNA.out]; exact hj))
  have HP := Q.mkHid hp
  have hA33 : nA ≤ 33 := HA1.out.2
  go_upto_region 3 with (fail)
  rw [← hp]
  generalize w3.alloc (.cells #[.slice none 0 0, .int .i64 0, .bool false] 35) = w4 at G0 ⊢
  have kp0 : Hid (∀ wx, Gx p w3 wx (0, 0) → Calls Tryd.prog 12 #[.pointer (some ⟨p, 0, none⟩), .int .i64 0, .int .i64 3] wx fun e w' => e = .returned (.tuple #[]) ∧ Hid (Gx p w3 w' (fw [lowP 0 3]))) := fun wx h => (h.put 0 3 (by decide) (by decide)).mono fun e w' ⟨h1, h2, _⟩ => ⟨h1, h2⟩
  have kal : Hid (∀ wx, Gx p w3 wx (fw [lowP 0 3]) → Calls Tryd.prog 13 #[.pointer (some ⟨p, 0, none⟩)] wx fun e w' => e = .returned (.tuple #[]) ∧ Hid (Gx p w3 w' (fw [lowP 0 3, lowP 0 5]))) := fun wx h => (h.align (by decide)).mono fun e w' ⟨h1, h2, _⟩ => ⟨h1, by rw [align8] at h2; exact h2⟩
  have kp1 : Hid (∀ wx, Gx p w3 wx (fw [lowP 0 3, lowP 0 5]) → Calls Tryd.prog 12 #[.pointer (some ⟨p, 0, none⟩), .int .i64 (nA : Int), .int .i64 16] wx fun e w' => e = .returned (.tuple #[]) ∧ Hid (Gx p w3 w' (fw [lowP 0 3, lowP 0 5, lowP nA 16]))) := fun wx h => (h.put nA 16 (by decide) (by decide)).mono fun e w' ⟨h1, h2, _⟩ => ⟨h1, h2⟩
  obtain ⟨xA, hxA⟩ : ∃ xA, xA = nA ^^^ 65535 := ⟨_, rfl⟩
  have kp2 : Hid (∀ wx, Gx p w3 wx (fw [lowP 0 3, lowP 0 5, lowP nA 16]) → Calls Tryd.prog 12 #[.pointer (some ⟨p, 0, none⟩), .int .i64 (xA : Int), .int .i64 16] wx fun e w' => e = .returned (.tuple #[]) ∧ Hid (Gx p w3 w' (fw (blkJ A 0)))) := fun wx h => (h.put xA 16 (by decide) (by show (3 + 5 + 16 : Nat) < _; decide)).mono fun e w' ⟨h1, h2, _⟩ => ⟨h1, by rw [hxA, HNA.out] at h2; exact h2⟩
  have hn1 := bnot nA (by omega)
  have hn2 : bits .and .i64 (-(nA : Int) - 1) 65535 = (xA : Int) := by rw [hxA]; exact and16 ⟨nA, by omega⟩
  clear hxA hp
  go_upto_region 7 with (first
    | (go_at_call 12; (with_reducible refine (kp0.out _ G0.out).mono ?_); rintro e w5 ⟨rfl, G1⟩)
    | (go_at_call 13; (with_reducible refine (kal.out _ G1.out).mono ?_); rintro e w6 ⟨rfl, G2⟩)
    | (go_at_call 12; (with_reducible refine (kp1.out _ G2.out).mono ?_); rintro e w7 ⟨rfl, G3⟩)
    | (go_at_call 12; (with_reducible refine (kp2.out _ G3.out).mono ?_); rintro e w8 ⟨rfl, G4⟩))
  clear kp0 kal kp1 kp2 G0 G1 G2 G3 hn1 hn2
  go_wp2
  go_loopw [50] (fun i wr => ∃ j : Nat, j ≤ nA ∧ i = .int .i64 j ∧ Hid (Gx p w3 wr (fw (blkJ A j)))) (fun i _ => nA - (intOf i).toNat)
  case atStart => exact ⟨0, by omega, rfl, G4⟩
  case round =>
    obtain ⟨j, hj, rfl, GJ⟩ := hrel
    clear G4
    by_cases hj2 : j < nA
    · have hc0 := HCA.out wr GJ.out.below j hj2
      have hx := SA.out.getD j
      obtain ⟨x, hX⟩ : ∃ x, x = A.getD j 0 := ⟨_, rfl⟩
      rw [← hX] at hc0 hx
      have hT : (fw (blkJ A j)).2 < 900000 := by rw [fw_wid, blkJ_wid A j (by rw [← HNA.out]; omega)]; omega
      have kpj : Hid (Calls Tryd.prog 12 #[.pointer (some ⟨p, 0, none⟩), .int .i64 (x : Int), .int .i64 8] wr fun e w' => e = .returned (.tuple #[]) ∧ Hid (Gx p w3 w' (fw (blkJ A (j + 1))))) := (GJ.out.put x 8 (by decide) hT).mono fun e w' ⟨h1, h2, _⟩ => ⟨h1, by rw [blkJ_succ A j (by rw [← HNA.out]; exact hj2), ← hX, fw_snoc]; exact h2⟩
      have hxI : (x : Int) < 256 := by omega
      have hx0 : (0 : Int) ≤ (x : Int) := by omega
      have hwx : wrap64 (x : Int) = (x : Int) := by unfold wrap64; omega
      have hj0 : (j : Int) < (nA : Int) := by omega
      have hwk : wrap64 ((j : Int) + 1) = (j : Int) + 1 := by unfold wrap64; omega
      have HWK := Q.mkHid hwk
      clear hX hT hx hwk
      go_wp2_with (first
        | (go_at_call 12; (with_reducible refine kpj.out.mono ?_); rintro e w9 ⟨rfl, G9⟩))
      go_roundw
      case rel => exact ⟨j + 1, by omega, by first | rfl | (rw [HWK.out]; rfl), G9⟩
      case measure => first | exact measN2 hj2 | (rw [HWK.out]; exact measN2 hj2)
    · obtain rfl : j = nA := by omega
      have GA : Hid (Gx p w3 wr (fw (blkA A))) := by show Gx _ _ _ _; rw [← blkJ_all, ← HNA.out]; exact GJ.out
      obtain ⟨S0, hS0⟩ : ∃ S0, S0 = fw (blkA A) := ⟨_, rfl⟩
      rw [← hS0] at GA
      have HS0 := Q.mkHid hS0
      have hb0 : S0.2 ≤ 400 := by rw [hS0, fw_wid, ← blkJ_all, blkJ_wid A _ (Nat.le_refl _), ← HNA.out]; omega
      have k14 := docfix_hid
      have k15 := codes_hid litsL 288 lits_len.symm (by decide) (by decide) lits_ok
      have k15d := codes_hid distsL 32 dists_len.symm (by decide) (by decide) dists_ok
      clear GJ hS0
      go_upto_region 15 with (first
        | (go_at_call 14; (with_reducible refine (k14.out _).mono ?_); rintro e w5 ⟨g1, g2, rfl, T5⟩
           have G5 := Q.mkHid (GA.out.old T5.out.below)
           have E1 := Q.mkHid (tb_own T5.out.o1 lits_len)
           have E2 := Q.mkHid (tb_own T5.out.o2 dists_len)
           have O1 : Hid (w5.ownsRow 0 3 1 (.slice (some ⟨g1, 0, none⟩) 288 288) 288 (litsL.map natV)) := Q.mkHid (owns_low T5.out.o1)
           have O2 : Hid (w5.ownsRow 0 3 1 (.slice (some ⟨g2, 0, none⟩) 32 32) 32 (distsL.map natV)) := Q.mkHid (owns_low T5.out.o2))
        | (go_at_call 15; (with_reducible refine (k15.out _ _ _ O1.out).mono ?_); rintro e w6 ⟨g3, c3, rfl, T6, B6⟩
           have G6 := Q.mkHid (G5.out.old B6.out)
           have E16 := Q.mkHid (E1.out.keep (Kp.ofBelow B6.out))
           have E26 := Q.mkHid (E2.out.keep (Kp.ofBelow B6.out))
           have O26 := Q.mkHid (owns3_old O2.out B6.out)
           have hc3 : 288 ≤ c3 := T6.out.2
           clear G5 E1 E2 O1 O2 T5)
        | (go_at_call 15; (with_reducible refine (k15d.out _ _ _ O26.out).mono ?_); rintro e w7 ⟨g4, c4, rfl, T7, B7⟩
           have M0 : Hid (M4 p w3 w7 S0 g1 g2 g3 g4) := ⟨⟨G6.out.old B7.out, E16.out.keep (Kp.ofBelow B7.out), E26.out.keep (Kp.ofBelow B7.out), T6.out.1.keep (Kp.ofBelow B7.out)⟩, T7.out.1⟩
           have hc4 : 32 ≤ c4 := T7.out.2
           clear G6 E16 E26 O26 T6 T7 B6 B7))
      clear k14 k15 k15d GA
      have b1 : (wadd S0 (lowP 0 1)).2 ≤ 401 := by show S0.2 + 1 ≤ 401; omega
      have b2 : (wadd (wadd S0 (lowP 0 1)) (lowP 1 2)).2 ≤ 403 := by show S0.2 + 1 + 2 ≤ 403; omega
      have kq1 : Hid (∀ wx, M4 p w3 wx S0 g1 g2 g3 g4 → Calls Tryd.prog 12 #[.pointer (some ⟨p, 0, none⟩), .int .i64 0, .int .i64 1] wx fun e w' => e = .returned (.tuple #[]) ∧ Hid (M4 p w3 w' (wadd S0 (lowP 0 1)) g1 g2 g3 g4)) := fun wx h => h.put 0 1 (by decide) (by omega)
      have kq2 : Hid (∀ wx, M4 p w3 wx (wadd S0 (lowP 0 1)) g1 g2 g3 g4 → Calls Tryd.prog 12 #[.pointer (some ⟨p, 0, none⟩), .int .i64 1, .int .i64 2] wx fun e w' => e = .returned (.tuple #[]) ∧ Hid (M4 p w3 w' (wadd (wadd S0 (lowP 0 1)) (lowP 1 2)) g1 g2 g3 g4)) := fun wx h => h.put 1 2 (by decide) (by omega)
      have l0 : lenC 3 = 0 := by decide
      have klen : Hid (∀ w, Calls Tryd.prog 16 #[.int .i64 3] w fun e w' => e = .returned (.tuple #[.int .i64 257, .int .i64 0, .int .i64 0]) ∧ w' = w) := fun w => by
        have := Lz.lenCodeR 3 (by decide) (by decide) w
        change Calls Tryd.prog 16 #[.int .i64 3] w (fun e w' => e = .returned (.tuple #[.int .i64 (257 + lenC 3 : Nat), .int .i64 (3 - Lz.lenB (lenC 3) : Nat), .int .i64 (Lz.lenN (lenC 3) : Nat)]) ∧ w' = w) at this
        rw [l0] at this
        exact this
      obtain ⟨S2, hS2⟩ : ∃ S2, S2 = wadd (wadd S0 (lowP 0 1)) (lowP 1 2) := ⟨_, rfl⟩
      rw [← hS2] at kq2 b2
      have HS2 := Q.mkHid hS2
      clear hS2
      go_upto_region 18 with (first
        | (go_at_call 12; (with_reducible refine (kq1.out _ M0.out).mono ?_); rintro e w8 ⟨rfl, M1⟩)
        | (go_at_call 12; (with_reducible refine (kq2.out _ M1.out).mono ?_); rintro e w9 ⟨rfl, M2⟩)
        | (go_at_call 16; (with_reducible refine (klen.out _).mono ?_); rintro e wx ⟨rfl, hx⟩; have hx := hx.symm; subst hx))
      clear kq1 kq2 klen M0 M1 b1 hb0
      obtain ⟨y1, y2⟩ := M2.out.drew.lit 257 (by decide)
      have hl9 := lits_pos 257 (by decide)
      obtain ⟨S3, hS3⟩ : ∃ S3, S3 = wadd S2 (sigP litsL 257) := ⟨_, rfl⟩
      have b3 : S3.2 ≤ 412 := by rw [hS3]; show S2.2 + nth litsL 257 ≤ 412; omega
      have hcode : Hid (Calls Tryd.prog 17 #[.pointer (some ⟨p, 0, none⟩), .int .i64 (code litsL 257 : Nat), .int .i64 (nth litsL 257 : Nat)] w9.drew fun e w' => e = .returned (.tuple #[]) ∧ M4 p w3 w' S3 g1 g2 g3 g4) := by rw [hS3]; exact M2.out.drew.sig litsL 257 (by omega) (by omega)
      generalize nth litsL 257 = N1 at y1 hcode hl9
      generalize code litsL 257 = C1 at y2 hcode
      have HS3 := Q.mkHid hS3
      clear hl9 hS3 M2
      refine Rq.wp_region_try_lit (by kernel_rfl) (by kernel_rfl) (fun w1 => w1 = w9.drew) (fun w1 => M4 p w3 w1 S3 g1 g2 g3 g4) (.inl (by kernel_rfl)) (by decide) (fun _ _ => False) rfl (fun _ _ _ _ h => h.elim) ?_
      repeat (
        refine Rq.wpT_yes (by rfl) ?_ ?_ (fun w1 h1 => ?_) (fun K hK => ?_)
        rotate_left 2
        · subst h1
          go_simp
          refine Rq.upT_value ?_
          rfl
        go_simp
        refine hK _ _ ?_
        clear hK K)
      refine Rq.wpT_last (by rfl) (.tuple #[]) false (fun w1 h1 => ?_) (fun K hK => ?_)
      · subst h1
        go_simp
        refine Rq.upT_call ?_
        exact hcode.out
      go_simp
      refine hK _ _ (fun _ => ?_)
      clear hK K
      intro wa Ma
      have HMa := Q.mkHid Ma
      clear Ma y1 y2 hcode
      have kq3 : Hid (∀ wx, M4 p w3 wx S3 g1 g2 g3 g4 → Calls Tryd.prog 12 #[.pointer (some ⟨p, 0, none⟩), .int .i64 0, .int .i64 0] wx fun e w' => e = .returned (.tuple #[]) ∧ Hid (M4 p w3 w' (wadd S3 (lowP 0 0)) g1 g2 g3 g4)) := fun wx h => h.put 0 0 (by decide) (by omega)
      obtain ⟨S4, hS4⟩ : ∃ S4, S4 = wadd S3 (lowP 0 0) := ⟨_, rfl⟩
      have b4 : S4.2 ≤ 412 := by rw [hS4]; show S3.2 + 0 ≤ 412; omega
      rw [← hS4] at kq3
      have HS4 := Q.mkHid hS4
      obtain ⟨r, hr, kw9⟩ := Lz.within_lit2 n (j : Int) j (by have := HA1.out; omega) rfl (by omega)
      obtain ⟨far, hfar⟩ : ∃ far, far = r + 1 := ⟨_, rfl⟩
      have hwf : wrap64 (1 + (r : Int)) = (far : Int) := wrap_far hr hA33 hfar
      have hf1 : 1 ≤ far := by rw [hfar]; exact Nat.succ_le_succ (Nat.zero_le r)
      have hf2 : far ≤ j := by rw [hfar]; exact hr
      have hf3 : (far : Int) ≤ 32768 := far_le hf2 hA33
      have kdis : Hid (∀ w, Calls Tryd.prog 18 #[.int .i64 (far : Int)] w fun e w' => e = .returned (.tuple #[.int .i64 (disC far : Nat), .int .i64 (far - Lz.disB (disC far) : Nat), .int .i64 (Lz.disN (disC far) : Nat)]) ∧ w' = w) := fun w => Lz.disCodeR far hf1 hf3 w
      have hdc := Lz.topOf_le Lz.disB far 29
      change disC far ≤ 29 at hdc
      have m2 := disN_le (disC far) hdc
      have m4 := dists_pos (disC far) (by omega)
      have hrow := pcs_row far hf1
      obtain ⟨dc, hDC⟩ : ∃ dc, dc = disC far := ⟨_, rfl⟩
      rw [← hDC] at kdis hdc m2 m4 hrow
      obtain ⟨e2, hE2⟩ : ∃ e2, e2 = far - Lz.disB dc := ⟨_, rfl⟩
      obtain ⟨n2, hN2⟩ : ∃ n2, n2 = Lz.disN dc := ⟨_, rfl⟩
      rw [← hE2, ← hN2] at kdis hrow
      rw [← hN2] at m2
      have HROW := Q.mkHid hrow
      have HF1 := Q.mkHid hf1
      have HF2 := Q.mkHid hf2
      have hdcI : (dc : Int) < 32 := by omega
      clear hS4 hr hfar hrow hDC hE2 hN2 b2 hf1 hf2 hf3
      go_upto_region 22 with (first
        | (go_at_call 12; (with_reducible refine (kq3.out _ HMa.out).mono ?_); rintro e w10 ⟨rfl, M4a⟩)
        | (go_at_call 9; (with_reducible refine (kw9.out _).mono ?_); rintro e wx ⟨rfl, hx⟩; have hx := hx.symm; subst hx)
        | (go_at_call 18; (with_reducible refine (kdis.out _).mono ?_); rintro e wx ⟨rfl, hx⟩; have hx := hx.symm; subst hx))
      clear kq3 kw9 kdis HMa b3 hwf
      obtain ⟨y1, y2⟩ := M4a.out.drew.dis dc (by omega)
      obtain ⟨S5, hS5⟩ : ∃ S5, S5 = wadd S4 (sigP distsL dc) := ⟨_, rfl⟩
      have b5 : S5.2 ≤ 417 := by rw [hS5]; show S4.2 + nth distsL dc ≤ 417; omega
      have hcode : Hid (Calls Tryd.prog 17 #[.pointer (some ⟨p, 0, none⟩), .int .i64 (code distsL dc : Nat), .int .i64 (nth distsL dc : Nat)] w10.drew fun e w' => e = .returned (.tuple #[]) ∧ M4 p w3 w' S5 g1 g2 g3 g4) := by rw [hS5]; exact M4a.out.drew.sig distsL dc (by omega) (by omega)
      generalize nth distsL dc = N1 at y1 hcode m4
      generalize code distsL dc = C1 at y2 hcode
      have HS5 := Q.mkHid hS5
      clear hS5 m4 M4a
      refine Rq.wp_region_try_lit (by kernel_rfl) (by kernel_rfl) (fun w1 => w1 = w10.drew) (fun w1 => M4 p w3 w1 S5 g1 g2 g3 g4) (.inl (by kernel_rfl)) (by decide) (fun _ _ => False) rfl (fun _ _ _ _ h => h.elim) ?_
      repeat (
        refine Rq.wpT_yes (by rfl) ?_ ?_ (fun w1 h1 => ?_) (fun K hK => ?_)
        rotate_left 2
        · subst h1
          go_simp
          refine Rq.upT_value ?_
          rfl
        go_simp
        refine hK _ _ ?_
        clear hK K)
      refine Rq.wpT_last (by rfl) (.tuple #[]) false (fun w1 h1 => ?_) (fun K hK => ?_)
      · subst h1
        go_simp
        refine Rq.upT_call ?_
        exact hcode.out
      go_simp
      refine hK _ _ (fun _ => ?_)
      clear hK K
      intro wb Mb
      have HMb := Q.mkHid Mb
      clear Mb y1 y2 hcode
      have kq6 : Hid (∀ wx, M4 p w3 wx S5 g1 g2 g3 g4 → Calls Tryd.prog 12 #[.pointer (some ⟨p, 0, none⟩), .int .i64 (e2 : Int), .int .i64 (n2 : Int)] wx fun e w' => e = .returned (.tuple #[]) ∧ Hid (M4 p w3 w' (fw (blkK A B far 0)) g1 g2 g3 g4)) := fun wx h => (h.put e2 n2 (by omega) (by omega)).mono fun e w' ⟨h1, h2⟩ => ⟨h1, by
        have e6 : wadd S5 (lowP e2 n2) = fw (blkK A B far 0) := by
          rw [HS5.out, HS4.out, HS3.out, HS2.out, HS0.out]
          unfold blkK
          rw [HROW.out]
          simp only [fw, List.foldl_append, List.foldl_cons, List.foldl_nil, List.take_zero, List.map_nil, List.append_nil]
          rfl
        rw [← e6]; exact h2⟩
      have bK : Hid (∀ i, i ≤ nB → (fw (blkK A B far i)).2 ≤ 430 + 9 * i) := fun i hi => by
        have h0 : (fw (blkK A B far 0)).2 ≤ 430 := by
          have e6 : wadd S5 (lowP e2 n2) = fw (blkK A B far 0) := by
            rw [HS5.out, HS4.out, HS3.out, HS2.out, HS0.out]
            unfold blkK
            rw [HROW.out]
            simp only [fw, List.foldl_append, List.foldl_cons, List.foldl_nil, List.take_zero, List.map_nil, List.append_nil]
            rfl
          rw [← e6]
          show S5.2 + n2 ≤ 430
          omega
        induction i with
        | zero => exact h0
        | succ i ih =>
          have := ih (by omega)
          rw [blkK_succ A B far i (by rw [← HNB.out]; omega), fw_snoc]
          have h9 := lits_pos (B.getD i 0) (by have := SB.out.getD i; omega)
          show (fw (blkK A B far i)).2 + nth litsL (B.getD i 0) ≤ _
          omega
      clear HS5 HS4 HS3 HS2 HS0 b5 b4 hdc m2 hdcI HROW
      go_upto_region 24 with (first
        | (go_at_call 12; (with_reducible refine (kq6.out _ HMb.out).mono ?_); rintro e w11 ⟨rfl, MK0⟩))
      clear kq6 HMb
      go_wp2
      go_loopw [123] (fun i wr => ∃ i2 : Nat, i2 ≤ nB ∧ i = .int .i64 i2 ∧ Hid (M4 p w3 wr (fw (blkK A B far i2)) g1 g2 g3 g4)) (fun i _ => nB - (intOf i).toNat)
      case atStart => exact ⟨0, by omega, rfl, MK0⟩
      case round =>
        obtain ⟨i2, hi2, rfl, MJ⟩ := hrel
        clear MK0
        by_cases hi3 : i2 < nB
        · have hLB : Lies wr (.slice bo nB cB) B := LB.out.old (by rw [← HP.out]; exact MJ.out.ms.gx.below)
          obtain ⟨bd, cap, eb, hcb⟩ := hLB.at (by rw [← HNB.out]; omega)
          obtain rfl : bo = some bd := by cases eb; rfl
          have hc0 := hcb i2 (by rw [← HNB.out]; exact hi3)
          have hx := SB.out.getD i2
          obtain ⟨x, hX⟩ : ∃ x, x = B.getD i2 0 := ⟨_, rfl⟩
          rw [← hX] at hc0 hx
          have hxI : (x : Int) < 288 := by omega
          have hj0 : (i2 : Int) < (nB : Int) := by omega
          have hwk : wrap64 ((i2 : Int) + 1) = (i2 : Int) + 1 := by unfold wrap64; omega
          have HWK := Q.mkHid hwk
          have hbK := bK.out i2 (by omega)
          have hnext : fw (blkK A B far (i2 + 1)) = wadd (fw (blkK A B far i2)) (sigP litsL x) := by rw [blkK_succ A B far i2 (by rw [← HNB.out]; exact hi3), fw_snoc, ← hX]
          obtain ⟨SJ, hSJ⟩ : ∃ SJ, SJ = fw (blkK A B far i2) := ⟨_, rfl⟩
          obtain ⟨SN, hSN⟩ : ∃ SN, SN = fw (blkK A B far (i2 + 1)) := ⟨_, rfl⟩
          rw [← hSJ] at MJ hbK hnext
          rw [← hSN] at hnext
          have HSN := Q.mkHid hSN
          obtain ⟨y1, y2⟩ := MJ.out.drew.lit x (by omega)
          have hl9 := lits_pos x (by omega)
          have hcode : Hid (Calls Tryd.prog 17 #[.pointer (some ⟨p, 0, none⟩), .int .i64 (code litsL x : Nat), .int .i64 (nth litsL x : Nat)] wr.drew fun e w' => e = .returned (.tuple #[]) ∧ M4 p w3 w' SN g1 g2 g3 g4) := by rw [hnext]; exact MJ.out.drew.sig litsL x (by omega) (by omega)
          generalize nth litsL x = N1 at y1 hcode hl9
          generalize code litsL x = C1 at y2 hcode
          clear hl9 hnext hSN hSJ hbK hX hx hLB hcb eb hwk MJ
          go_upto_region 27 with (fail)
          refine Rq.wp_region_try_lit (by kernel_rfl) (by kernel_rfl) (fun w1 => w1 = wr.drew) (fun w1 => M4 p w3 w1 SN g1 g2 g3 g4) (.inl (by kernel_rfl)) (by decide) (fun _ _ => False) rfl (fun _ _ _ _ h => h.elim) ?_
          repeat (
            refine Rq.wpT_yes (by rfl) ?_ ?_ (fun w1 h1 => ?_) (fun K hK => ?_)
            rotate_left 2
            · subst h1
              go_simp
              refine Rq.upT_value ?_
              rfl
            go_simp
            refine hK _ _ ?_
            clear hK K)
          refine Rq.wpT_last (by rfl) (.tuple #[]) false (fun w1 h1 => ?_) (fun K hK => ?_)
          · subst h1
            go_simp
            refine Rq.upT_call ?_
            exact hcode.out
          go_simp
          refine hK _ _ (fun _ => ?_)
          clear hK K
          intro wd Md
          have HMd := Q.mkHid Md
          clear Md y1 y2 hcode
          go_wp2
          go_roundw
          case rel => exact ⟨i2 + 1, by omega, by first | rfl | (rw [HWK.out]; rfl), by rw [← HSN.out]; exact HMd⟩
          case measure => first | exact measN2 hi3 | (rw [HWK.out]; exact measN2 hi3)
        · obtain rfl : i2 = nB := by omega
          obtain ⟨S6, hS6⟩ : ∃ S6, S6 = fw (blkK A B far i2) := ⟨_, rfl⟩
          have b6 : S6.2 ≤ 620 := by have := bK.out i2 (Nat.le_refl _); rw [← hS6] at this; have := HB1.out; omega
          rw [← hS6] at MJ
          have HS6 := Q.mkHid hS6
          clear hS6 bK hi2 hi3
          have n256 : nth litsL 256 = 7 := lits_256.1
          obtain ⟨y1, y2⟩ := MJ.out.drew.lit 256 (by decide)
          obtain ⟨S7, hS7⟩ : ∃ S7, S7 = wadd S6 (sigP litsL 256) := ⟨_, rfl⟩
          have b7 : S7.2 ≤ 627 := by rw [hS7]; show S6.2 + nth litsL 256 ≤ 627; omega
          have hcode : Hid (Calls Tryd.prog 17 #[.pointer (some ⟨p, 0, none⟩), .int .i64 (code litsL 256 : Nat), .int .i64 (nth litsL 256 : Nat)] wr.drew fun e w' => e = .returned (.tuple #[]) ∧ M4 p w3 w' S7 g1 g2 g3 g4) := by rw [hS7]; exact MJ.out.drew.sig litsL 256 (by omega) (by omega)
          generalize nth litsL 256 = N1 at y1 hcode n256
          generalize code litsL 256 = C1 at y2 hcode
          have HS7 := Q.mkHid hS7
          clear hS7 n256 MJ
          go_upto_region 29 with (fail)
          refine Rq.wp_region_try_lit (by kernel_rfl) (by kernel_rfl) (fun w1 => w1 = wr.drew) (fun w1 => M4 p w3 w1 S7 g1 g2 g3 g4) (.inl (by kernel_rfl)) (by decide) (fun _ _ => False) rfl (fun _ _ _ _ h => h.elim) ?_
          repeat (
            refine Rq.wpT_yes (by rfl) ?_ ?_ (fun w1 h1 => ?_) (fun K hK => ?_)
            rotate_left 2
            · subst h1
              go_simp
              refine Rq.upT_value ?_
              rfl
            go_simp
            refine hK _ _ ?_
            clear hK K)
          refine Rq.wpT_last (by rfl) (.tuple #[]) false (fun w1 h1 => ?_) (fun K hK => ?_)
          · subst h1
            go_simp
            refine Rq.upT_call ?_
            exact hcode.out
          go_simp
          refine hK _ _ (fun _ => ?_)
          clear hK K
          intro we Me
          have HMe := Q.mkHid Me
          clear Me y1 y2 hcode
          obtain ⟨S9, hS9⟩ : ∃ S9, S9 = wadd (wadd S7 (lowP 1 1)) (lowP 1 2) := ⟨_, rfl⟩
          have b8 : (wadd S7 (lowP 1 1)).2 ≤ 628 := by show S7.2 + 1 ≤ 628; omega
          have b9 : S9.2 ≤ 630 := by rw [hS9]; show S7.2 + 1 + 2 ≤ 630; omega
          have kr1 : Hid (∀ wx, M4 p w3 wx S7 g1 g2 g3 g4 → Calls Tryd.prog 12 #[.pointer (some ⟨p, 0, none⟩), .int .i64 1, .int .i64 1] wx fun e w' => e = .returned (.tuple #[]) ∧ Hid (M4 p w3 w' (wadd S7 (lowP 1 1)) g1 g2 g3 g4)) := fun wx h => h.put 1 1 (by decide) (by omega)
          have kr2 : Hid (∀ wx, M4 p w3 wx (wadd S7 (lowP 1 1)) g1 g2 g3 g4 → Calls Tryd.prog 12 #[.pointer (some ⟨p, 0, none⟩), .int .i64 1, .int .i64 2] wx fun e w' => e = .returned (.tuple #[]) ∧ Hid (M4 p w3 w' S9 g1 g2 g3 g4)) := fun wx h => by rw [hS9]; exact h.put 1 2 (by decide) (by omega)
          have HS9 := Q.mkHid hS9
          clear hS9
          go_upto_region 32 with (first
            | (go_at_call 12; (with_reducible refine (kr1.out _ HMe.out).mono ?_); rintro e w12 ⟨rfl, M8⟩)
            | (go_at_call 12; (with_reducible refine (kr2.out _ M8.out).mono ?_); rintro e w13 ⟨rfl, M9⟩))
          clear kr1 kr2 HMe M8 b7 b8
          have n256 : nth litsL 256 = 7 := lits_256.1
          obtain ⟨y1, y2⟩ := M9.out.drew.lit 256 (by decide)
          obtain ⟨S10, hS10⟩ : ∃ S10, S10 = fw (blkR A B far) := ⟨_, rfl⟩
          have eS10 : S10 = wadd S9 (sigP litsL 256) := by
            rw [hS10, HS9.out, HS7.out, HS6.out, ← blkK_all, ← HNB.out]
            simp only [fw, List.foldl_append, List.foldl_cons, List.foldl_nil]
          have b10 : S10.2 ≤ 640 := by rw [eS10]; show S9.2 + nth litsL 256 ≤ 640; omega
          have hcode : Hid (Calls Tryd.prog 17 #[.pointer (some ⟨p, 0, none⟩), .int .i64 (code litsL 256 : Nat), .int .i64 (nth litsL 256 : Nat)] w13.drew fun e w' => e = .returned (.tuple #[]) ∧ M4 p w3 w' S10 g1 g2 g3 g4) := by rw [eS10]; exact M9.out.drew.sig litsL 256 (by omega) (by omega)
          generalize nth litsL 256 = N1 at y1 hcode n256
          generalize code litsL 256 = C1 at y2 hcode
          have HS10 := Q.mkHid hS10
          have HB10 := Q.mkHid b10
          clear n256 M9 eS10 hS10 b9 b10
          refine Rq.wp_region_try_lit (by kernel_rfl) (by kernel_rfl) (fun w1 => w1 = w13.drew) (fun w1 => M4 p w3 w1 S10 g1 g2 g3 g4) (.inl (by kernel_rfl)) (by decide) (fun _ _ => False) rfl (fun _ _ _ _ h => h.elim) ?_
          repeat (
            refine Rq.wpT_yes (by rfl) ?_ ?_ (fun w1 h1 => ?_) (fun K hK => ?_)
            rotate_left 2
            · subst h1
              go_simp
              refine Rq.upT_value ?_
              rfl
            go_simp
            refine hK _ _ ?_
            clear hK K)
          refine Rq.wpT_last (by rfl) (.tuple #[]) false (fun w1 h1 => ?_) (fun K hK => ?_)
          · subst h1
            go_simp
            refine Rq.upT_call ?_
            exact hcode.out
          go_simp
          refine hK _ _ (fun _ => ?_)
          clear hK K
          intro wc Mc
          have HMc := Q.mkHid Mc
          clear Mc y1 y2 hcode
          clear HS6 HS7 HS9
          have hAw : Lies wc (.slice (some ad) j cA) A := LA3.out.old (by rw [← HP.out]; exact HMc.out.ms.gx.below)
          have hBw : Lies wc (.slice bo i2 cB) B := LB.out.old (by rw [← HP.out]; exact HMc.out.ms.gx.below)
          have kcp := Q.copyB_hid A j HNA.out (by rw [← HNA.out]; omega)
          obtain ⟨Bc, hBc⟩ : ∃ Bc, Bc = wc.heap.size := ⟨_, rfl⟩
          have HBC := Q.mkHid hBc
          have HAW := Q.mkHid hAw
          have HBW := Q.mkHid hBw
          clear hAw hBw
          go_upto_region 34 with (first
            | (go_at_call 19; (with_reducible refine (kcp.out _ _ HAW.out).mono ?_); rintro e x1 ⟨v1, rfl, o1, b1⟩
               have O1 : Hid (x1.ownsRow Bc 5 1 v1 (j + 0) ((Lz.rowOf A far 0).map byteV)) := by rw [HBC.out]; exact o1
               have X1 := Q.mkHid b1
               clear o1 b1))
          clear kcp HAW
          go_wp2
          go_loopw [22, 23] (fun vw i wr => ∃ (k : Nat), k ≤ 3 ∧ i = .int .i64 k ∧ Hid (wr.ownsRow Bc 5 1 vw (j + k) ((Lz.rowOf A far k).map byteV)) ∧ Hid (Below wc.heap.size wc wr)) (fun vw i _ => 3 - (intOf i).toNat)
          case atStart => exact ⟨0, by omega, rfl, O1, X1⟩
          case round =>
            obtain ⟨k, hk, rfl, OK, XK⟩ := hrel
            clear O1 X1
            by_cases hk3 : k < 3
            · obtain ⟨gw, cap, rfl, -, -⟩ := OK.out.form (pos3 HA1.out.1)
              obtain ⟨m, hm⟩ : ∃ m, m = j + k := ⟨_, rfl⟩
              rw [← hm] at OK ⊢
              have hlen : (Lz.rowOf A far k).length = m := by rw [Lz.rowOf_len, ← HNA.out, hm]
              obtain ⟨d, hd⟩ : ∃ d, d = m - far := ⟨_, rfl⟩
              have hdm : d < m := sub_lt3 hd hm HF1.out HA1.out.1
              have hcell := Lz.byte_at hlen OK.out d hdm
              obtain ⟨z, hz⟩ : ∃ z, z = (Lz.rowOf A far k).getD d 0 := ⟨_, rfl⟩
              rw [← hz] at hcell
              have hsub : wrap64 ((m : Int) - (far : Int)) = (d : Int) := sub_far hd hm HF2.out hA33 hk
              have hdmI : (d : Int) < (m : Int) := Int.ofNat_lt.2 hdm
              have hk0 : (k : Int) < 3 := Int.ofNat_lt.2 hk3
              have hwk : wrap64 ((k : Int) + 1) = (k : Int) + 1 := wrap_k hk3
              have HWK := Q.mkHid hwk
              have hmb : m + 1 ≤ 140737488355328 := m_small hm hA33 hk
              have hBw : Bc ≤ wr.heap.size := by rw [HBC.out]; exact XK.out.size
              have HRN : Hid (Lz.rowOf A far (k + 1) = Lz.rowOf A far k ++ [z]) := by
                show Lz.rowOf A far k ++ [(Lz.rowOf A far k).getD ((Lz.rowOf A far k).length - far) 0] = _
                rw [hlen, ← hd, ← hz]
              have HM := Q.mkHid hm
              clear hm hd hlen hdm hz hwk
              go_wp2_with (first
                | (at_builtin; refine Lz.wpList_pushB rfl (.tmp 164) (.tmp 172) rfl Bc _ m _ rfl OK.out (z : Int) wr.heap.size rfl rfl hmb hBw ?_
                   intro g5 c5 y5 o5 f5 h5 b5
                   have O5 : Hid (y5.ownsRow Bc 5 1 (.slice (some ⟨g5, 0, none⟩) (m + 1) c5) (j + (k + 1)) ((Lz.rowOf A far (k + 1)).map byteV)) := by
                     show World.ownsRow _ _ _ _ _ _ _
                     rw [HRN.out, List.map_append, show j + (k + 1) = m + 1 by rw [HM.out]; rfl]
                     exact o5
                   have X5 : Hid (Below wc.heap.size wc y5) := XK.out.trans (by rw [← HBC.out]; exact b5)
                   clear o5 f5 h5 b5))
              go_roundw
              case rel => exact ⟨k + 1, hk3, by first | rfl | (rw [HWK.out]; rfl), O5, X5⟩
              case measure => first | exact measN2 hk3 | (rw [HWK.out]; exact measN2 hk3)
            · obtain rfl : k = 3 := Nat.le_antisymm hk (Nat.le_of_not_lt hk3)
              obtain ⟨W3, hW3⟩ : ∃ W3, W3 = Lz.rowOf A far 3 ++ B := ⟨_, rfl⟩
              have hwl : W3.length = j + 3 + i2 := by rw [hW3, List.length_append, Lz.rowOf_len, ← HNA.out, ← HNB.out]
              have hML : M4 p w3 wr S10 g1 g2 g3 g4 := HMc.out.old XK.out
              have hLBr : Lies wr (.slice bo i2 cB) B := HBW.out.old XK.out
              have hbl : j + 3 + B.length ≤ 140737488400000 := small40 hA33 HB1.out HNB.out
              have hBw : Bc ≤ wr.heap.size := by rw [HBC.out]; exact XK.out.size
              have HLBR := Q.mkHid hLBr
              have HW3 := Q.mkHid hW3
              have HWL := Q.mkHid hwl
              have HBG : Hid (Below p w3 wr) := hML.ms.gx.below
              clear hML hLBr hW3 hwl
              go_upto_region 39 with (first
                | (at_builtin; refine Q.wpList_appL rfl (.tmp 174) (.tmp 175) rfl Bc _ (j + 3) _ rfl OK.out _ B rfl HLBR.out hbl hBw ?_
                   intro v6 w6 o6 b6 g6
                   have L6 : Hid (Lies w6 v6 W3) := lies_n (n := j + 3 + B.length) (by rw [HWL.out, HNB.out]) (by rw [HW3.out, List.map_append]; exact o6)
                   have X6 : Hid (Below wc.heap.size wc w6) := XK.out.trans (by rw [← HBC.out]; exact b6)
                   clear o6 b6 g6))
              have hsum : S10.1 = num (blkR A B far) ∧ S10.2 = wid (blkR A B far) := by rw [HS10.out]; exact ⟨rfl, fw_wid _⟩
              obtain ⟨ab, nb, cb, bs, f0, lb, hW⟩ := (HMc.out.old X6.out).ms.gx.writ hsum
              have hbl2 : bs.length ≤ 140737488355328 := writ_small hW hsum.2 HB10.out
              have hJ : Lz.joinL A (stepsB B far) = some W3 := by rw [HW3.out]; exact join_blocks A B far SB.out HF1.out (by rw [← HNA.out]; exact HF2.out) (by rw [← HNA.out]; exact hA33) (by rw [← HNB.out]; exact HB1.out)
              have kU := Q.unp_ok bs W3 (blocks_unp A B far SA.out (by rw [← HNA.out]; exact Nat.le_trans hA33 (by decide)) (lits_ok2 B far SB.out HF1.out (Nat.le_trans HF2.out (Nat.le_trans hA33 (by decide)))) W3 hJ bs hW) hW.1 hbl2
              have kS := Q.sameB_hid W3 (by rw [HWL.out]; exact small41 hA33 HB1.out)
              have kw := Q.wakes_hid
              have LB6 := Q.mkHid lb
              have HBF : Hid (Below w.heap.size w wc) := B3.out.trans (HMc.out.ms.gx.below.mono (by rw [HP.out]; exact B3.out.size))
              have HSZ : Hid (w.heap.size ≤ wc.heap.size) := HBF.out.size
              have HBX : Hid (Below w.heap.size w w6) := HBF.out.trans (X6.out.mono HSZ.out)
              clear lb hW hsum hbl2 hJ hbl
              go_wp2_with (first
                | (go_at_call 8; (with_reducible refine (kU.out _ _ LB6.out).mono ?_); rintro e z1 ⟨v7, rfl, O7, b7⟩
                   have L7 := Q.mkHid (lies_own O7.out)
                   have L67 := Q.mkHid (L6.out.old b7.out)
                   have B7 := Q.mkHid (HBX.out.trans (b7.out.mono HBX.out.size))
                   clear O7)
                | (go_at_call 20; (with_reducible refine (kS.out _ _ _ L7.out L67.out).mono ?_); rintro e z2 ⟨rfl, b8⟩
                   have B8 := Q.mkHid (B7.out.trans (b8.out.mono B7.out.size)))
                | (go_at_call 10; (with_reducible refine (kw.out _).mono ?_); rintro e z3 ⟨rfl, b9⟩
                   have B9 := Q.mkHid (B8.out.trans (b9.out.mono B8.out.size))))
              go_ret
              exact ⟨rfl, B9.out⟩
end Go.Proofs.YtdokpimhhkbdbaaDoor
