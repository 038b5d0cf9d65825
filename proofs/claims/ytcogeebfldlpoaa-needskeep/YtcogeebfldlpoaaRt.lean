/-
  A region that draws its order, in phases: one walk in the order of the text serves every order, where the operations that change the world come up in one order; an operation may leave it by a panic. An operation may look at a slot that a later one of the region puts (Rp does not bear that). Nothing of a program.
-/
import Derived.Orders
import Derived.Still
import Derived.WalkKit
set_option linter.unusedVariables false
namespace Go.Rt
open Go

/-- The frame behind those operations that have come up: each one's value in its slot. -/
def fillF (f : Nat → Option Value) : Nat → List Oper → Act → Act
  | _, [], a => a
  | i, o :: r, a => fillF f (i + 1) r (match f i with | some v => a.put o.dst v | none => a)

def upd (f : Nat → Option Value) (i : Nat) (v : Value) : Nat → Option Value := fun j => if j = i then some v else f j

theorem upd_same (f : Nat → Option Value) (i : Nat) (v : Value) : upd f i v i = some v := by simp [upd]
theorem upd_other (f : Nat → Option Value) {i j : Nat} (v : Value) (h : j ≠ i) : upd f i v j = f j := by simp [upd, h]

def Apart (ops : List Oper) : Prop := ops.Pairwise fun x y => ∀ d, x.dst = some d → y.dst ≠ some d

theorem fill_put (f : Nat → Option Value) (v : Value) (x : Option Tmp) : ∀ (r : List Oper) (s : Nat) (a : Act), (∀ o ∈ r, ∀ d, x = some d → o.dst ≠ some d) → (fillF f s r a).put x v = fillF f s r (a.put x v)
  | [], _, _, _ => rfl
  | o :: r, s, a, h => by
    unfold fillF
    rw [fill_put f v x r (s + 1) _ (fun o ho => h o (List.mem_cons_of_mem _ ho))]
    congr 1
    cases f s with
    | none => rfl
    | some u => exact (Act.put_comm a v u (fun d hd => h o (by simp) d hd)).symm

theorem fill_congr {f g : Nat → Option Value} : ∀ (r : List Oper) (s : Nat) (a : Act), (∀ i, s ≤ i → i < s + r.length → f i = g i) → fillF f s r a = fillF g s r a
  | [], _, _, _ => rfl
  | o :: r, s, a, h => by
    unfold fillF
    rw [h s (Nat.le_refl _) (by simp)]
    exact fill_congr r (s + 1) _ (fun i h1 h2 => h i (by omega) (by simp at h2 ⊢; omega))

theorem fill_upd (f : Nat → Option Value) (v : Value) : ∀ (r : List Oper) (s k : Nat) (a : Act) (o : Oper), Apart r → r[k]? = some o → f (s + k) = none → (fillF f s r a).put o.dst v = fillF (upd f (s + k) v) s r a
  | [], _, _, _, _, _, h, _ => by simp at h
  | o0 :: r, s, 0, a, o, hp, h, hf => by
    obtain ⟨hp1, hp2⟩ := List.pairwise_cons.1 hp
    simp at h
    subst h
    unfold fillF
    simp only [Nat.add_zero] at hf ⊢
    rw [hf, upd_same]
    rw [fill_put f v o0.dst r (s + 1) a (fun o ho d hd => hp1 o ho d hd)]
    exact fill_congr r (s + 1) _ (fun i h1 _ => (upd_other f v (by omega)).symm)
  | o0 :: r, s, k + 1, a, o, hp, h, hf => by
    obtain ⟨hp1, hp2⟩ := List.pairwise_cons.1 hp
    unfold fillF
    have e : s + (k + 1) = (s + 1) + k := by omega
    rw [e] at hf ⊢
    rw [upd_other f v (show s ≠ s + 1 + k by omega)]
    exact fill_upd f v r (s + 1) k _ o hp2 (by simpa using h) hf

theorem put_size (a : Act) (x : Option Tmp) (v : Value) : (a.put x v).tmps.size = a.tmps.size := by cases x <;> simp [Act.put]

theorem fill_defers (f : Nat → Option Value) : ∀ (r : List Oper) (s : Nat) (a : Act), (fillF f s r a).defers = a.defers
  | [], _, _ => rfl
  | o :: r, s, a => by
    unfold fillF
    rw [fill_defers f r (s + 1)]
    cases f s with
    | none => rfl
    | some v => cases o.dst <;> simp [Act.put]

theorem fill_size (f : Nat → Option Value) : ∀ (r : List Oper) (s : Nat) (a : Act), (fillF f s r a).tmps.size = a.tmps.size
  | [], _, _ => rfl
  | o :: r, s, a => by
    unfold fillF
    rw [fill_size f r (s + 1)]
    cases f s with
    | none => rfl
    | some v => exact put_size _ _ _

/-- A slot that some operation has filled. -/
theorem fill_eval (f : Nat → Option Value) (r : List Oper) (a : Act) (k : Nat) (o : Oper) (t : Tmp) (v : Value) (hp : Apart r) (h : r[k]? = some o) (hd : o.dst = some t) (hf : f k = some v) (ht : t < a.tmps.size) : (fillF f 0 r a).eval (.tmp t) = v := by
  let g : Nat → Option Value := fun j => if j = k then none else f j
  have hg : upd g k v = f := by
    funext j
    by_cases e : j = k
    · subst e; rw [upd_same, hf]
    · rw [upd_other _ _ e]; simp [g, e]
  have hgk : g (0 + k) = none := by simp [g]
  have := fill_upd g v r 0 k a o hp h hgk
  rw [Nat.zero_add, hg] at this
  rw [← this, hd]
  simp [Act.eval, Act.put, fill_size, ht]

/-- A slot that no operation fills. -/
theorem fill_free (f : Nat → Option Value) (t : Tmp) : ∀ (r : List Oper) (s : Nat) (a : Act), (∀ o ∈ r, o.dst ≠ some t) → (fillF f s r a).eval (.tmp t) = a.eval (.tmp t)
  | [], _, _, _ => rfl
  | o :: r, s, a, h => by
    unfold fillF
    rw [fill_free f t r (s + 1) _ (fun o ho => h o (List.mem_cons_of_mem _ ho))]
    cases f s with
    | none => rfl
    | some v =>
      have := h o (by simp)
      cases hd : o.dst with
      | none => rfl
      | some d =>
        have hne : d ≠ t := fun e => this (by rw [hd, e])
        simp [Act.eval, Act.put, Array.getElem?_setIfInBounds_ne hne]

theorem fill_none_at (f : Nat → Option Value) (t : Tmp) : ∀ (r : List Oper) (s : Nat) (a : Act), (∀ k o, r[k]? = some o → o.dst = some t → f (s + k) = none) → (fillF f s r a).eval (.tmp t) = a.eval (.tmp t)
  | [], _, _, _ => rfl
  | o :: r, s, a, h => by
    unfold fillF
    rw [fill_none_at f t r (s + 1) _ (fun k o' hk hd => by
      have := h (k + 1) o' (by simpa using hk) hd
      rw [show s + 1 + k = s + (k + 1) by omega]; exact this)]
    cases hf : f s with
    | none => rfl
    | some v =>
      simp only
      have hne : o.dst ≠ some t := fun hd => by
        have := h 0 o (by simp) hd
        rw [Nat.add_zero, hf] at this
        cases this
      cases hd : o.dst with
      | none => rfl
      | some d =>
        have : d ≠ t := fun e => hne (by rw [hd, e])
        simp [Act.put, Act.eval, Array.getD_eq_getD_getElem?, Array.getElem?_setIfInBounds_ne this]

def apartB (ops : List Oper) : Bool := match ops with
  | [] => true
  | o :: r => (match o.dst with | some d => r.all fun y => decide (y.dst ≠ some d) | none => true) && apartB r

theorem apart_of : ∀ (ops : List Oper), apartB ops = true → Apart ops
  | [], _ => List.Pairwise.nil
  | o :: r, h => by
    unfold apartB at h
    rw [Bool.and_eq_true] at h
    refine List.pairwise_cons.2 ⟨fun y hy d hd => ?_, apart_of r h.2⟩
    have h1 := h.1
    rw [hd] at h1
    simp only [List.all_eq_true, decide_eq_true_eq] at h1
    exact h1 y hy


def ordOK (ops : Array Oper) : Bool := (List.range ops.size).all fun i => match ops[i]? with
  | some o => o.after.toList.all fun e => !Region.binds .any e || decide (e.on < i)
  | none => true

variable {P : Program} {ops : Array Oper} {Q : Exit → Act → World → Prop} {C E : World → Prop} {D : List PanicEntry → World → Prop} {F : Act → Prop}

def upT (P : Program) (C : World → Prop) (D : List PanicEntry → World → Prop) (v : Value) (dd : Bool) (w : World) : Result Next → Prop
  | .ok (.value u) w' => u = v ∧ dd = false ∧ C w'
  | .ok .skip w' => undef = v ∧ dd = false ∧ C w'
  | .ok (.enter f args) w' => Calls P f args w' fun e w'' => (e = .returned v ∧ dd = false ∧ C w'') ∨ ∃ ch, e = .panicked ch ∧ D ch w''
  | _ => False

theorem upT_value {v : Value} {w w' : World} (h : C w') : upT P C D v false w (.ok (.value v) w') := ⟨rfl, rfl, h⟩
theorem upT_skip {w w' : World} (h : C w') : upT P C D undef false w (.ok .skip w') := ⟨rfl, rfl, h⟩
theorem upT_call {v : Value} {w w' : World} {f : FuncId} {args : Array Value} (h : Calls P f args w' fun e w'' => e = .returned v ∧ C w'') : upT P C D v false w (.ok (.enter f args) w') :=
  h.mono fun e w'' ⟨he, hc⟩ => .inl ⟨he, rfl, hc⟩
theorem upT_dies (v : Value) {w w' : World} {f : FuncId} {args : Array Value} (h : Calls P f args w' fun e w'' => ∃ ch, e = .panicked ch ∧ D ch w'') : upT P C D v true w (.ok (.enter f args) w') :=
  h.mono fun e w'' he => .inr he

theorem upT_any {v : Value} {dd : Bool} {w w' : World} {f : FuncId} {args : Array Value} (h : Calls P f args w' fun e w'' => (e = .returned v ∧ dd = false ∧ C w'') ∨ ∃ ch, e = .panicked ch ∧ D ch w'') : upT P C D v dd w (.ok (.enter f args) w') := h


theorem upT_mono {C C' : World → Prop} {v : Value} {dd : Bool} {w : World} {r : Result Next} (hc : ∀ w, C w → C' w) (h : upT P C D v dd w r) : upT P C' D v dd w r := by
  cases r with
  | ok n w' =>
    cases n <;> simp only [upT] at h ⊢
    case value u => exact ⟨h.1, h.2.1, hc _ h.2.2⟩
    case skip => exact ⟨h.1, h.2.1, hc _ h.2.2⟩
    case enter f args =>
      refine h.mono fun e w'' he => ?_
      rcases he with ⟨h1, h2, h3⟩ | h1
      · exact .inl ⟨h1, h2, hc _ h3⟩
      · exact .inr h1
  | halt x w' => simp only [upT] at h

/-! The order that the edges ask: what must have come up ahead of an operation. -/
def depsOf (o : Oper) : List Nat := (o.after.toList.filter (Region.binds .any ·)).map (·.on)
def setOf (n : Nat) (acc : List (List Nat)) (ds : List Nat) : List Nat := (List.range n).filter fun j => ds.contains j || ds.any fun d => (acc.getD d []).contains j
def ancs (n : Nat) : List Oper → List (List Nat) → List (List Nat)
  | [], acc => acc
  | o :: r, acc => ancs n r (acc ++ [setOf n acc (depsOf o)])
/-- j must have come up ahead of i -/
def anc (ops : Array Oper) (i j : Nat) : Bool := ((ancs ops.size ops.toList []).getD i []).contains j

def lookOK (ops : Array Oper) : Bool := (List.range ops.size).all fun i => match ops[i]? with
  | some o => (List.range ops.size).all fun j => match ops[j]? with
    | some oj => (match oj.dst with
      | some d => !(o.looksAt ops).contains d || (o.after.toList.any fun e => Region.binds .any e && decide (e.on = j)) || (anc ops j i && decide (i < j))
      | none => true)
    | none => true
  | none => true

def okB (ops : Array Oper) : Bool := Region.noSelect ops && ordOK ops && lookOK ops && apartB ops.toList

def Closed (ops : Array Oper) (f : Nat → Option Value) : Prop := ∀ j o, ops[j]? = some o → (f j).isSome = true → ∀ e ∈ o.after, Region.binds .any e = true → (f e.on).isSome = true
def Ahead (o : Oper) (f : Nat → Option Value) : Prop := ∀ e ∈ o.after, Region.binds .any e = true → (f e.on).isSome = true

theorem mem_deps {o : Oper} {d : Nat} (h : d ∈ depsOf o) : ∃ e ∈ o.after, Region.binds .any e = true ∧ e.on = d := by
  unfold depsOf at h
  obtain ⟨e, he, rfl⟩ := List.mem_map.1 h
  obtain ⟨h1, h2⟩ := List.mem_filter.1 he
  exact ⟨e, by simpa using h1, h2, rfl⟩

theorem ancs_good {f : Nat → Option Value} (hc : Closed ops f) : ∀ (r : List Oper) (acc : List (List Nat)) (done : List Oper), ops.toList = done ++ r → acc.length = done.length →
    (∀ i o, done[i]? = some o → ∀ j ∈ acc.getD i [], Ahead o f → (f j).isSome = true) → ∀ i o, ops.toList[i]? = some o → ∀ j ∈ (ancs ops.size r acc).getD i [], Ahead o f → (f j).isSome = true
  | [], acc, done, hd, _, h => by
    intro i o ho j hj ha
    rw [List.append_nil] at hd
    exact h i o (by rw [← hd]; exact ho) j hj ha
  | o :: r, acc, done, hd, hl, h => by
    unfold ancs
    refine ancs_good hc r _ (done ++ [o]) (by rw [hd, List.append_assoc]; rfl) (by simp [hl]) ?_
    intro i o' ho' j hj ha
    rcases Nat.lt_trichotomy i done.length with hi | hi | hi
    · rw [List.getElem?_append_left hi] at ho'
      rw [List.getD_eq_getElem?_getD, List.getElem?_append_left (by omega), ← List.getD_eq_getElem?_getD] at hj
      exact h i o' ho' j hj ha
    · subst hi
      have : o' = o := by simpa using ho'.symm
      subst this
      rw [List.getD_eq_getElem?_getD, ← hl, List.getElem?_append_right (Nat.le_refl _)] at hj
      simp only [Nat.sub_self, List.getElem?_cons_zero, Option.getD_some] at hj
      unfold setOf at hj
      obtain ⟨_, h2⟩ := List.mem_filter.1 hj
      rw [Bool.or_eq_true] at h2
      rcases h2 with h2 | h2
      · obtain ⟨e, he, hb, rfl⟩ := mem_deps (by simpa using h2)
        exact ha e he hb
      · rw [List.any_eq_true] at h2
        obtain ⟨d, hdm, h3⟩ := h2
        obtain ⟨e, he, hb, rfl⟩ := mem_deps hdm
        have hx := ha e he hb
        have hlt : e.on < acc.length := by
          refine Classical.byContradiction fun hn => ?_
          rw [List.getD_eq_getElem?_getD, List.getElem?_eq_none (by omega)] at h3
          simp at h3
        have hlt2 : e.on < done.length := by omega
        have ho2 : done[e.on]? = some done[e.on] := by simp [hlt2]
        refine h e.on _ ho2 j (by simpa using h3) ?_
        have ho3 : ops[e.on]? = some done[e.on] := by
          have : ops.toList[e.on]? = some done[e.on] := by rw [hd, List.getElem?_append_left hlt2]; exact ho2
          simpa using this
        exact hc e.on _ ho3 hx
    · rw [List.getElem?_eq_none (by simp; omega)] at ho'
      cases ho'

theorem anc_spec {f : Nat → Option Value} (hc : Closed ops f) {i j : Nat} {o : Oper} (ho : ops[i]? = some o) (h : anc ops i j = true) (ha : Ahead o f) : (f j).isSome = true := by
  unfold anc at h
  exact ancs_good hc ops.toList [] [] rfl rfl (fun i o h => by simp at h) i o (by simpa using ho) j (by simpa using h) ha

/-! Phases: how many of the operations that change the world have come up. -/
variable {eff : List Nat} {G : Nat → World → Prop}

def lo (ops : Array Oper) (eff : List Nat) (i : Nat) : Nat := eff.countP fun e => anc ops i e
def hi (ops : Array Oper) (eff : List Nat) (i : Nat) : Nat := eff.countP fun e => !anc ops e i && !decide (e = i)
def ph (eff : List Nat) (f : Nat → Option Value) : Nat := eff.countP fun e => (f e).isSome

/-- The walk in the order of the text: each operation in each phase in which it may come up. -/
def wpP (P : Program) (ops : Array Oper) (eff : List Nat) (G : Nat → World → Prop) (D : List PanicEntry → World → Prop) (F : Act → Prop) : Nat → List Oper → Act → Bool → Prop
  | _, [], a, d => d = false → F a
  | s, o :: r, a, d => if Region.wanted o (yielded ops a.tmps) = true then ∃ v dd, (∀ k, lo ops eff s ≤ k → k ≤ hi ops eff s → ∀ w, G k w → upT P (G (if s ∈ eff then k + 1 else k)) D v dd w ((execOp a.eval o).run P w)) ∧ wpP P ops eff G D F (s + 1) r (a.put o.dst v) (dd || d) else s ∉ eff ∧ wpP P ops eff G D F (s + 1) r (a.put o.dst undef) d

def FactP (P : Program) (ops : Array Oper) (eff : List Nat) (G : Nat → World → Prop) (D : List PanicEntry → World → Prop) (s : Nat) (o : Oper) (a : Act) (g : Value × Bool) : Prop :=
  (Region.wanted o (yielded ops a.tmps) = true ∧ ∀ k, lo ops eff s ≤ k → k ≤ hi ops eff s → ∀ w, G k w → upT P (G (if s ∈ eff then k + 1 else k)) D g.1 g.2 w ((execOp a.eval o).run P w)) ∨ (Region.wanted o (yielded ops a.tmps) = false ∧ g = (undef, false) ∧ s ∉ eff)

def cutF (g : Nat → Value × Bool) (n : Nat) : Nat → Option Value := fun j => if j < n then some (g j).1 else none

theorem fill_none : ∀ (r : List Oper) (s : Nat) (a : Act) (f : Nat → Option Value), (∀ i, s ≤ i → i < s + r.length → f i = none) → fillF f s r a = a
  | [], _, _, _, _ => rfl
  | o :: r, s, a, f, h => by
    unfold fillF
    rw [h s (Nat.le_refl _) (by simp)]
    exact fill_none r (s + 1) a f (fun i h1 h2 => h i (by omega) (by simp at h2 ⊢; omega))


theorem extrP : ∀ (r : List Oper) (s : Nat) (a : Act) (d : Bool), wpP P ops eff G D F s r a d → ∃ g : Nat → Value × Bool,
    (∀ k o, r[k]? = some o → FactP P ops eff G D (s + k) o (fillF (cutF g (s + k)) s r a) (g (s + k))) ∧ (d = false → (∀ k, k < r.length → (g (s + k)).2 = false) → F (fillF (fun j => some (g j).1) s r a))
  | [], s, a, d, h => ⟨fun _ => (undef, false), fun k o h => by simp at h, fun hd _ => h hd⟩
  | o :: r, s, a, d, h => by
    unfold wpP at h
    obtain ⟨v, dd, hf, h'⟩ : ∃ v dd, FactP P ops eff G D s o a (v, dd) ∧ wpP P ops eff G D F (s + 1) r (a.put o.dst v) (dd || d) := by
      by_cases hw : Region.wanted o (yielded ops a.tmps) = true
      · rw [if_pos hw] at h
        obtain ⟨v, dd, h1, h2⟩ := h
        exact ⟨v, dd, .inl ⟨hw, h1⟩, h2⟩
      · rw [if_neg hw] at h
        exact ⟨undef, false, .inr ⟨by simpa using hw, rfl, h.1⟩, by simpa using h.2⟩
    obtain ⟨g, hg1, hg2⟩ := extrP r (s + 1) _ _ h'
    refine ⟨fun j => if j = s then (v, dd) else g j, fun k o' hk => ?_, fun hd hall => ?_⟩
    · cases k with
      | zero =>
        have ho : o = o' := by simpa using hk
        subst ho
        rw [fill_none (o :: r) s a _ (fun i h1 _ => by unfold cutF; rw [if_neg (by omega)])]
        simpa using hf
      | succ k =>
        have := hg1 k o' (by simpa using hk)
        have e : s + (k + 1) = s + 1 + k := by omega
        unfold fillF
        have e1 : cutF (fun j => if j = s then (v, dd) else g j) (s + (k + 1)) s = some v := by unfold cutF; rw [if_pos (by omega)]; simp
        rw [e1, e]
        simp only
        rw [fill_congr (f := cutF (fun j => if j = s then (v, dd) else g j) (s + 1 + k)) (g := cutF g (s + 1 + k)) r (s + 1) _ (fun i h1 _ => by unfold cutF; split <;> simp [show i ≠ s by omega])]
        rw [if_neg (show ¬ s + 1 + k = s by omega)]
        exact this
    · unfold fillF
      simp only [if_true]
      rw [fill_congr (g := fun j => some (g j).1) r (s + 1) _ (fun i h1 _ => by simp [show i ≠ s by omega])]
      have h0 := hall 0 (by simp)
      simp at h0
      refine hg2 (by rw [h0, hd]; rfl) (fun k hk => ?_)
      have this : (if s + (k + 1) = s then (v, dd) else g (s + (k + 1))).2 = false := hall (k + 1) (by simpa using hk)
      rw [if_neg (show ¬ s + (k + 1) = s by omega), show s + (k + 1) = s + 1 + k by omega] at this
      exact this

theorem eval_eq (hap : Apart ops.toList) {o : Oper} {a0 : Act} {f g : Nat → Option Value} (t : Tmp) (ht : t ∈ o.looksAt ops)
    (h : ∀ j oj, ops[j]? = some oj → ∀ d, oj.dst = some d → d ∈ o.looksAt ops → (∃ v, f j = some v ∧ g j = some v) ∨ (f j = none ∧ g j = none)) :
    (fillF f 0 ops.toList a0).tmps[t]? = (fillF g 0 ops.toList a0).tmps[t]? := by
  by_cases hs : t < a0.tmps.size
  · have hh : (fillF f 0 ops.toList a0).eval (.tmp t) = (fillF g 0 ops.toList a0).eval (.tmp t) := by
      by_cases hx : ∃ oj ∈ ops.toList, oj.dst = some t
      · obtain ⟨oj, hm, hd⟩ := hx
        obtain ⟨j, hj⟩ := List.mem_iff_getElem?.1 hm
        rcases h j oj (by simpa using hj) t hd ht with ⟨v, h1, h2⟩ | ⟨h1, h2⟩
        · rw [fill_eval f ops.toList a0 j oj t v hap hj hd h1 hs, fill_eval g ops.toList a0 j oj t v hap hj hd h2 hs]
        · have hone : ∀ k o', ops.toList[k]? = some o' → o'.dst = some t → k = j := by
            intro k o' hk hd'
            have hp := List.pairwise_iff_getElem.1 hap
            obtain ⟨hk1, hk2⟩ := List.getElem?_eq_some_iff.1 hk
            obtain ⟨hj1, hj2⟩ := List.getElem?_eq_some_iff.1 hj
            rcases Nat.lt_trichotomy k j with hlt | he | hlt
            · exact absurd (by rw [hj2]; exact hd) (hp k j hk1 hj1 hlt t (by rw [hk2]; exact hd'))
            · exact he
            · exact absurd (by rw [hk2]; exact hd') (hp j k hj1 hk1 hlt t (by rw [hj2]; exact hd))
          rw [fill_none_at f t ops.toList 0 a0 (fun k o' hk hd' => by rw [hone k o' hk hd', Nat.zero_add]; exact h1), fill_none_at g t ops.toList 0 a0 (fun k o' hk hd' => by rw [hone k o' hk hd', Nat.zero_add]; exact h2)]
      · have hno : ∀ o ∈ ops.toList, o.dst ≠ some t := fun o ho hd => hx ⟨o, ho, hd⟩
        rw [fill_free f t _ _ _ hno, fill_free g t _ _ _ hno]
    simp only [Act.eval] at hh
    rw [getElem?_pos _ _ (by rw [fill_size]; exact hs), getElem?_pos _ _ (by rw [fill_size]; exact hs)]
    simp only [Array.getD_eq_getD_getElem?] at hh
    rw [getElem?_pos _ _ (by rw [fill_size]; exact hs), getElem?_pos _ _ (by rw [fill_size]; exact hs)] at hh
    simpa using hh
  · rw [getElem?_neg _ _ (by rw [fill_size]; exact hs), getElem?_neg _ _ (by rw [fill_size]; exact hs)]

theorem exec_eq (hap : Apart ops.toList) {o : Oper} (hsel : ∀ cs b, o.op ≠ .select cs b) {a0 : Act} {f g : Nat → Option Value}
    (h : ∀ j oj, ops[j]? = some oj → ∀ d, oj.dst = some d → d ∈ o.looksAt ops → (∃ v, f j = some v ∧ g j = some v) ∨ (f j = none ∧ g j = none)) :
    execOp (fillF f 0 ops.toList a0).eval o = execOp (fillF g 0 ops.toList a0).eval o ∧ Region.wanted o (yielded ops (fillF f 0 ops.toList a0).tmps) = Region.wanted o (yielded ops (fillF g 0 ops.toList a0).tmps) := by
  constructor
  · refine execOp_congr o hsel fun x hx => ?_
    cases x with
    | tmp t =>
      simp only [Act.eval, Array.getD_eq_getD_getElem?]
      rw [eval_eq hap t (List.mem_append_left _ (List.mem_filterMap.2 ⟨.tmp t, by simpa using hx, rfl⟩)) h]
    | const v => rfl
    | global g => rfl
    | func f => rfl
  · unfold Region.wanted
    cases hg : o.guard with
    | none => rfl
    | some gb =>
      obtain ⟨k, b⟩ := gb
      simp only
      have : yielded ops (fillF f 0 ops.toList a0).tmps k = yielded ops (fillF g 0 ops.toList a0).tmps k := by
        unfold yielded
        cases hd : (ops[k]?).bind (·.dst) with
        | none => rfl
        | some t =>
          simp only [Option.bind_some]
          rw [eval_eq hap t (List.mem_append_right _ (by rw [hg]; simp [hd])) h]
      rw [this]

theorem look_spec (h : lookOK ops = true) {i j : Nat} {o oj : Oper} (hi : ops[i]? = some o) (hj : ops[j]? = some oj) {d : Tmp} (hd : oj.dst = some d) (hm : d ∈ o.looksAt ops) : (∃ e ∈ o.after, Region.binds .any e = true ∧ e.on = j) ∨ (anc ops j i = true ∧ i < j) := by
  have hi' : i < ops.size := (Array.getElem?_eq_some_iff.1 hi).1
  have hj' : j < ops.size := (Array.getElem?_eq_some_iff.1 hj).1
  unfold lookOK at h
  have h1 := (List.all_eq_true.1 h) i (List.mem_range.2 hi')
  rw [hi] at h1
  have h2 := (List.all_eq_true.1 h1) j (List.mem_range.2 hj')
  rw [hj] at h2
  simp only [hd] at h2
  rw [Bool.or_eq_true, Bool.or_eq_true] at h2
  rcases h2 with (h2 | h2) | h2
  · simp at h2; exact absurd hm h2
  · rw [List.any_eq_true] at h2
    obtain ⟨e, he, hb⟩ := h2
    rw [Bool.and_eq_true, decide_eq_true_eq] at hb
    exact .inl ⟨e, by simpa using he, hb.1, hb.2⟩
  · rw [Bool.and_eq_true, decide_eq_true_eq] at h2
    exact .inr h2

theorem ord_spec (h : ordOK ops = true) {i : Nat} {o : Oper} (hi : ops[i]? = some o) {e : Edge} (he : e ∈ o.after) (hb : Region.binds .any e = true) : e.on < i := by
  have hi' : i < ops.size := (Array.getElem?_eq_some_iff.1 hi).1
  have h1 := (List.all_eq_true.1 h) i (List.mem_range.2 hi')
  rw [hi] at h1
  have h2 := (List.all_eq_true.1 h1) e (by simpa using he)
  rw [Bool.or_eq_true, decide_eq_true_eq] at h2
  rcases h2 with h2 | h2
  · rw [hb] at h2; cases h2
  · exact h2

theorem ready_nil (hord : ordOK ops = true) {listed : Array Bool} (hs : listed.size = ops.size) (hr : Region.ready .any ops listed = []) : ∀ i, i < ops.size → listed.getD i false = true := by
  intro i
  induction i using Nat.strongRecOn with
  | ind i ih =>
    intro hi
    refine Classical.byContradiction fun hn => ?_
    have hm : i ∈ Region.ready .any ops listed := by
      rw [mem_ready]
      refine ⟨?_, ops[i], by simp [hi], fun e he hb => ?_⟩
      · have hil : i < listed.size := by omega
        simp only [Array.getD_eq_getD_getElem?, hil, getElem?_pos, Option.getD_some] at hn ⊢
        simpa using hn
      · have := ord_spec hord (show ops[i]? = some ops[i] by simp [hi]) he hb
        exact ih e.on this (by omega)
    rw [hr] at hm
    cases hm

theorem count_less {l : List Bool} {i : Nat} (hi : i < l.length) (h : l[i] = false) : (l.set i true).count false + 1 = l.count false := by
  induction l generalizing i with
  | nil => simp at hi
  | cons b l ih =>
    cases i with
    | zero => simp at h; subst h; simp
    | succ i =>
      simp only [List.set_cons_succ, List.count_cons]
      have := ih (i := i) (by simpa using hi) (by simpa using h)
      omega



theorem countP_upd (f : Nat → Option Value) (i : Nat) (v : Value) (hf : f i = none) : ∀ (l : List Nat), l.Nodup → (l.countP fun e => (upd f i v e).isSome) = (l.countP fun e => (f e).isSome) + (if i ∈ l then 1 else 0)
  | [], _ => rfl
  | e :: l, h => by
    obtain ⟨h1, h2⟩ := List.nodup_cons.1 h
    have ih := countP_upd f i v hf l h2
    rw [List.countP_cons, List.countP_cons, ih]
    by_cases he : e = i
    · subst he
      rw [upd_same, hf, if_neg h1]
      simp
    · rw [upd_other f v he]
      have : (i ∈ e :: l) ↔ i ∈ l := by simp [Ne.symm he]
      simp only [this]
      omega

theorem any_P (heff : eff.Nodup) (hlt : ∀ e ∈ eff, e < ops.size) (hord : ordOK ops = true) (hlook : lookOK ops = true) (hsel : Region.noSelect ops = true) (hap : Apart ops.toList) (a0 : Act) (g : Nat → Value × Bool)
    (hQ : ∀ ch a w, a.defers = a0.defers → D ch w → Q (.panic ch) a w)
    (hfact : ∀ k o, ops[k]? = some o → FactP P ops eff G D k o (fillF (cutF g k) 0 ops.toList a0) (g k))
    (fin : ∀ w, G eff.length w → (∀ k, k < ops.size → (g k).2 = false) → Q .normal (fillF (fun j => some (g j).1) 0 ops.toList a0) w) :
    ∀ (fuel : Nat) (listed : Array Bool) (f : Nat → Option Value) (w : World), listed.size = ops.size → (∀ i, i < ops.size → listed.getD i false = (f i).isSome) → G (ph eff f) w → Closed ops f → (∀ i v, f i = some v → v = (g i).1 ∧ (g i).2 = false) → listed.toList.count false ≤ fuel →
      wpAny P .any ops Q fuel listed (fillF f 0 ops.toList a0) w := by
  have done : ∀ (f : Nat → Option Value) (w : World), (∀ i, i < ops.size → (f i).isSome = true) → G (ph eff f) w → (∀ i v, f i = some v → v = (g i).1 ∧ (g i).2 = false) → Q .normal (fillF f 0 ops.toList a0) w := by
    intro f w hall hC hf
    rw [fill_congr (f := f) (g := fun j => some (g j).1) ops.toList 0 a0 (fun i _ hi => by
      obtain ⟨v, hv⟩ := Option.isSome_iff_exists.1 (hall i (by simpa using hi))
      rw [hv, (hf i v hv).1])]
    have hp : ph eff f = eff.length := List.countP_eq_length.2 (fun e he => hall e (hlt e he))
    rw [hp] at hC
    refine fin w hC fun k hk => ?_
    obtain ⟨v, hv⟩ := Option.isSome_iff_exists.1 (hall k hk)
    exact (hf k v hv).2
  intro fuel
  induction fuel with
  | zero =>
    intro listed f w hs hl hC hcl0 hf hc
    have hall : ∀ i, i < ops.size → listed.getD i false = true := by
      intro i hi
      have h0 : listed.toList.count false = 0 := by omega
      rw [List.count_eq_zero] at h0
      have hil : i < listed.size := by omega
      simp only [Array.getD_eq_getD_getElem?, hil, getElem?_pos, Option.getD_some]
      refine Classical.byContradiction fun hn => h0 ?_
      have hf : listed[i] = false := by simpa using hn
      rw [← hf]
      simp
    refine ⟨?_, done f w (fun i hi => by rw [← hl i hi]; exact hall i hi) hC hf⟩
    refine List.eq_nil_iff_forall_not_mem.2 fun i hm => ?_
    obtain ⟨h1, o, ho, _⟩ := mem_ready.1 hm
    have hi : i < ops.size := (Array.getElem?_eq_some_iff.1 ho).1
    have h2 := hall i hi
    have hil : i < listed.size := by omega
    simp only [Array.getD_eq_getD_getElem?, hil, getElem?_pos, Option.getD_some] at h1 h2
    rw [h1] at h2
    cases h2
  | succ fuel ih =>
    intro listed f w hs hl hC hcl0 hf hc
    refine ⟨fun hr => done f w (fun i hi => by rw [← hl i hi]; exact ready_nil hord hs hr i hi) hC hf, fun i hm => ?_⟩
    obtain ⟨h1, o, ho, hdep⟩ := mem_ready.1 hm
    have hi : i < ops.size := (Array.getElem?_eq_some_iff.1 ho).1
    have hil : i < listed.size := by omega
    have hli : listed[i] = false := by simpa [Array.getD_eq_getD_getElem?, hil] using h1
    have hfi : f i = none := by
      have := hl i hi
      simp only [Array.getD_eq_getD_getElem?, hil, getElem?_pos, Option.getD_some, hli] at this
      cases hfx : f i with
      | none => rfl
      | some v => rw [hfx] at this; cases this
    have hdf : Ahead o f := fun e he hb => by
      rw [← hl e.on (by have := ord_spec hord ho he hb; omega)]
      exact hdep e he hb
    have hag : ∀ j oj, ops[j]? = some oj → ∀ d, oj.dst = some d → d ∈ o.looksAt ops → (∃ v, f j = some v ∧ cutF g i j = some v) ∨ (f j = none ∧ cutF g i j = none) := by
      intro j oj hj d hd hm
      rcases look_spec hlook ho hj hd hm with ⟨e, he, hb, rfl⟩ | ⟨hx, hij⟩
      · left
        have hlt := ord_spec hord ho he hb
        obtain ⟨v, hv⟩ := Option.isSome_iff_exists.1 (hdf e he hb)
        refine ⟨v, hv, ?_⟩
        unfold cutF
        rw [if_pos hlt, (hf _ _ hv).1]
      · right
        refine ⟨?_, by unfold cutF; rw [if_neg (by omega)]⟩
        cases hfj : f j with
        | none => rfl
        | some u =>
          exfalso
          have := anc_spec hcl0 hj hx (hcl0 j oj hj (by rw [hfj]; rfl))
          rw [hfi] at this
          cases this
    obtain ⟨e1, e2⟩ := exec_eq hap (Region.noSelect_spec hsel i o · · ho) (a0 := a0) hag
    have hlo : lo ops eff i ≤ ph eff f := List.countP_mono_left fun e _ he => anc_spec hcl0 ho he hdf
    have hhi : ph eff f ≤ Rt.hi ops eff i := by
      refine List.countP_mono_left fun e hem he => ?_
      rw [Bool.and_eq_true, Bool.not_eq_true', Bool.not_eq_true', decide_eq_false_iff_not]
      have hen := hlt e hem
      have hoe : ops[e]? = some ops[e] := by simp [hen]
      refine ⟨?_, fun h => ?_⟩
      · cases hx : anc ops e i with
        | false => rfl
        | true =>
          have := anc_spec hcl0 hoe hx (hcl0 e _ hoe he)
          rw [hfi] at this
          cases this
      · subst h
        rw [hfi] at he
        cases he
    have next : ∀ v w', v = (g i).1 → (g i).2 = false → G (if i ∈ eff then ph eff f + 1 else ph eff f) w' → wpAny P .any ops Q fuel (listed.setIfInBounds i true) ((fillF f 0 ops.toList a0).put o.dst v) w' := by
      intro v w' hv hd hC'
      have hfu := fill_upd f v ops.toList 0 i a0 o hap (by simpa using ho) (by simpa using hfi)
      rw [Nat.zero_add] at hfu
      rw [hfu]
      refine ih _ _ _ (by simpa using hs) (fun j hj => ?_) ?_ (fun j oj hj hsj e he hb => ?_) (fun j u hu => ?_) ?_
      · by_cases e : j = i
        · subst e
          rw [upd_same]
          simp [Array.getD_eq_getD_getElem?, hil]
        · rw [upd_other f v e, ← hl j hj]
          simp [Array.getD_eq_getD_getElem?, Array.getElem?_setIfInBounds_ne (Ne.symm e)]
      · have := countP_upd f i v hfi eff heff
        unfold ph at hC' ⊢
        rw [this]
        by_cases hie : i ∈ eff
        · rw [if_pos hie] at hC' ⊢; exact hC'
        · rw [if_neg hie] at hC' ⊢; exact hC'
      · by_cases e2 : e.on = i
        · rw [e2, upd_same]; rfl
        · rw [upd_other f v e2]
          by_cases e3 : j = i
          · subst e3
            rw [ho] at hj
            cases hj
            exact hdf e he hb
          · rw [upd_other f v e3] at hsj
            exact hcl0 j oj hj hsj e he hb
      · by_cases e : j = i
        · subst e
          rw [upd_same] at hu
          cases hu
          exact ⟨hv, hd⟩
        · rw [upd_other f v e] at hu
          exact hf j u hu
      · have hcl := count_less (l := listed.toList) (i := i) (by simpa using hil) (by simpa using hli)
        have : (listed.setIfInBounds i true).toList = listed.toList.set i true := by simp
        rw [this]
        omega
    unfold wpOp
    rw [ho]
    simp only [e2]
    rcases hfact i o ho with ⟨hw, hu⟩ | ⟨hw, hg, hn⟩
    · rw [if_pos hw]
      refine .inl ?_
      unfold Oper.wp
      rw [e1]
      have hu := hu _ hlo hhi w hC
      generalize (execOp (fillF (cutF g i) 0 ops.toList a0).eval o).run P w = res at hu ⊢
      cases res with
      | ok n w' =>
        cases n <;> simp only [upT] at hu <;> simp only [Oper.upon]
        case value u => exact next u w' hu.1 hu.2.1 hu.2.2
        case skip => exact next undef w' hu.1 hu.2.1 hu.2.2
        case enter fn args =>
          refine hu.mono fun e w'' he => ?_
          rcases he with ⟨rfl, hd, hC'⟩ | ⟨ch, rfl, hD⟩
          · exact next _ w'' rfl hd hC'
          · exact hQ ch _ w'' (fill_defers _ _ _ _) hD
      | halt x w' => simp only [upT] at hu
    · rw [if_neg (by rw [hw]; decide)]
      exact next undef w (by rw [hg]) (by rw [hg]) (by rw [if_neg hn]; exact hC)

/-- THE LAW, in phases: eff are the places of those operations that change the world; G k holds when k of them have come up. -/
theorem wp_region_phases {id : Nat} {a0 : Act} {w0 : World} {l : List Oper} (hm : P.follows .mixedOrders = true) (hB : okB l.toArray = true) (eff : List Nat) (heff : eff.Nodup) (hlt : eff.all (fun e => decide (e < l.length)) = true) (G : Nat → World → Prop) (D : List PanicEntry → World → Prop) (h0 : G 0 w0.drew)
    (hQ : ∀ ch a w, a.defers = a0.defers → D ch w → Q (.panic ch) a w) (h : wpP P l.toArray eff G D (fun a => ∀ w, G eff.length w → Q .normal a w) 0 l a0 false) :
    (Code.region id l.toArray true).wp P Q a0 w0 := by
  refine wp_region_any hm ?_
  unfold okB at hB
  simp only [Bool.and_eq_true] at hB
  obtain ⟨⟨⟨hs, ho⟩, hl⟩, ha⟩ := hB
  obtain ⟨g, hg1, hg2⟩ := extrP (ops := l.toArray) l 0 a0 false h
  have := any_P (P := P) (Q := Q) (G := G) (D := D) (ops := l.toArray) heff (fun e he => by have := (List.all_eq_true.1 hlt) e he; simpa using this) ho hl hs (apart_of _ ha) a0 g hQ (fun k o hk => by
      have := hg1 k o (by simpa using hk)
      rw [Nat.zero_add] at this
      simpa using this) (fun w hC hall => hg2 rfl (fun k hk => by rw [Nat.zero_add]; exact hall k (by simpa using hk)) w hC)
    l.toArray.size (Array.replicate l.toArray.size false) (fun _ => none) w0.drew (by simp) (fun i hi => by
      have : i < l.length := by simpa using hi
      simp [Array.getD_eq_getD_getElem?, this]) (by
      have : ph eff (fun _ => none) = 0 := by unfold ph; rw [List.countP_eq_zero]; intro e _; simp
      rw [this]; exact h0) (fun j o _ h => by cases h) (fun i v h => by cases h) (by simp)
  rw [fill_none _ _ _ _ (fun _ _ _ => rfl)] at this
  exact this

theorem wpP_yes {s : Nat} {o : Oper} {r : List Oper} {a : Act} {d : Bool} (hg : Region.wanted o (yielded ops a.tmps) = true) (l h : Nat) (hl : lo ops eff s = l) (hh : hi ops eff s = h) (b : Bool) (hb : decide (s ∈ eff) = b) (v : Value) (dd : Bool)
    (h1 : ∀ k, l ≤ k → k ≤ h → ∀ w, G k w → upT P (G (if b then k + 1 else k)) D v dd w ((execOp a.eval o).run P w))
    (h2 : ∀ K : Act → Bool → Prop, (∀ a d, wpP P ops eff G D F (s + 1) r a d → K a d) → K (a.put o.dst v) (dd || d)) : wpP P ops eff G D F s (o :: r) a d := by
  unfold wpP
  rw [if_pos hg]
  subst hl hh hb
  exact ⟨v, dd, by simpa using h1, h2 _ (fun _ _ h => h)⟩
theorem wpP_no {s : Nat} {o : Oper} {r : List Oper} {a : Act} {d : Bool} (hg : Region.wanted o (yielded ops a.tmps) = false) (hb : decide (s ∈ eff) = false)
    (h2 : ∀ K : Act → Bool → Prop, (∀ a d, wpP P ops eff G D F (s + 1) r a d → K a d) → K (a.put o.dst undef) d) : wpP P ops eff G D F s (o :: r) a d := by
  unfold wpP
  rw [if_neg (by rw [hg]; decide)]
  exact ⟨by simpa using hb, h2 _ (fun _ _ h => h)⟩
/-- An operation that looks at no world. -/
theorem wpP_pure {s : Nat} {o : Oper} {r : List Oper} {a : Act} {d : Bool} (hg : Region.wanted o (yielded ops a.tmps) = true) (hb : decide (s ∈ eff) = false) (v : Value) (h1 : ∀ w, upT P (fun w' => w' = w) D v false w ((execOp a.eval o).run P w))
    (h2 : ∀ K : Act → Bool → Prop, (∀ a d, wpP P ops eff G D F (s + 1) r a d → K a d) → K (a.put o.dst v) d) : wpP P ops eff G D F s (o :: r) a d :=
  wpP_yes hg _ _ rfl rfl false hb v false (fun k _ _ w hk => upT_mono (by rintro w' rfl; simpa using hk) (h1 w)) (fun K hK => by simpa using h2 K hK)

/-- An operation of one phase. -/
theorem wpP_one {s : Nat} {o : Oper} {r : List Oper} {a : Act} {d : Bool} (hg : Region.wanted o (yielded ops a.tmps) = true) (m : Nat) (hl : lo ops eff s = m) (hh : hi ops eff s = m) (hb : decide (s ∈ eff) = true) (v : Value)
    (h1 : ∀ w, G m w → upT P (G (m + 1)) D v false w ((execOp a.eval o).run P w))
    (h2 : ∀ K : Act → Bool → Prop, (∀ a d, wpP P ops eff G D F (s + 1) r a d → K a d) → K (a.put o.dst v) d) : wpP P ops eff G D F s (o :: r) a d :=
  wpP_yes hg _ _ hl hh true hb v false (fun k hk1 hk2 w hk => by
    obtain rfl : k = m := by omega
    simpa using h1 w hk) (fun K hK => by simpa using h2 K hK)

/-- One that only reads, in those phases in which it may come up. -/
theorem wpP_read {s : Nat} {o : Oper} {r : List Oper} {a : Act} {d : Bool} (hg : Region.wanted o (yielded ops a.tmps) = true) (l h : Nat) (hl : lo ops eff s = l) (hh : hi ops eff s = h) (hb : decide (s ∈ eff) = false) (v : Value)
    (h1 : ∀ k, l ≤ k → k ≤ h → ∀ w, G k w → upT P (fun w' => w' = w) D v false w ((execOp a.eval o).run P w))
    (h2 : ∀ K : Act → Bool → Prop, (∀ a d, wpP P ops eff G D F (s + 1) r a d → K a d) → K (a.put o.dst v) d) : wpP P ops eff G D F s (o :: r) a d :=
  wpP_yes hg l h hl hh false hb v false (fun k hk1 hk2 w hk => upT_mono (by rintro w' rfl; simpa using hk) (h1 k hk1 hk2 w hk)) (fun K hK => by simpa using h2 K hK)

theorem wpP_end {s : Nat} {a : Act} {d : Bool} (h : d = false → F a) : wpP P ops eff G D F s [] a d := h

end Go.Rt
