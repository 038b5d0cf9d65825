/-
  A region that draws its order, by one invariant: no branching over orders. Nothing of a program.
-/
import Derived.Orders
import Derived.WalkKit
set_option linter.unusedVariables false
namespace Go.Rg
open Go

/-- The frame behind those operations that have come up: each one's value in its slot. -/
def fillF (f : Nat → Option Value) : Nat → List Oper → Act → Act
  | _, [], a => a
  | i, o :: r, a => fillF f (i + 1) r (match f i with | some v => a.put o.dst v | none => a)

def upd (f : Nat → Option Value) (i : Nat) (v : Value) : Nat → Option Value := fun j => if j = i then some v else f j

theorem upd_same (f : Nat → Option Value) (i : Nat) (v : Value) : upd f i v i = some v := by simp [upd]
theorem upd_other (f : Nat → Option Value) {i j : Nat} (v : Value) (h : j ≠ i) : upd f i v j = f j := by simp [upd, h]

def Apart (ops : List Oper) : Prop := ops.Pairwise fun x y => ∀ d, x.dst = some d → y.dst ≠ some d

theorem fill_put (f : Nat → Option Value) (v : Value) (x : Option Tmp) : ∀ (r : List Oper) (s : Nat) (a : Act), (∀ o ∈ r, ∀ d, x = some d → o.dst ≠ some d) → (fillF f s r a).put x v = fillF f s r (a.put x v)
  | [], _, _, _ => rfl
  | o :: r, s, a, h => by
    unfold fillF
    rw [fill_put f v x r (s + 1) _ (fun o ho => h o (List.mem_cons_of_mem _ ho))]
    congr 1
    cases f s with
    | none => rfl
    | some u => exact (Act.put_comm a v u (fun d hd => h o (by simp) d hd)).symm

theorem fill_congr {f g : Nat → Option Value} : ∀ (r : List Oper) (s : Nat) (a : Act), (∀ i, s ≤ i → i < s + r.length → f i = g i) → fillF f s r a = fillF g s r a
  | [], _, _, _ => rfl
  | o :: r, s, a, h => by
    unfold fillF
    rw [h s (Nat.le_refl _) (by simp)]
    exact fill_congr r (s + 1) _ (fun i h1 h2 => h i (by omega) (by simp at h2 ⊢; omega))

theorem fill_upd (f : Nat → Option Value) (v : Value) : ∀ (r : List Oper) (s k : Nat) (a : Act) (o : Oper), Apart r → r[k]? = some o → f (s + k) = none → (fillF f s r a).put o.dst v = fillF (upd f (s + k) v) s r a
  | [], _, _, _, _, _, h, _ => by simp at h
  | o0 :: r, s, 0, a, o, hp, h, hf => by
    obtain ⟨hp1, hp2⟩ := List.pairwise_cons.1 hp
    simp at h
    subst h
    unfold fillF
    simp only [Nat.add_zero] at hf ⊢
    rw [hf, upd_same]
    rw [fill_put f v o0.dst r (s + 1) a (fun o ho d hd => hp1 o ho d hd)]
    exact fill_congr r (s + 1) _ (fun i h1 _ => (upd_other f v (by omega)).symm)
  | o0 :: r, s, k + 1, a, o, hp, h, hf => by
    obtain ⟨hp1, hp2⟩ := List.pairwise_cons.1 hp
    unfold fillF
    have e : s + (k + 1) = (s + 1) + k := by omega
    rw [e] at hf ⊢
    rw [upd_other f v (show s ≠ s + 1 + k by omega)]
    exact fill_upd f v r (s + 1) k _ o hp2 (by simpa using h) hf

theorem put_size (a : Act) (x : Option Tmp) (v : Value) : (a.put x v).tmps.size = a.tmps.size := by cases x <;> simp [Act.put]

theorem fill_size (f : Nat → Option Value) : ∀ (r : List Oper) (s : Nat) (a : Act), (fillF f s r a).tmps.size = a.tmps.size
  | [], _, _ => rfl
  | o :: r, s, a => by
    unfold fillF
    rw [fill_size f r (s + 1)]
    cases f s with
    | none => rfl
    | some v => exact put_size _ _ _

/-- A slot that some operation has filled. -/
theorem fill_eval (f : Nat → Option Value) (r : List Oper) (a : Act) (k : Nat) (o : Oper) (t : Tmp) (v : Value) (hp : Apart r) (h : r[k]? = some o) (hd : o.dst = some t) (hf : f k = some v) (ht : t < a.tmps.size) : (fillF f 0 r a).eval (.tmp t) = v := by
  let g : Nat → Option Value := fun j => if j = k then none else f j
  have hg : upd g k v = f := by
    funext j
    by_cases e : j = k
    · subst e; rw [upd_same, hf]
    · rw [upd_other _ _ e]; simp [g, e]
  have hgk : g (0 + k) = none := by simp [g]
  have := fill_upd g v r 0 k a o hp h hgk
  rw [Nat.zero_add, hg] at this
  rw [← this, hd]
  simp [Act.eval, Act.put, fill_size, ht]

/-- A slot that no operation fills. -/
theorem fill_free (f : Nat → Option Value) (t : Tmp) : ∀ (r : List Oper) (s : Nat) (a : Act), (∀ o ∈ r, o.dst ≠ some t) → (fillF f s r a).eval (.tmp t) = a.eval (.tmp t)
  | [], _, _, _ => rfl
  | o :: r, s, a, h => by
    unfold fillF
    rw [fill_free f t r (s + 1) _ (fun o ho => h o (List.mem_cons_of_mem _ ho))]
    cases f s with
    | none => rfl
    | some v =>
      have := h o (by simp)
      cases hd : o.dst with
      | none => rfl
      | some d =>
        have hne : d ≠ t := fun e => this (by rw [hd, e])
        simp [Act.eval, Act.put, Array.getElem?_setIfInBounds_ne hne]

def ordOK (ops : Array Oper) : Bool := (List.range ops.size).all fun i => match ops[i]? with
  | some o => o.guard.isNone && o.after.toList.all fun e => !Region.binds .any e || decide (e.on < i)
  | none => true

def apartB (ops : List Oper) : Bool := match ops with
  | [] => true
  | o :: r => (match o.dst with | some d => r.all fun y => decide (y.dst ≠ some d) | none => true) && apartB r

theorem apart_of : ∀ (ops : List Oper), apartB ops = true → Apart ops
  | [], _ => List.Pairwise.nil
  | o :: r, h => by
    unfold apartB at h
    rw [Bool.and_eq_true] at h
    refine List.pairwise_cons.2 ⟨fun y hy d hd => ?_, apart_of r h.2⟩
    have h1 := h.1
    rw [hd] at h1
    simp only [List.all_eq_true, decide_eq_true_eq] at h1
    exact h1 y hy

variable {P : Program} {ops : Array Oper} {Q : Exit → Act → World → Prop}

theorem ready_nil (hord : ordOK ops = true) {listed : Array Bool} (hs : listed.size = ops.size) (hr : Region.ready .any ops listed = []) : ∀ i, i < ops.size → listed.getD i false = true := by
  intro i
  induction i using Nat.strongRecOn with
  | ind i ih =>
    intro hi
    refine Classical.byContradiction fun hn => ?_
    have hm : i ∈ Region.ready .any ops listed := by
      rw [mem_ready]
      refine ⟨?_, ops[i], by simp [hi], fun e he hb => ?_⟩
      · have hil : i < listed.size := by omega
        simp only [Array.getD_eq_getD_getElem?, hil, getElem?_pos, Option.getD_some] at hn ⊢
        simpa using hn
      · have h := (List.all_eq_true.1 hord) i (List.mem_range.2 hi)
        rw [getElem?_pos ops i hi] at h
        simp only [Bool.and_eq_true, List.all_eq_true, Bool.or_eq_true, Bool.not_eq_true', decide_eq_true_eq] at h
        rcases h.2 e (by simpa using he) with h | h
        · rw [hb] at h; cases h
        · exact ih e.on h (by omega)
    rw [hr] at hm
    cases hm

theorem count_less {l : List Bool} {i : Nat} (hi : i < l.length) (h : l[i] = false) : (l.set i true).count false + 1 = l.count false := by
  induction l generalizing i with
  | nil => simp at hi
  | cons b l ih =>
    cases i with
    | zero => simp at h; subst h; simp
    | succ i =>
      simp only [List.set_cons_succ, List.count_cons]
      have := ih (i := i) (by simpa using hi) (by simpa using h)
      omega

theorem any_inv (hord : ordOK ops = true) (hap : Apart ops.toList) (a0 : Act) (J : (Nat → Option Value) → World → Prop)
    (step : ∀ f w i o, J f w → ops[i]? = some o → f i = none → (∀ e ∈ o.after, Region.binds .any e = true → (f e.on).isSome = true) →
      o.wp P (fillF f 0 ops.toList a0) w (fun a' w' => ∃ v, a' = (fillF f 0 ops.toList a0).put o.dst v ∧ J (upd f i v) w') Q)
    (fin : ∀ f w, J f w → (∀ i, i < ops.size → (f i).isSome = true) → Q .normal (fillF f 0 ops.toList a0) w) :
    ∀ (fuel : Nat) (listed : Array Bool) (f : Nat → Option Value) (w : World), listed.size = ops.size → (∀ i, i < ops.size → listed.getD i false = (f i).isSome) → J f w → listed.toList.count false ≤ fuel →
      wpAny P .any ops Q fuel listed (fillF f 0 ops.toList a0) w := by
  intro fuel
  induction fuel with
  | zero =>
    intro listed f w hs hl hJ hc
    have hall : ∀ i, i < ops.size → listed.getD i false = true := by
      intro i hi
      have h0 : listed.toList.count false = 0 := by omega
      rw [List.count_eq_zero] at h0
      have hil : i < listed.size := by omega
      simp only [Array.getD_eq_getD_getElem?, hil, getElem?_pos, Option.getD_some]
      refine Classical.byContradiction fun hn => h0 ?_
      have hf : listed[i] = false := by simpa using hn
      rw [← hf]
      simp
    refine ⟨?_, fin f w hJ fun i hi => by rw [← hl i hi]; exact hall i hi⟩
    refine List.eq_nil_iff_forall_not_mem.2 fun i hm => ?_
    obtain ⟨h1, o, ho, _⟩ := mem_ready.1 hm
    have hi : i < ops.size := (Array.getElem?_eq_some_iff.1 ho).1
    have h2 := hall i hi
    have hil : i < listed.size := by omega
    simp only [Array.getD_eq_getD_getElem?, hil, getElem?_pos, Option.getD_some] at h1 h2
    rw [h1] at h2
    cases h2
  | succ fuel ih =>
    intro listed f w hs hl hJ hc
    refine ⟨fun hr => fin f w hJ fun i hi => by rw [← hl i hi]; exact ready_nil hord hs hr i hi, fun i hm => ?_⟩
    obtain ⟨h1, o, ho, hdep⟩ := mem_ready.1 hm
    have hi : i < ops.size := (Array.getElem?_eq_some_iff.1 ho).1
    have hil : i < listed.size := by omega
    have hli : listed[i] = false := by simpa [Array.getD_eq_getD_getElem?, hil] using h1
    have hfi : f i = none := by
      have := hl i hi
      simp only [Array.getD_eq_getD_getElem?, hil, getElem?_pos, Option.getD_some, hli] at this
      cases hfx : f i with
      | none => rfl
      | some v => rw [hfx] at this; cases this
    have hgd : o.guard = none := by
      have h := (List.all_eq_true.1 hord) i (List.mem_range.2 hi)
      rw [ho] at h
      simp only [Bool.and_eq_true] at h
      simpa using h.1
    have hst := step f w i o hJ ho hfi (fun e he hb => by
      have h2 := hdep e he hb
      have h3 : e.on < ops.size := by
        refine Classical.byContradiction fun hn => ?_
        have : ¬ e.on < listed.size := by omega
        simp [Array.getD_eq_getD_getElem?, this] at h2
      rw [← hl e.on h3]; exact h2)
    unfold wpOp
    rw [ho]
    simp only [Region.wanted, hgd, if_true]
    refine .inl (Oper.wp_mono ?_ hst)
    rintro a' w' ⟨v, rfl, hJ'⟩
    have hfu := fill_upd f v ops.toList 0 i a0 o hap (by simpa using ho) (by simpa using hfi)
    rw [Nat.zero_add] at hfu
    rw [hfu]
    refine ih _ _ _ (by simpa using hs) (fun j hj => ?_) hJ' ?_
    · by_cases e : j = i
      · subst e
        rw [upd_same]
        simp [Array.getD_eq_getD_getElem?, hil]
      · rw [upd_other f v e, ← hl j hj]
        simp [Array.getD_eq_getD_getElem?, Array.getElem?_setIfInBounds_ne (Ne.symm e)]
    · have hcl := count_less (l := listed.toList) (i := i) (by simpa using hil) (by simpa using hli)
      have : (listed.setIfInBounds i true).toList = listed.toList.set i true := by simp
      rw [this]
      omega

/-- THE LAW: a region that draws its order, by an invariant over what has come up. -/
theorem wp_region_inv {id : Nat} {a0 : Act} {w0 : World} (hm : P.follows .mixedOrders = true) (hord : ordOK ops = true) (hap : apartB ops.toList = true) (J : (Nat → Option Value) → World → Prop)
    (h0 : J (fun _ => none) w0.drew)
    (step : ∀ f w i o, J f w → ops[i]? = some o → f i = none → (∀ e ∈ o.after, Region.binds .any e = true → (f e.on).isSome = true) →
      o.wp P (fillF f 0 ops.toList a0) w (fun a' w' => ∃ v, a' = (fillF f 0 ops.toList a0).put o.dst v ∧ J (upd f i v) w') Q)
    (fin : ∀ f w, J f w → (∀ i, i < ops.size → (f i).isSome = true) → Q .normal (fillF f 0 ops.toList a0) w) :
    (Code.region id ops true).wp P Q a0 w0 := by
  refine wp_region_any hm ?_
  have hz : ∀ (r : List Oper) (s : Nat) (a : Act), fillF (fun _ => none) s r a = a := by
    intro r
    induction r with
    | nil => intro s a; rfl
    | cons o r ih => intro s a; unfold fillF; exact ih _ _
  have h := any_inv (P := P) (Q := Q) hord (apart_of _ hap) a0 J step fin ops.size (Array.replicate ops.size false) (fun _ => none) w0.drew (by simp) (fun i hi => by simp [Array.getD_eq_getD_getElem?, hi]) h0 (by simp)
  rw [hz] at h
  exact h

/-- The same; the frame is a letter, its slots are told. -/
theorem wp_region_inv2 {id : Nat} {a0 : Act} {w0 : World} (hm : P.follows .mixedOrders = true) (hord : ordOK ops = true) (hap : apartB ops.toList = true) (J : (Nat → Option Value) → World → Prop)
    (h0 : J (fun _ => none) w0.drew)
    (step : ∀ f w i o (A : Act), J f w → ops[i]? = some o → f i = none → (∀ e ∈ o.after, Region.binds .any e = true → (f e.on).isSome = true) →
      (∀ (k : Nat) (o : Oper) (t : Tmp) (v : Value), ops[k]? = some o → o.dst = some t → t < a0.tmps.size → f k = some v → A.eval (.tmp t) = v) →
      (∀ (t : Tmp), ops.toList.all (fun o => decide (o.dst ≠ some t)) = true → A.eval (.tmp t) = a0.eval (.tmp t)) →
      o.wp P A w (fun a' w' => ∃ v, a' = A.put o.dst v ∧ J (upd f i v) w') Q)
    (fin : ∀ f w, J f w → (∀ i, i < ops.size → (f i).isSome = true) → Q .normal (fillF f 0 ops.toList a0) w) :
    (Code.region id ops true).wp P Q a0 w0 :=
  wp_region_inv hm hord hap J h0 (fun f w i o hJ ho hf hd => step f w i o _ hJ ho hf hd
    (fun k o t v h1 h2 h3 h4 => fill_eval f ops.toList a0 k o t v (apart_of _ hap) (by simpa using h1) h2 h4 h3)
    (fun t ht => fill_free f t ops.toList 0 a0 (fun o ho => by simpa using (List.all_eq_true.1 ht) o ho))) fin

theorem wp_value {o : Oper} {A : Act} {w w' : World} {f : Nat → Option Value} {i : Nat} {J : (Nat → Option Value) → World → Prop} {v : Value} (h : (execOp A.eval o).run P w = .ok (.value v) w') (hJ : J (upd f i v) w') :
    o.wp P A w (fun a' w' => ∃ v, a' = A.put o.dst v ∧ J (upd f i v) w') Q := by
  unfold Oper.wp
  rw [h]
  exact ⟨v, rfl, hJ⟩

theorem wp_skip {o : Oper} {A : Act} {w w' : World} {f : Nat → Option Value} {i : Nat} {J : (Nat → Option Value) → World → Prop} (h : (execOp A.eval o).run P w = .ok .skip w') (hJ : J (upd f i undef) w') :
    o.wp P A w (fun a' w' => ∃ v, a' = A.put o.dst v ∧ J (upd f i v) w') Q := by
  unfold Oper.wp
  rw [h]
  exact ⟨undef, rfl, hJ⟩

theorem wp_call {o : Oper} {A : Act} {w : World} {f : Nat → Option Value} {i : Nat} {J : (Nat → Option Value) → World → Prop} {g : FuncId} {args : Array Value} {C : Ending → World → Prop}
    (h : (execOp A.eval o).run P w = .ok (.enter g args) w) (hc : Calls P g args w C) (hJ : ∀ e w', C e w' → ∃ v, e = .returned v ∧ J (upd f i v) w') :
    o.wp P A w (fun a' w' => ∃ v, a' = A.put o.dst v ∧ J (upd f i v) w') Q := by
  unfold Oper.wp
  rw [h]
  refine hc.mono fun e w' he => ?_
  obtain ⟨v, rfl, hj⟩ := hJ e w' he
  exact ⟨v, rfl, hj⟩

end Go.Rg
