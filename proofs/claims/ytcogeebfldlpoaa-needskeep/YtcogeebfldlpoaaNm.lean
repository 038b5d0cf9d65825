/-
  Heads in plain lists: the order, one by one, of those that are ready the one with the least name; the order of a closed part is the whole's with the others left out. Nothing of a program.
-/
namespace Go.Proofs.NeedsPlain

abbrev Txt := List UInt8
/-- name, needs -/
abbrev Hd := Txt × List Txt

def isReady (out : List Txt) (h : Hd) : Bool := !decide (h.1 ∈ out) && h.2.all fun n => decide (n ∈ out)

theorem ready_iff {out : List Txt} {h : Hd} : isReady out h = true ↔ h.1 ∉ out ∧ ∀ n ∈ h.2, n ∈ out := by
  unfold isReady
  simp

/-- of those that are ready the least name -/
def best (out : List Txt) : List Hd → Option Txt
  | [] => none
  | h :: r => match best out r with
    | none => if isReady out h then some h.1 else none
    | some b => if isReady out h && decide (h.1 < b) then some h.1 else some b

theorem best_none {out : List Txt} : ∀ {l : List Hd}, best out l = none → ∀ h ∈ l, isReady out h = false
  | [], _, h, hm => by cases hm
  | g :: r, e, h, hm => by
    unfold best at e
    cases hb : best out r with
    | none =>
      rw [hb] at e
      simp only at e
      split at e
      · cases e
      · rename_i hg
        rcases List.mem_cons.1 hm with rfl | hm
        · simpa using hg
        · exact best_none hb h hm
    | some b =>
      rw [hb] at e
      simp only at e
      split at e <;> cases e

theorem best_some {out : List Txt} : ∀ {l : List Hd} {b : Txt}, best out l = some b → (∃ h ∈ l, isReady out h = true ∧ h.1 = b) ∧ ∀ h ∈ l, isReady out h = true → b ≤ h.1
  | [], _, e => by cases e
  | g :: r, b, e => by
    unfold best at e
    cases hb : best out r with
    | none =>
      rw [hb] at e
      simp only at e
      split at e
      · rename_i hg
        cases e
        refine ⟨⟨g, by simp, hg, rfl⟩, fun h hm hr => ?_⟩
        rcases List.mem_cons.1 hm with rfl | hm
        · exact List.le_refl _
        · have := best_none hb h hm
          rw [this] at hr; cases hr
      · cases e
    | some b' =>
      rw [hb] at e
      simp only at e
      obtain ⟨⟨h', hm', hr', he'⟩, hmin⟩ := best_some hb
      split at e
      · rename_i hg
        rw [Bool.and_eq_true, decide_eq_true_eq] at hg
        cases e
        refine ⟨⟨g, by simp, hg.1, rfl⟩, fun h hm hr => ?_⟩
        rcases List.mem_cons.1 hm with rfl | hm
        · exact List.le_refl _
        · exact List.le_trans (List.le_of_lt hg.2) (hmin h hm hr)
      · rename_i hg
        cases e
        refine ⟨⟨h', List.mem_cons_of_mem _ hm', hr', he'⟩, fun h hm hr => ?_⟩
        rcases List.mem_cons.1 hm with rfl | hm
        · rw [hr, Bool.true_and, decide_eq_true_eq] at hg
          exact List.not_lt.1 hg
        · exact hmin h hm hr

theorem best_of {out : List Txt} {l : List Hd} {b : Txt} (h1 : ∃ h ∈ l, isReady out h = true ∧ h.1 = b) (h2 : ∀ h ∈ l, isReady out h = true → b ≤ h.1) : best out l = some b := by
  obtain ⟨h, hm, hr, he⟩ := h1
  cases hb : best out l with
  | none => have := best_none hb h hm; rw [this] at hr; cases hr
  | some b' =>
    obtain ⟨⟨g, gm, gr, ge⟩, gmin⟩ := best_some hb
    have a := gmin h hm hr
    have c := h2 g gm gr
    rw [he] at a
    rw [ge] at c
    rw [List.le_antisymm a c]

def ordGo : Nat → List Hd → List Txt → Option (List Txt)
  | 0, _, out => some out
  | k + 1, l, out => match best out l with
    | none => none
    | some b => ordGo k l (out ++ [b])

/-- from out on to o, one by one -/
def Run (l : List Hd) (out o : List Txt) : Prop := ∃ k, ordGo k l out = some o

theorem Run.stop {l : List Hd} (out : List Txt) : Run l out out := ⟨0, rfl⟩

theorem Run.step {l : List Hd} {out o : List Txt} {b : Txt} (hb : best out l = some b) (h : Run l (out ++ [b]) o) : Run l out o := by
  obtain ⟨k, hk⟩ := h
  refine ⟨k + 1, ?_⟩
  unfold ordGo
  rw [hb]
  exact hk

theorem Run.ind {l : List Hd} {motive : (out o : List Txt) → Run l out o → Prop} (stop : ∀ out : List Txt, motive out out (Run.stop out))
    (step : ∀ {out o : List Txt} {b : Txt} (hb : best out l = some b) (hr : Run l (out ++ [b]) o), motive (out ++ [b]) o hr → motive out o (Run.step hb hr)) {out o : List Txt} (h : Run l out o) : motive out o h := by
  have go : ∀ (k : Nat) (out o : List Txt) (hk : ordGo k l out = some o), motive out o ⟨k, hk⟩ := by
    intro k
    induction k with
    | zero =>
      intro out o hk
      have e : out = o := by simpa [ordGo] using hk
      subst e
      exact stop out
    | succ k ih =>
      intro out o hk
      have hk2 := hk
      unfold ordGo at hk2
      cases hb : best out l with
      | none => rw [hb] at hk2; cases hk2
      | some b =>
        rw [hb] at hk2
        exact step hb ⟨k, hk2⟩ (ih _ _ hk2)
  obtain ⟨k, hk⟩ := h
  exact go k out o hk

def names (l : List Hd) : List Txt := l.map (·.1)
def ordM (l : List Hd) : Option (List Txt) := if (names l).Nodup then ordGo l.length l [] else none

theorem run_of_go {l : List Hd} : ∀ {k : Nat} {out o : List Txt}, ordGo k l out = some o → Run l out o ∧ o.length = out.length + k
  | 0, out, o, h => by cases h; exact ⟨.stop _, rfl⟩
  | k + 1, out, o, h => by
    unfold ordGo at h
    cases hb : best out l with
    | none => rw [hb] at h; cases h
    | some b =>
      rw [hb] at h
      obtain ⟨h1, h2⟩ := run_of_go h
      exact ⟨.step hb h1, by rw [h2]; simp; omega⟩

theorem run_len {l : List Hd} {out o : List Txt} (h : Run l out o) : out.length ≤ o.length := by
  induction h using Run.ind with
  | stop => exact Nat.le_refl _
  | step _ _ ih => simp at ih; omega

theorem go_of_run {l : List Hd} {out o : List Txt} (h : Run l out o) : ∀ k, o.length = out.length + k → ordGo k l out = some o := by
  induction h using Run.ind with
  | stop out =>
    intro k hk
    obtain rfl : k = 0 := by omega
    rfl
  | step hb hr ih =>
    intro k hk
    have := run_len hr
    cases k with
    | zero => simp at this; omega
    | succ k =>
      unfold ordGo
      rw [hb]
      exact ih k (by simp; omega)

theorem run_good {l : List Hd} {out o : List Txt} (h : Run l out o) (hd : out.Nodup) (hs : ∀ x ∈ out, x ∈ names l) : o.Nodup ∧ ∀ x ∈ o, x ∈ names l := by
  induction h using Run.ind with
  | stop => exact ⟨hd, hs⟩
  | step hb _ ih =>
    obtain ⟨⟨g, gm, gr, rfl⟩, _⟩ := best_some hb
    have hg := (ready_iff.1 gr).1
    refine ih ?_ fun x hx => ?_
    · rw [List.nodup_append]
      exact ⟨hd, by simp, fun a ha b hb' => by simp at hb'; subst hb'; exact fun e => hg (e ▸ ha)⟩
    · rcases List.mem_append.1 hx with hx | hx
      · exact hs x hx
      · simp at hx; subst hx; exact List.mem_map_of_mem gm

/-- what a head needs stands ahead of it -/
theorem run_needs {l : List Hd} (hu : ∀ g ∈ l, ∀ h ∈ l, g.1 = h.1 → g = h) {out o : List Txt} (h : Run l out o) :
    ∃ t, o = out ++ t ∧ ∀ i, i < t.length → ∀ g ∈ l, g.1 = t.getD i [] → ∀ n ∈ g.2, n ∈ out ++ t.take i := by
  induction h using Run.ind with
  | stop => exact ⟨[], by simp, fun i hi => by simp at hi⟩
  | step hb _ ih =>
    rename_i out o b
    obtain ⟨⟨g, gm, gr, rfl⟩, _⟩ := best_some hb
    obtain ⟨t, rfl, ht⟩ := ih
    refine ⟨g.1 :: t, by simp, fun i hi g' gm' ge n hn => ?_⟩
    cases i with
    | zero =>
      simp at ge
      have := hu g' gm' g gm ge
      subst this
      simpa using (ready_iff.1 gr).2 n hn
    | succ i =>
      have := ht i (by simp at hi; omega) g' gm' (by simpa using ge) n hn
      simpa using this

/-- P9.2: a closed part's order is the whole's with the others left out -/
theorem run_part {l S : List Hd} (hu : ∀ g ∈ l, ∀ h ∈ l, g.1 = h.1 → g = h) (hsub : ∀ h ∈ S, h ∈ l) (hcl : ∀ h ∈ S, ∀ n ∈ h.2, n ∈ names S) {out o : List Txt} (h : Run l out o) :
    Run S (out.filter fun x => decide (x ∈ names S)) (o.filter fun x => decide (x ∈ names S)) := by
  induction h using Run.ind with
  | stop => exact .stop _
  | @step out o b hb _ ih =>
    obtain ⟨⟨g, gm, gr, rfl⟩, gmin⟩ := best_some hb
    by_cases hS : g.1 ∈ names S
    · have e : (out ++ [g.1]).filter (fun x => decide (x ∈ names S)) = out.filter (fun x => decide (x ∈ names S)) ++ [g.1] := by
        rw [List.filter_append]; simp [hS]
      rw [e] at ih
      refine .step (best_of ?_ ?_) ih
      · obtain ⟨s, sm, se⟩ := List.mem_map.1 hS
        have := hu s (hsub s sm) g gm se
        subst this
        refine ⟨s, sm, ready_iff.2 ⟨fun hx => (ready_iff.1 gr).1 (List.mem_filter.1 hx).1, fun n hn => ?_⟩, rfl⟩
        exact List.mem_filter.2 ⟨(ready_iff.1 gr).2 n hn, by simpa using hcl s sm n hn⟩
      · intro s sm sr
        refine gmin s (hsub s sm) (ready_iff.2 ⟨fun hx => (ready_iff.1 sr).1 (List.mem_filter.2 ⟨hx, by rw [decide_eq_true_eq]; exact List.mem_map_of_mem sm⟩), fun n hn => ?_⟩)
        exact (List.mem_filter.1 ((ready_iff.1 sr).2 n hn)).1
    · have e : (out ++ [g.1]).filter (fun x => decide (x ∈ names S)) = out.filter (fun x => decide (x ∈ names S)) := by
        rw [List.filter_append]; simp [hS]
      rw [e] at ih
      exact ih

theorem uniq_of {l : List Hd} (h : (names l).Nodup) : ∀ g ∈ l, ∀ k ∈ l, g.1 = k.1 → g = k := by
  induction l with
  | nil => intro g hg; cases hg
  | cons a l ih =>
    unfold names at h
    rw [List.map_cons, List.nodup_cons] at h
    intro g hg k hk e
    rcases List.mem_cons.1 hg with e1 | hg1 <;> rcases List.mem_cons.1 hk with e2 | hk1
    · rw [e1, e2]
    · exfalso
      apply h.1
      rw [← e1, e]
      exact List.mem_map_of_mem hk1
    · exfalso
      apply h.1
      rw [← e2, ← e]
      exact List.mem_map_of_mem hg1
    · exact ih h.2 g hg1 k hk1 e

theorem sub_len : ∀ {a b : List Txt}, a.Nodup → (∀ x ∈ a, x ∈ b) → a.length ≤ b.length
  | [], _, _, _ => Nat.zero_le _
  | x :: a, b, hd, hs => by
    rw [List.nodup_cons] at hd
    have hx : x ∈ b := hs x (by simp)
    have := sub_len (b := b.erase x) hd.2 (fun y hy => (List.mem_erase_of_ne (show y ≠ x from fun e => hd.1 (e ▸ hy))).2 (hs y (List.mem_cons_of_mem _ hy)))
    rw [List.length_erase_of_mem hx] at this
    have hp := List.length_pos_of_mem hx
    simp
    omega

theorem sub_all {a b : List Txt} (ha : a.Nodup) (hs : ∀ x ∈ a, x ∈ b) (hl : b.length ≤ a.length) : ∀ x ∈ b, x ∈ a := by
  intro x hx
  refine Classical.byContradiction fun hno => ?_
  have := sub_len (a := x :: a) (b := b) (List.nodup_cons.2 ⟨hno, ha⟩) (fun y hy => by
    rcases List.mem_cons.1 hy with rfl | hy
    · exact hx
    · exact hs y hy)
  simp at this
  omega

theorem ord_spec {l : List Hd} {o : List Txt} (h : ordM l = some o) : (names l).Nodup ∧ Run l [] o ∧ o.length = l.length := by
  unfold ordM at h
  split at h
  · rename_i hn
    obtain ⟨h1, h2⟩ := run_of_go h
    exact ⟨hn, h1, by simpa using h2⟩
  · cases h

/-- the order holds each name once -/
theorem ord_perm {l : List Hd} {o : List Txt} (h : ordM l = some o) : o.Perm (names l) := by
  obtain ⟨hn, hr, hl⟩ := ord_spec h
  obtain ⟨h1, h2⟩ := run_good hr (by simp) (by simp)
  exact (List.perm_ext_iff_of_nodup h1 hn).2 fun x => ⟨h2 x, sub_all h1 h2 (by simp [names, hl]) x⟩

theorem ord_part {l S : List Hd} {o : List Txt} (h : ordM l = some o) (hS : (names S).Nodup) (hsub : ∀ h ∈ S, h ∈ l) (hcl : ∀ h ∈ S, ∀ n ∈ h.2, n ∈ names S) : ordM S = some (o.filter fun x => decide (x ∈ names S)) := by
  obtain ⟨hn, hr, hl⟩ := ord_spec h
  have hp := run_part (uniq_of hn) hsub hcl hr
  unfold ordM
  rw [if_pos hS]
  refine go_of_run hp _ ?_
  have hq : (o.filter fun x => decide (x ∈ names S)).Perm (names S) := by
    refine (List.perm_ext_iff_of_nodup ((run_good hr (by simp) (by simp)).1.filter _) hS).2 fun x => ?_
    rw [List.mem_filter, decide_eq_true_eq]
    refine ⟨fun k => k.2, fun k => ⟨?_, k⟩⟩
    obtain ⟨s, sm, rfl⟩ := List.mem_map.1 k
    exact (ord_perm h).mem_iff.2 (List.mem_map_of_mem (hsub s sm))
  have := hq.length_eq
  rw [this]
  simp [names]

/-- heads of which each needs only some of those ahead of it have an order -/
theorem ord_some {l : List Hd} (hn : (names l).Nodup) (hc : ∀ i (hi : i < l.length), ∀ n ∈ l[i].2, ∃ j, ∃ hj : j < i, n = (l[j]'(by omega)).1) : ∃ o, ordM l = some o := by
  have go : ∀ k (out : List Txt), out.Nodup → (∀ x ∈ out, x ∈ names l) → out.length + k = l.length → ∃ o, ordGo k l out = some o := by
    intro k
    induction k with
    | zero => intro out _ _ _; exact ⟨out, rfl⟩
    | succ k ih =>
      intro out hd hs hlen
      unfold ordGo
      cases hb : best out l with
      | some b =>
        obtain ⟨⟨g, gm, gr, rfl⟩, _⟩ := best_some hb
        refine ih _ ?_ (fun x hx => ?_) (by simp; omega)
        · rw [List.nodup_append]
          exact ⟨hd, by simp, fun a ha b hb' => by simp at hb'; subst hb'; exact fun e => (ready_iff.1 gr).1 (e ▸ ha)⟩
        · rcases List.mem_append.1 hx with hx | hx
          · exact hs x hx
          · simp at hx; subst hx; exact List.mem_map_of_mem gm
      | none =>
        exfalso
        have hall : ∀ i (hi : i < l.length), l[i].1 ∈ out := by
          intro i
          induction i using Nat.strongRecOn with
          | ind i ihh =>
            intro hi
            refine Classical.byContradiction fun hno => ?_
            have := best_none hb l[i] (List.getElem_mem hi)
            rw [ready_iff.2 ⟨hno, fun n hn' => by
              obtain ⟨j, hj, rfl⟩ := hc i hi n hn'
              exact ihh j hj (by omega)⟩] at this
            cases this
        have := sub_len hn (b := out) fun x hx => by
          obtain ⟨g, gm, rfl⟩ := List.mem_map.1 hx
          obtain ⟨i, hi, rfl⟩ := List.getElem_of_mem gm
          exact hall i hi
        simp [names] at this
        omega
  obtain ⟨o, ho⟩ := go l.length [] (by simp) (by simp) (by simp)
  exact ⟨o, by unfold ordM; rw [if_pos hn]; exact ho⟩

/-! who needs whom -/
def reachN (l : List Hd) (a : Txt) : Nat → Txt → Prop
  | 0, _ => False
  | k + 1, x => ∃ h, h ∈ l ∧ (h.1 = a ∨ reachN l a k h.1) ∧ x ∈ h.2 ∧ x ∈ names l

/-- x is a name of l that name needs, itself or through others -/
def Reach (l : List Hd) (name : Txt) (x : Txt) : Prop := ∃ k, reachN l name k x

theorem Reach.one {l : List Hd} {name : Txt} {h : Hd} {x : Txt} (hm : h ∈ l) (he : h.1 = name) (hx : x ∈ h.2) (hn : x ∈ names l) : Reach l name x := ⟨1, h, hm, .inl he, hx, hn⟩

theorem Reach.more {l : List Hd} {name : Txt} {h : Hd} {x : Txt} (hr : Reach l name h.1) (hm : h ∈ l) (hx : x ∈ h.2) (hn : x ∈ names l) : Reach l name x := by
  obtain ⟨k, hk⟩ := hr
  exact ⟨k + 1, h, hm, .inr hk, hx, hn⟩

theorem Reach.ind {l : List Hd} {name : Txt} {motive : (x : Txt) → Reach l name x → Prop} (one : ∀ {h : Hd} {x : Txt} (hm : h ∈ l) (he : h.1 = name) (hx : x ∈ h.2) (hn : x ∈ names l), motive x (Reach.one hm he hx hn))
    (more : ∀ {h : Hd} {x : Txt} (hr : Reach l name h.1) (hm : h ∈ l) (hx : x ∈ h.2) (hn : x ∈ names l), motive h.1 hr → motive x (Reach.more hr hm hx hn)) {x : Txt} (h : Reach l name x) : motive x h := by
  have go : ∀ (k : Nat) (x : Txt) (hk : reachN l name k x), motive x ⟨k, hk⟩ := by
    intro k
    induction k with
    | zero => intro x hk; exact hk.elim
    | succ k ih =>
      intro x hk
      obtain ⟨g, hm, he | hr, hx, hn⟩ := hk
      · exact one hm he hx hn
      · exact more ⟨k, hr⟩ hm hx hn (ih _ hr)
  obtain ⟨k, hk⟩ := h
  exact go k x hk

theorem Reach.name {l : List Hd} {a x : Txt} (h : Reach l a x) : x ∈ names l := by
  induction h using Reach.ind with
  | one _ _ _ hn => exact hn
  | more _ _ _ hn _ => exact hn

theorem Reach.trans {l : List Hd} {a b x : Txt} (h : Reach l a b) (k : Reach l b x) : Reach l a x := by
  induction k using Reach.ind with
  | one hm he hx hn => exact .more (he ▸ h) hm hx hn
  | more _ hm hx hn ih => exact .more ih hm hx hn

/-- the place of a name -/
def at' (o : List Txt) (x : Txt) : Nat := o.idxOf x

theorem need_before {l : List Hd} {o : List Txt} (h : ordM l = some o) {g : Hd} (gm : g ∈ l) {n : Txt} (hn : n ∈ g.2) : n ∈ o ∧ at' o n < at' o g.1 := by
  obtain ⟨hu, hr, hl⟩ := ord_spec h
  obtain ⟨t, e0, ht⟩ := run_needs (uniq_of hu) hr
  rw [List.nil_append] at e0
  obtain rfl : t = o := e0.symm
  have hg : g.1 ∈ t := (ord_perm h).mem_iff.2 (List.mem_map_of_mem gm)
  have hi := List.idxOf_lt_length_of_mem hg
  have e : t.getD (t.idxOf g.1) [] = g.1 := by
    rw [List.getD_eq_getElem?_getD, List.getElem?_eq_getElem hi]
    simp
  have hb := ht _ hi g gm e.symm n hn
  rw [List.nil_append] at hb
  refine ⟨List.mem_of_mem_take hb, ?_⟩
  unfold at'
  obtain ⟨j, hj, e2⟩ := List.getElem_of_mem hb
  rw [List.getElem_take] at e2
  have hj1 : j < t.idxOf g.1 := by simp at hj; omega
  have hd : t.Nodup := (run_good hr (by simp) (by simp)).1
  rw [← e2, hd.idxOf_getElem]
  exact hj1

theorem reach_before {l : List Hd} {o : List Txt} (h : ordM l = some o) {a x : Txt} (hr : Reach l a x) : at' o x < at' o a := by
  induction hr using Reach.ind with
  | one hm he hx _ => rw [← he]; exact (need_before h hm hx).2
  | more _ hm hx _ ih => exact Nat.lt_trans (need_before h hm hx).2 ih

theorem reach_self {l : List Hd} {o : List Txt} (h : ordM l = some o) {a : Txt} : ¬ Reach l a a := fun k => Nat.lt_irrefl _ (reach_before h k)
theorem reach_anti {l : List Hd} {o : List Txt} (h : ordM l = some o) {a b : Txt} (h1 : Reach l a b) : ¬ Reach l b a := fun k => reach_self h (h1.trans k)

/-- none of l needs it -/
def isTop (l : List Hd) (x : Txt) : Prop := x ∈ names l ∧ ∀ g ∈ l, x ∉ g.2

/-- each is a top, or a top needs it -/
theorem top_all {l : List Hd} {o : List Txt} (h : ordM l = some o) {x : Txt} (hx : x ∈ names l) : ∃ t, isTop l t ∧ (t = x ∨ Reach l t x) := by
  have hp := ord_perm h
  have go : ∀ k (x : Txt), x ∈ names l → o.length - at' o x ≤ k → ∃ t, isTop l t ∧ (t = x ∨ Reach l t x) := by
    intro k
    induction k with
    | zero =>
      intro x hx hk
      have := List.idxOf_lt_length_of_mem (hp.mem_iff.2 hx)
      unfold at' at hk
      omega
    | succ k ih =>
      intro x hx hk
      by_cases ht : isTop l x
      · exact ⟨x, ht, .inl rfl⟩
      · obtain ⟨g, gm, hg⟩ : ∃ g ∈ l, x ∈ g.2 := by
          refine Classical.byContradiction fun hno => ht ⟨hx, fun g gm hg => hno ⟨g, gm, hg⟩⟩
        have hb := (need_before h gm hg).2
        have hgn : g.1 ∈ names l := List.mem_map_of_mem gm
        have hlt := List.idxOf_lt_length_of_mem (hp.mem_iff.2 hgn)
        obtain ⟨t, t1, t2⟩ := ih g.1 hgn (by unfold at' at hb hk ⊢; omega)
        refine ⟨t, t1, .inr ?_⟩
        rcases t2 with rfl | t2
        · exact .one gm rfl hg hx
        · exact .more t2 gm hg hx
  exact go _ x hx (Nat.le_refl _)

/-- two tops are apart -/
theorem top_apart {l : List Hd} {a b : Txt} (hb : isTop l b) : ¬ Reach l a b := by
  intro h
  induction h using Reach.ind with
  | one hm _ hx _ => exact hb.2 _ hm hx
  | more _ hm hx _ => exact hb.2 _ hm hx

/-- what is closed under needs holds all that is needed -/
theorem reach_in {l : List Hd} {a : Txt} {S : Txt → Prop} (h : ∀ g ∈ l, (g.1 = a ∨ S g.1) → ∀ x ∈ g.2, x ∈ names l → x = a ∨ S x) {x : Txt} (hr : Reach l a x) : x = a ∨ S x := by
  induction hr using Reach.ind with
  | one hm he hx hn => exact h _ hm (.inl he) _ hx hn
  | more _ hm hx hn ih => exact h _ hm ih _ hx hn

/-- the names that a needs, rising -/
def IsAll (l : List Hd) (a : Txt) (out : List Txt) : Prop := out.Pairwise (· < ·) ∧ ∀ x, x ∈ out ↔ Reach l a x ∧ x ≠ a

/-- the state of a search: what is out is needed; of what is done the needs are out -/
def Search (l : List Hd) (a : Txt) (out todo : List Txt) : Prop :=
  (∀ x ∈ out, Reach l a x ∧ x ≠ a) ∧ (∀ x ∈ todo, x = a ∨ x ∈ out) ∧ ∀ g ∈ l, (g.1 = a ∨ g.1 ∈ out) → g.1 ∉ todo → ∀ x ∈ g.2, x ∈ names l → x = a ∨ x ∈ out

theorem search_start (l : List Hd) (a : Txt) : Search l a [] [a] :=
  ⟨(fun x h => by cases h), fun x h => .inl (by simpa using h), fun g _ h1 h2 => by
    rcases h1 with h1 | h1
    · exact absurd (by simp [h1]) h2
    · cases h1⟩

theorem search_done {l : List Hd} {a : Txt} {out : List Txt} (h : Search l a out []) (x : Txt) : x ∈ out ↔ Reach l a x ∧ x ≠ a := by
  refine ⟨h.1 x, fun ⟨hr, hne⟩ => ?_⟩
  rcases reach_in (S := fun y => y ∈ out) (fun g hg hp y hy hn => h.2.2 g hg hp (by simp) y hy hn) hr with e | e
  · exact absurd e hne
  · exact e

/-- All's of a part of the names: those of l that are needed stand ahead -/
theorem all_before {l : List Hd} {o : List Txt} (h : ordM l = some o) {a : Txt} {out : List Txt} (ha : IsAll l a out) : a ∉ out ∧ ∀ x ∈ out, at' o x < at' o a :=
  ⟨fun k => ((ha.2 a).1 k).2 rfl, fun x hx => reach_before h ((ha.2 x).1 hx).1⟩

/-- what is needed needs only what is needed -/
theorem all_closed {l : List Hd} {o : List Txt} (h : ordM l = some o) {a : Txt} {out : List Txt} (ha : IsAll l a out) {g : Hd} (hg : g ∈ l) (hp : g.1 = a ∨ g.1 ∈ out) {x : Txt} (hx : x ∈ g.2) (hn : x ∈ names l) : x ∈ out := by
  have hr : Reach l a x := by
    rcases hp with hp | hp
    · exact .one hg hp hx hn
    · exact .more ((ha.2 _).1 hp).1 hg hx hn
  exact (ha.2 x).2 ⟨hr, fun e => reach_self h (e ▸ hr)⟩
end Go.Proofs.NeedsPlain
