/-
  Order in plain lists: how many needs a head waits for, who is needed by whom, who is ready; nothing of a program.
-/
import Derived.Test.YtcogeebfldlpoaaNm
set_option linter.unusedSimpArgs false
set_option linter.unusedVariables false
namespace Go.Proofs.NeedsPlain

abbrev hdZ : Hd := ([], [])
def nmAt (hs : List Hd) (i : Nat) : Txt := (hs.getD i hdZ).1
def ndAt (hs : List Hd) (i : Nat) : List Txt := (hs.getD i hdZ).2

theorem nm_mem {hs : List Hd} {i : Nat} (h : i < hs.length) : hs.getD i hdZ ∈ hs := by
  rw [List.getD_eq_getElem?_getD, List.getElem?_eq_getElem h]; exact List.getElem_mem h

theorem nm_names {hs : List Hd} {i : Nat} (h : i < hs.length) : nmAt hs i ∈ names hs := List.mem_map_of_mem (nm_mem h)

theorem nm_get {hs : List Hd} {i : Nat} (h : i < hs.length) : nmAt hs i = (names hs)[i]'(by simpa [names] using h) := by
  simp [nmAt, names, h]

theorem nm_inj {hs : List Hd} (hn : (names hs).Nodup) {i j : Nat} (hi : i < hs.length) (hj : j < hs.length) (h : nmAt hs i = nmAt hs j) : i = j := by
  rw [nm_get hi, nm_get hj] at h
  have a := hn.idxOf_getElem i (by simpa [names] using hi)
  have b := hn.idxOf_getElem j (by simpa [names] using hj)
  rw [← a, ← b, h]

theorem nm_idx {hs : List Hd} {x : Txt} (h : x ∈ names hs) : (names hs).idxOf x < hs.length ∧ nmAt hs ((names hs).idxOf x) = x := by
  have hi := List.idxOf_lt_length_of_mem h
  have hl : (names hs).length = hs.length := by simp [names]
  refine ⟨by omega, ?_⟩
  rw [nm_get (by omega)]
  simp

theorem mem_at {hs : List Hd} {h : Hd} (hm : h ∈ hs) : ∃ i, i < hs.length ∧ hs.getD i hdZ = h := by
  obtain ⟨i, hi, rfl⟩ := List.getElem_of_mem hm
  exact ⟨i, hi, by simp [hi]⟩

/-- how many of i's needs are not out -/
def cnt (hs : List Hd) (out : List Txt) (i : Nat) : Nat := (ndAt hs i).countP fun x => !decide (x ∈ out)

theorem cnt_nil (hs : List Hd) (i : Nat) : cnt hs [] i = (ndAt hs i).length := by simp [cnt]

theorem cnt_zero {hs : List Hd} {out : List Txt} {i : Nat} : cnt hs out i = 0 ↔ ∀ x ∈ ndAt hs i, x ∈ out := by
  simp [cnt, List.countP_eq_zero]

theorem cnt_snoc {hs : List Hd} {out : List Txt} {x : Txt} (hx : x ∉ out) (i : Nat) : cnt hs (out ++ [x]) i + (ndAt hs i).count x = cnt hs out i := by
  unfold cnt
  induction ndAt hs i with
  | nil => rfl
  | cons a l ih =>
    simp only [List.countP_cons, List.count_cons]
    by_cases e : a = x
    · subst e
      simp [hx] at ih ⊢
      omega
    · by_cases h : a ∈ out
      · simp [h, e] at ih ⊢; omega
      · simp [h, e] at ih ⊢; omega

theorem ready_cnt {hs : List Hd} {out : List Txt} {i : Nat} : isReady out (hs.getD i hdZ) = true ↔ nmAt hs i ∉ out ∧ cnt hs out i = 0 := by
  rw [ready_iff, cnt_zero]; rfl

/-- Who is needed by whom, so far: of heads below k all, of k the first m needs. -/
structure NbOK (hs : List Hd) (k m : Nat) (nb : List (List Nat)) : Prop where
  len : nb.length = hs.length
  cn : ∀ j i, j < hs.length → (nb.getD j []).count i = if i < k then (ndAt hs i).count (nmAt hs j) else if i = k then ((ndAt hs k).take m).count (nmAt hs j) else 0
  lt : ∀ j i, i ∈ nb.getD j [] → i < hs.length
  sz : ∀ j, (nb.getD j []).length ≤ 1000 * k + m

theorem NbOK.start (hs : List Hd) : NbOK hs 0 0 (List.replicate hs.length []) := by
  refine ⟨by simp, fun j i hj => ?_, fun j i hi => ?_, fun j => ?_⟩
  · simp [List.getD_eq_getElem?_getD, List.getElem?_replicate, hj]
  · simp [List.getD_eq_getElem?_getD, List.getElem?_replicate] at hi
    split at hi <;> simp at hi
  · simp [List.getD_eq_getElem?_getD, List.getElem?_replicate]
    split <;> simp

theorem NbOK.next {hs : List Hd} {k : Nat} {nb : List (List Nat)} (h : NbOK hs k (ndAt hs k).length nb) (hl : (ndAt hs k).length ≤ 1000) : NbOK hs (k + 1) 0 nb := by
  refine ⟨h.len, fun j i hj => ?_, h.lt, fun j => by have := h.sz j; omega⟩
  rw [h.cn j i hj]
  by_cases h1 : i < k
  · rw [if_pos h1, if_pos (by omega)]
  · rw [if_neg h1]
    by_cases h2 : i = k
    · subst h2
      rw [if_pos rfl, if_pos (by omega), List.take_length]
    · rw [if_neg h2, if_neg (by omega)]
      split <;> simp

theorem getD_set {α : Type} {l : List α} {i j : Nat} {d x : α} (h : i < l.length) : (l.set i x).getD j d = if j = i then x else l.getD j d := by
  simp only [List.getD_eq_getElem?_getD, List.getElem?_set]
  by_cases e : i = j
  · subst e; simp [h]
  · simp [e, Ne.symm e]

theorem take_snoc' {l : List Txt} {m : Nat} (h : m < l.length) : l.take (m + 1) = l.take m ++ [l.getD m []] := by
  rw [List.take_succ_eq_append_getElem h, List.getD_eq_getElem?_getD, List.getElem?_eq_getElem h]; rfl

/-- a need that is no name -/
theorem NbOK.skip {hs : List Hd} {k m : Nat} {nb : List (List Nat)} (h : NbOK hs k m nb) (hm : m < (ndAt hs k).length) (hx : (ndAt hs k).getD m [] ∉ names hs) : NbOK hs k (m + 1) nb := by
  refine ⟨h.len, fun j i hj => ?_, h.lt, fun j => by have := h.sz j; omega⟩
  rw [h.cn j i hj]
  split
  · rfl
  · split
    · rw [take_snoc' hm, List.count_append]
      have : nmAt hs j ≠ (ndAt hs k).getD m [] := fun e => hx (e ▸ nm_names hj)
      rw [List.count_singleton, if_neg (by simpa using fun e => this e.symm)]; rfl
    · rfl

/-- a need that is one -/
theorem NbOK.put {hs : List Hd} (hn : (names hs).Nodup) {k m : Nat} {nb : List (List Nat)} (h : NbOK hs k m nb) (hk : k < hs.length) (hm : m < (ndAt hs k).length) (hx : (ndAt hs k).getD m [] ∈ names hs) {o : Nat} (ho : o = (names hs).idxOf ((ndAt hs k).getD m [])) :
    NbOK hs k (m + 1) (nb.set o (nb.getD o [] ++ [k])) := by
  obtain ⟨o1, o2⟩ := nm_idx hx
  rw [← ho] at o1 o2
  have hol : o < nb.length := by rw [h.len]; exact o1
  refine ⟨by simp [h.len], fun j i hj => ?_, fun j i hi => ?_, fun j => ?_⟩
  · rw [getD_set hol, take_snoc' hm, List.count_append]
    by_cases e : j = o
    · subst e
      rw [if_pos rfl, List.count_append, h.cn j i hj, ← o2]
      by_cases h1 : i < k
      · rw [if_pos h1, if_pos h1, List.count_singleton, if_neg (by simp; omega)]; omega
      · rw [if_neg h1, if_neg h1]
        by_cases h2 : i = k
        · subst h2; simp
        · rw [if_neg h2, if_neg h2, List.count_singleton, if_neg (by simp; omega)]
    · rw [if_neg e, h.cn j i hj]
      split
      · rfl
      · split
        · have : nmAt hs j ≠ (ndAt hs k).getD m [] := fun e2 => e (nm_inj hn hj o1 (e2.trans o2.symm))
          rw [List.count_singleton, if_neg (by simpa using fun e => this e.symm)]; rfl
        · rfl
  · rw [getD_set hol] at hi
    by_cases e : j = o
    · rw [if_pos e] at hi
      rcases List.mem_append.1 hi with hi | hi
      · exact h.lt o i hi
      · simp at hi; omega
    · rw [if_neg e] at hi; exact h.lt j i hi
  · rw [getD_set hol]
    split
    · have := h.sz o; rw [List.length_append, List.length_singleton]; omega
    · have := h.sz j; omega

/-- What the heads wait for, and which are ready, while the first k are looked at. -/
structure W1 (hs : List Hd) (k : Nat) (W : List Nat) : Prop where
  len : W.length = hs.length
  at' : ∀ i, i < hs.length → W.getD i 0 = if i < k then (ndAt hs i).length else 0
structure Q1 (hs : List Hd) (k : Nat) (qs : List Txt) : Prop where
  nd : qs.Nodup
  mem : ∀ y, y ∈ qs ↔ ∃ i, i < k ∧ nmAt hs i = y ∧ ndAt hs i = []

theorem W1.start (hs : List Hd) : W1 hs 0 (List.replicate hs.length 0) := ⟨by simp, fun i hi => by simp [List.getD_eq_getElem?_getD, List.getElem?_replicate, hi]⟩
theorem Q1.start (hs : List Hd) : Q1 hs 0 [] := ⟨by simp, fun y => by simp⟩

theorem W1.step {hs : List Hd} {k : Nat} {W : List Nat} (h : W1 hs k W) (hk : k < hs.length) : W1 hs (k + 1) (W.set k (ndAt hs k).length) := by
  refine ⟨by simp [h.len], fun i hi => ?_⟩
  rw [getD_set (by rw [h.len]; exact hk)]
  by_cases e : i = k
  · subst e; rw [if_pos rfl, if_pos (by omega)]
  · rw [if_neg e, h.at' i hi]
    by_cases h1 : i < k
    · rw [if_pos h1, if_pos (by omega)]
    · rw [if_neg h1, if_neg (by omega)]

theorem Q1.skip {hs : List Hd} {k : Nat} {qs : List Txt} (h : Q1 hs k qs) (hx : ndAt hs k ≠ []) : Q1 hs (k + 1) qs := by
  refine ⟨h.nd, fun y => ?_⟩
  rw [h.mem]
  constructor
  · rintro ⟨i, h1, h2⟩; exact ⟨i, by omega, h2⟩
  · rintro ⟨i, h1, h2, h3⟩
    refine ⟨i, ?_, h2, h3⟩
    rcases (show i < k ∨ i = k by omega) with h4 | rfl
    · exact h4
    · exact absurd h3 hx

theorem Q1.put {hs : List Hd} (hn : (names hs).Nodup) {k : Nat} {qs ys : List Txt} (h : Q1 hs k qs) (hk : k < hs.length) (hx : ndAt hs k = []) (hp : ys.Perm (nmAt hs k :: qs)) : Q1 hs (k + 1) ys := by
  have hno : nmAt hs k ∉ qs := fun hm => by
    obtain ⟨i, h1, h2, _⟩ := (h.mem _).1 hm
    have := nm_inj hn (by omega) hk h2
    omega
  refine ⟨hp.nodup_iff.2 (List.nodup_cons.2 ⟨hno, h.nd⟩), fun y => ?_⟩
  rw [hp.mem_iff, List.mem_cons, h.mem]
  constructor
  · rintro (rfl | ⟨i, h1, h2⟩)
    · exact ⟨k, by omega, rfl, hx⟩
    · exact ⟨i, by omega, h2⟩
  · rintro ⟨i, h1, h2, h3⟩
    rcases (show i < k ∨ i = k by omega) with h4 | rfl
    · exact .inr ⟨i, h4, h2, h3⟩
    · exact .inl h2.symm

/-- The state between two rounds of the second loop. -/
structure St (hs : List Hd) (out : List Txt) (W : List Nat) (qs : List Txt) : Prop where
  run : Run hs [] out
  wl : W.length = hs.length
  w : ∀ i, i < hs.length → W.getD i 0 = cnt hs out i
  nd : qs.Nodup
  mem : ∀ y, y ∈ qs ↔ ∃ i, i < hs.length ∧ nmAt hs i = y ∧ y ∉ out ∧ cnt hs out i = 0

theorem St.start {hs : List Hd} {W : List Nat} {qs : List Txt} (hw : W1 hs hs.length W) (hq : Q1 hs hs.length qs) : St hs [] W qs := by
  refine ⟨.stop _, hw.len, fun i hi => ?_, hq.nd, fun y => ?_⟩
  · rw [hw.at' i hi, if_pos hi, cnt_nil]
  · rw [hq.mem]
    constructor
    · rintro ⟨i, h1, h2, h3⟩; exact ⟨i, h1, h2, by simp, by rw [cnt_nil, h3]; rfl⟩
    · rintro ⟨i, h1, h2, _, h3⟩; exact ⟨i, h1, h2, by rw [cnt_nil] at h3; exact List.length_eq_zero_iff.1 h3⟩

/-- a name that is out waits for nothing -/
theorem out_cnt {hs : List Hd} (hn : (names hs).Nodup) {out : List Txt} (h : Run hs [] out) {i : Nat} (hi : i < hs.length) (ho : nmAt hs i ∈ out) : cnt hs out i = 0 := by
  rw [cnt_zero]
  obtain ⟨t, e, ht⟩ := run_needs (uniq_of hn) h
  rw [List.nil_append] at e
  subst e
  obtain ⟨p, hp, e2⟩ := List.getElem_of_mem ho
  intro x hx
  have := ht p hp (hs.getD i hdZ) (nm_mem hi) (by simp only [List.getD_eq_getElem?_getD, List.getElem?_eq_getElem hp]; exact e2.symm) x hx
  simp at this
  exact List.mem_of_mem_take this

/-- The state within a round: x is out, of those that need it the first t are told. -/
structure In (hs : List Hd) (out : List Txt) (x : Txt) (l : List Nat) (t : Nat) (W : List Nat) (qs : List Txt) : Prop where
  wl : W.length = hs.length
  w : ∀ i, i < hs.length → W.getD i 0 = cnt hs out i - (l.take t).count i
  nd : qs.Nodup
  mem : ∀ y, y ∈ qs ↔ ∃ i, i < hs.length ∧ nmAt hs i = y ∧ y ∉ out ++ [x] ∧ cnt hs out i = (l.take t).count i

theorem St.isBest {hs : List Hd} {out : List Txt} {W : List Nat} {qs : List Txt} (h : St hs out W qs) {x : Txt} (hx : x ∈ qs) (hmin : ∀ y ∈ qs, x ≤ y) : best out hs = some x := by
  obtain ⟨i, h1, h2, h3, h4⟩ := (h.mem x).1 hx
  refine best_of ⟨hs.getD i hdZ, nm_mem h1, ready_cnt.2 ⟨by rw [h2]; exact h3, h4⟩, h2⟩ fun g gm gr => ?_
  obtain ⟨j, hj, rfl⟩ := mem_at gm
  obtain ⟨r1, r2⟩ := ready_cnt.1 gr
  exact hmin _ ((h.mem _).2 ⟨j, hj, rfl, r1, r2⟩)

theorem St.pop {hs : List Hd} {out : List Txt} {W : List Nat} {qs ys : List Txt} (h : St hs out W qs) {x : Txt} (hp : (x :: ys).Perm qs) (l : List Nat) : In hs out x l 0 W ys ∧ x ∉ out ∧ x ∈ names hs := by
  have hnd := hp.nodup_iff.2 h.nd
  rw [List.nodup_cons] at hnd
  obtain ⟨i, h1, h2, h3, h4⟩ := (h.mem x).1 (hp.mem_iff.1 (by simp))
  refine ⟨⟨h.wl, fun i hi => by rw [h.w i hi]; simp, hnd.2, fun y => ?_⟩, h3, h2 ▸ nm_names h1⟩
  constructor
  · intro hy
    obtain ⟨j, j1, j2, j3, j4⟩ := (h.mem y).1 (hp.mem_iff.1 (List.mem_cons_of_mem _ hy))
    refine ⟨j, j1, j2, ?_, by rw [j4]; simp⟩
    rw [List.mem_append, List.mem_singleton]
    exact fun e => e.elim j3 (fun e => hnd.1 (e ▸ hy))
  · rintro ⟨j, j1, j2, j3, j4⟩
    rw [List.mem_append, List.mem_singleton] at j3
    have : y ∈ x :: ys := hp.mem_iff.2 ((h.mem y).2 ⟨j, j1, j2, fun e => j3 (.inl e), by rw [j4]; simp⟩)
    rcases List.mem_cons.1 this with e | e
    · exact absurd (.inr e) j3
    · exact e

theorem count_take_le {l : List Nat} (t i : Nat) : (l.take t).count i ≤ l.count i := (List.take_sublist t l).count_le i

theorem take_snocN {l : List Nat} {t : Nat} (h : t < l.length) : l.take (t + 1) = l.take t ++ [l.getD t 0] := by
  rw [List.take_succ_eq_append_getElem h, List.getD_eq_getElem?_getD, List.getElem?_eq_getElem h]; rfl

/-- what l must be -/
def Needed (hs : List Hd) (x : Txt) (l : List Nat) : Prop := (∀ i, i < hs.length → l.count i = (ndAt hs i).count x) ∧ ∀ i ∈ l, i < hs.length

theorem In.facts {hs : List Hd} (hn : (names hs).Nodup) {out : List Txt} (hr : Run hs [] out) {x : Txt} (hx : x ∉ out) (hb : best out hs = some x) {l : List Nat} (hl : Needed hs x l) {t : Nat} (ht : t < l.length) :
    l.getD t 0 < hs.length ∧ (l.take t).count (l.getD t 0) < cnt hs out (l.getD t 0) ∧ nmAt hs (l.getD t 0) ∉ out ++ [x] := by
  have hm : l.getD t 0 ∈ l := by
    rw [List.getD_eq_getElem?_getD, List.getElem?_eq_getElem ht]; exact List.getElem_mem ht
  have hi := hl.2 _ hm
  have h1 : (l.take t).count (l.getD t 0) < l.count (l.getD t 0) := by
    have := count_take_le (l := l) (t + 1) (l.getD t 0)
    rw [take_snocN ht, List.count_append, List.count_singleton_self] at this
    omega
  have h2 := cnt_snoc (hs := hs) hx (l.getD t 0)
  rw [hl.1 _ hi] at h1
  refine ⟨hi, by omega, fun hm => ?_⟩
  rcases List.mem_append.1 hm with e | e
  · have := out_cnt hn hr hi e
    omega
  · rw [List.mem_singleton] at e
    obtain ⟨⟨g, gm, gr, ge⟩, _⟩ := best_some hb
    obtain ⟨j, hj, rfl⟩ := mem_at gm
    have := nm_inj hn hi hj (e.trans ge.symm)
    have r2 := (ready_cnt.1 gr).2
    rw [← this] at r2
    omega

/-- one more is told: its count falls -/
theorem In.down {hs : List Hd} {out : List Txt} {x : Txt} {l : List Nat} {t : Nat} {W qs} (h : In hs out x l t W qs) (ht : t < l.length) (hi : l.getD t 0 < hs.length) (i : Nat) (hil : i < hs.length) :
    (W.set (l.getD t 0) (W.getD (l.getD t 0) 0 - 1)).getD i 0 = cnt hs out i - (l.take (t + 1)).count i := by
  rw [getD_set (by rw [h.wl]; exact hi), take_snocN ht, List.count_append, h.w _ hi]
  by_cases e : i = l.getD t 0
  · rw [if_pos e, e, List.count_singleton_self]; omega
  · rw [if_neg e, h.w i hil, List.count_singleton, if_neg (by simpa using fun k => e k.symm)]; rfl

theorem In.skip {hs : List Hd} {out : List Txt} {x : Txt} {l : List Nat} {t : Nat} {W qs} (h : In hs out x l t W qs) (ht : t < l.length) (hi : l.getD t 0 < hs.length) (hc : (l.take t).count (l.getD t 0) < cnt hs out (l.getD t 0)) (hz : W.getD (l.getD t 0) 0 - 1 ≠ 0) :
    In hs out x l (t + 1) (W.set (l.getD t 0) (W.getD (l.getD t 0) 0 - 1)) qs := by
  refine ⟨by simp [h.wl], fun i hil => h.down ht hi i hil, h.nd, fun y => ?_⟩
  rw [h.mem]
  have key : ∀ i, i < hs.length → (cnt hs out i = (l.take t).count i ↔ cnt hs out i = (l.take (t + 1)).count i) := by
    intro i hil
    rw [take_snocN ht, List.count_append]
    by_cases e : i = l.getD t 0
    · subst e
      rw [h.w _ hi] at hz
      rw [List.count_singleton_self]
      omega
    · rw [List.count_singleton, if_neg (by simpa using fun k => e k.symm), Nat.add_zero]
  constructor
  · rintro ⟨i, h1, h2, h3, h4⟩; exact ⟨i, h1, h2, h3, (key i h1).1 h4⟩
  · rintro ⟨i, h1, h2, h3, h4⟩; exact ⟨i, h1, h2, h3, (key i h1).2 h4⟩

theorem In.put {hs : List Hd} (hn : (names hs).Nodup) {out : List Txt} {x : Txt} {l : List Nat} {t : Nat} {W qs ys} (h : In hs out x l t W qs) (ht : t < l.length) (hi : l.getD t 0 < hs.length) (hc : (l.take t).count (l.getD t 0) < cnt hs out (l.getD t 0)) (ho : nmAt hs (l.getD t 0) ∉ out ++ [x])
    (hz : W.getD (l.getD t 0) 0 - 1 = 0) (hp : ys.Perm (nmAt hs (l.getD t 0) :: qs)) : In hs out x l (t + 1) (W.set (l.getD t 0) (W.getD (l.getD t 0) 0 - 1)) ys := by
  have hno : nmAt hs (l.getD t 0) ∉ qs := fun hm => by
    obtain ⟨i, h1, h2, h3, h4⟩ := (h.mem _).1 hm
    have := nm_inj hn h1 hi h2
    subst this
    omega
  refine ⟨by simp [h.wl], fun i hil => h.down ht hi i hil, hp.nodup_iff.2 (List.nodup_cons.2 ⟨hno, h.nd⟩), fun y => ?_⟩
  rw [hp.mem_iff, List.mem_cons, h.mem]
  have key : ∀ i, i < hs.length → i ≠ l.getD t 0 → (l.take (t + 1)).count i = (l.take t).count i := by
    intro i hil e
    rw [take_snocN ht, List.count_append, List.count_singleton, if_neg (by simpa using fun k => e k.symm)]; rfl
  have key2 : cnt hs out (l.getD t 0) = (l.take (t + 1)).count (l.getD t 0) := by
    rw [take_snocN ht, List.count_append, List.count_singleton_self]
    rw [h.w _ hi] at hz
    omega
  constructor
  · rintro (rfl | ⟨i, h1, h2, h3, h4⟩)
    · exact ⟨_, hi, rfl, ho, key2⟩
    · refine ⟨i, h1, h2, h3, ?_⟩
      by_cases e : i = l.getD t 0
      · subst e; omega
      · rw [key i h1 e]; exact h4
  · rintro ⟨i, h1, h2, h3, h4⟩
    by_cases e : i = l.getD t 0
    · subst e; exact .inl h2.symm
    · rw [key i h1 e] at h4; exact .inr ⟨i, h1, h2, h3, h4⟩

theorem In.done {hs : List Hd} {out : List Txt} {W qs W0 qs0} {x : Txt} (h0 : St hs out W0 qs0) (hb : best out hs = some x) (hx : x ∉ out) {l : List Nat} (hl : Needed hs x l) (h : In hs out x l l.length W qs) : St hs (out ++ [x]) W qs := by
  have key : ∀ i, i < hs.length → cnt hs (out ++ [x]) i = cnt hs out i - (l.take l.length).count i := by
    intro i hi
    have := cnt_snoc (hs := hs) hx i
    rw [List.take_length, hl.1 i hi]
    omega
  have key2 : ∀ i, i < hs.length → (l.take l.length).count i ≤ cnt hs out i := by
    intro i hi
    have := cnt_snoc (hs := hs) hx i
    rw [List.take_length, hl.1 i hi]
    omega
  refine ⟨?_, h.wl, fun i hi => by rw [h.w i hi, key i hi], h.nd, fun y => ?_⟩
  · have : ∀ {a o : List Txt}, Run hs a o → best o hs = some x → Run hs a (o ++ [x]) := by
      intro a o hr
      induction hr using Run.ind with
      | stop => intro hb; exact .step hb (.stop _)
      | step h1 _ ih => intro hb; exact .step h1 (ih hb)
    exact this h0.run hb
  · rw [h.mem]
    constructor
    · rintro ⟨i, h1, h2, h3, h4⟩; exact ⟨i, h1, h2, h3, by rw [key i h1]; omega⟩
    · rintro ⟨i, h1, h2, h3, h4⟩; exact ⟨i, h1, h2, h3, by have := key2 i h1; rw [key i h1] at h4; omega⟩

theorem run_snoc_len {hs : List Hd} (hn : (names hs).Nodup) {out : List Txt} (h : Run hs [] out) : out.length ≤ hs.length := by
  obtain ⟨h1, h2⟩ := run_good h (by simp) (by simp)
  have := sub_len h1 h2
  simpa [names] using this

/-- None is ready any more: the order is out, or there is none. -/
theorem St.last {hs : List Hd} (hn : (names hs).Nodup) {out : List Txt} {W : List Nat} (h : St hs out W []) : ordM hs = if out.length < hs.length then none else some out := by
  have hb : best out hs = none := by
    cases e : best out hs with
    | none => rfl
    | some b =>
      obtain ⟨⟨g, gm, gr, ge⟩, _⟩ := best_some e
      obtain ⟨j, hj, rfl⟩ := mem_at gm
      obtain ⟨r1, r2⟩ := ready_cnt.1 gr
      have := (h.mem (nmAt hs j)).2 ⟨j, hj, rfl, r1, r2⟩
      cases this
  unfold ordM
  rw [if_pos hn]
  split
  · rename_i hlt
    have : ∀ {a o : List Txt}, Run hs a o → best o hs = none → ∀ k, o.length < a.length + k → ordGo k hs a = none := by
      intro a o hr
      induction hr using Run.ind with
      | stop a =>
        intro hb k hk
        cases k with
        | zero => omega
        | succ k => unfold ordGo; rw [hb]
      | step h1 _ ih =>
        intro hb k hk
        cases k with
        | zero =>
          rename_i hr2
          have := run_len hr2
          simp at this
          omega
        | succ k =>
          unfold ordGo
          rw [h1]
          exact ih hb k (by simp; omega)
    exact this h.run hb _ (by simpa using hlt)
  · rename_i hge
    have hl := run_snoc_len hn h.run
    exact go_of_run h.run _ (by simp; omega)
end Go.Proofs.NeedsPlain
