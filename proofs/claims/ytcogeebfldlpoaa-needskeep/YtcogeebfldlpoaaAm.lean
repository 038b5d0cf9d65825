/-
  All in plain lists: the way that grows while it is gone; nothing of a program.
-/
import Derived.Test.YtcogeebfldlpoaaOm
set_option linter.unusedSimpArgs false
set_option linter.unusedVariables false
namespace Go.Proofs.NeedsPlain

theorem getD_in {l : List Txt} {m : Nat} (h : m < l.length) : l.getD m [] ∈ l := by
  rw [List.getD_eq_getElem?_getD, List.getElem?_eq_getElem h]; exact List.getElem_mem h

/-- The way so far, and what is out: at place p of it, the first m needs looked at. -/
structure Go1 (hs : List Hd) (a : Txt) (p m : Nat) (way : List Nat) (out : List Txt) : Prop where
  nd : way.Nodup
  lt : ∀ i ∈ way, i < hs.length
  ne : way ≠ []
  hd : nmAt hs (way.getD 0 0) = a
  eq : out = way.tail.map (nmAt hs)
  re : ∀ x ∈ out, Reach hs a x ∧ x ≠ a
  cl : ∀ g ∈ hs, (g.1 = a ∨ g.1 ∈ out) → g.1 ∉ (way.drop p).map (nmAt hs) → ∀ x ∈ g.2, x ∈ names hs → x = a ∨ x ∈ out
  md : p < way.length → ∀ x ∈ (ndAt hs (way.getD p 0)).take m, x ∈ names hs → x = a ∨ x ∈ out

theorem Go1.len {hs : List Hd} {a : Txt} {p m : Nat} {way : List Nat} {out : List Txt} (h : Go1 hs a p m way out) : way.length ≤ hs.length := by
  have : ∀ (n : Nat) (l : List Nat), l.Nodup → (∀ i ∈ l, i < n) → l.length ≤ n := by
    intro n
    induction n with
    | zero => intro l _ h; cases l with
      | nil => simp
      | cons x r => exact absurd (h x (by simp)) (by omega)
    | succ n ih =>
      intro l hl h
      have h1 := ih (l.erase n) (hl.erase n) (fun i hi => by
        have h2 := h i (List.mem_of_mem_erase hi)
        have h3 : i ≠ n := fun e => by subst e; exact (List.Nodup.not_mem_erase hl) hi
        omega)
      have h2 := List.length_erase_le (l := l) (a := n)
      by_cases hm : n ∈ l
      · rw [List.length_erase_of_mem hm] at h1; omega
      · rw [List.erase_of_not_mem hm] at h1; omega
  exact this _ _ h.nd h.lt

theorem way_cons {way : List Nat} (h : way ≠ []) : way = way.getD 0 0 :: way.tail := by
  cases way with
  | nil => exact absurd rfl h
  | cons x r => rfl

/-- what stands on the way is a, or out -/
theorem Go1.on {hs : List Hd} {a : Txt} {p m : Nat} {way : List Nat} {out : List Txt} (h : Go1 hs a p m way out) {i : Nat} (hi : i ∈ way) : nmAt hs i = a ∨ nmAt hs i ∈ out := by
  rw [way_cons h.ne] at hi
  rcases List.mem_cons.1 hi with e | e
  · left; rw [e]; exact h.hd
  · right; rw [h.eq]; exact List.mem_map_of_mem e

theorem Go1.olen {hs : List Hd} {a : Txt} {p m : Nat} {way : List Nat} {out : List Txt} (h : Go1 hs a p m way out) : out.length + 1 = way.length := by
  have := way_cons h.ne
  rw [h.eq, List.length_map]
  conv => rhs; rw [this]
  simp

theorem Go1.start {hs : List Hd} {a : Txt} {f : Nat} (hf : f < hs.length) (ha : nmAt hs f = a) : Go1 hs a 0 0 [f] [] := by
  refine ⟨by simp, by simpa using hf, by simp, by simpa using ha, by simp, by simp, fun g hg h1 h2 => ?_, by simp⟩
  rcases h1 with h1 | h1
  · exact absurd (by simp [ha, h1]) h2
  · cases h1

theorem Go1.skip {hs : List Hd} {a : Txt} {p m : Nat} {way : List Nat} {out : List Txt} (h : Go1 hs a p m way out) (hm : m < (ndAt hs (way.getD p 0)).length)
    (hx : (ndAt hs (way.getD p 0)).getD m [] ∈ names hs → (names hs).idxOf ((ndAt hs (way.getD p 0)).getD m []) ∈ way) : Go1 hs a p (m + 1) way out := by
  refine { h with md := fun hp x hx2 hn => ?_ }
  rw [take_snoc' hm, List.mem_append, List.mem_singleton] at hx2
  rcases hx2 with e | e
  · exact h.md hp x e hn
  · subst e
    have := h.on (hx hn)
    rw [(nm_idx hn).2] at this
    exact this

theorem getD_app {way : List Nat} {p j : Nat} (hp : p < way.length) : (way ++ [j]).getD p 0 = way.getD p 0 := by
  simp [List.getElem?_append_left hp]

theorem idx_nm {hs : List Hd} (hn : (names hs).Nodup) {i : Nat} (hi : i < hs.length) : (names hs).idxOf (nmAt hs i) = i := by
  rw [nm_get hi]
  exact hn.idxOf_getElem i (by simpa [names] using hi)

theorem Go1.put {hs : List Hd} (hn : (names hs).Nodup) {a : Txt} {p m : Nat} {way : List Nat} {out : List Txt} (h : Go1 hs a p m way out) (hp : p < way.length) (hm : m < (ndAt hs (way.getD p 0)).length)
    (hx : (ndAt hs (way.getD p 0)).getD m [] ∈ names hs) (hno : (names hs).idxOf ((ndAt hs (way.getD p 0)).getD m []) ∉ way) :
    Go1 hs a p (m + 1) (way ++ [(names hs).idxOf ((ndAt hs (way.getD p 0)).getD m [])]) (out ++ [(ndAt hs (way.getD p 0)).getD m []]) := by
  obtain ⟨j, hj⟩ : ∃ j, j = (names hs).idxOf ((ndAt hs (way.getD p 0)).getD m []) := ⟨_, rfl⟩
  obtain ⟨x, hxe⟩ : ∃ x, x = (ndAt hs (way.getD p 0)).getD m [] := ⟨_, rfl⟩
  obtain ⟨j1, j2⟩ := nm_idx hx
  rw [← hj] at j1 j2 hno ⊢
  rw [← hxe] at j2 hx ⊢
  have hip : way.getD p 0 ∈ way := by
    rw [List.getD_eq_getElem?_getD, List.getElem?_eq_getElem hp]; exact List.getElem_mem hp
  have h0 : way.getD 0 0 ∈ way := by
    have := way_cons h.ne
    rw [this]; simp
  have hxa : x ≠ a := by
    intro e
    apply hno
    have e2 := idx_nm hn (h.lt _ h0)
    rw [h.hd] at e2
    rw [hj, ← hxe, e, e2]
    exact h0
  have hxm : x ∈ ndAt hs (way.getD p 0) := by
    rw [hxe]; exact getD_in hm
  refine ⟨?_, fun i hi => ?_, by simp, ?_, ?_, fun y hy => ?_, fun g hg h1 h2 y hy hyn => ?_, fun hp2 y hy hyn => ?_⟩
  · rw [List.nodup_append]
    exact ⟨h.nd, by simp, fun u hu v hv => by simp at hv; subst hv; exact fun e => hno (e ▸ hu)⟩
  · rcases List.mem_append.1 hi with hi | hi
    · exact h.lt i hi
    · simp at hi; omega
  · have := way_cons h.ne
    rw [this]
    show nmAt hs (way.getD 0 0) = a
    exact h.hd
  · have := way_cons h.ne
    have e : (way ++ [j]).tail = way.tail ++ [j] := by
      cases way with
      | nil => exact absurd rfl h.ne
      | cons u r => rfl
    rw [e, List.map_append, ← h.eq]
    simp [j2]
  · rcases List.mem_append.1 hy with hy | hy
    · exact h.re y hy
    · simp at hy
      subst hy
      refine ⟨?_, hxa⟩
      rcases h.on hip with e | e
      · exact .one (nm_mem (h.lt _ hip)) e hxm hx
      · exact .more (h.re _ e).1 (nm_mem (h.lt _ hip)) hxm hx
  · have e : (way ++ [j]).drop p = way.drop p ++ [j] := List.drop_append_of_le_length (Nat.le_of_lt hp)
    rw [e, List.map_append, List.mem_append] at h2
    have h3 : g.1 ≠ x := fun e2 => h2 (.inr (by simp [j2, e2]))
    have := h.cl g hg (h1.imp id (fun k => by
      rcases List.mem_append.1 k with k | k
      · exact k
      · simp at k; exact absurd k h3)) (fun k => h2 (.inl k)) y hy hyn
    exact this.imp id (fun k => List.mem_append_left _ k)
  · rw [getD_app hp, take_snoc' hm, List.mem_append, List.mem_singleton] at hy
    rcases hy with e | e
    · exact (h.md hp y e hyn).imp id (fun k => List.mem_append_left _ k)
    · right
      rw [e, ← hxe]
      simp

theorem Go1.next {hs : List Hd} (hn : (names hs).Nodup) {a : Txt} {p : Nat} {way : List Nat} {out : List Txt} (hp : p < way.length) (h : Go1 hs a p (ndAt hs (way.getD p 0)).length way out) : Go1 hs a (p + 1) 0 way out := by
  refine { h with cl := fun g hg h1 h2 y hy hyn => ?_, md := fun _ y hy => by simp at hy }
  have hip : way.getD p 0 ∈ way := by
    rw [List.getD_eq_getElem?_getD, List.getElem?_eq_getElem hp]; exact List.getElem_mem hp
  by_cases e : g.1 = nmAt hs (way.getD p 0)
  · have : g = hs.getD (way.getD p 0) hdZ := uniq_of hn g hg _ (nm_mem (h.lt _ hip)) e
    have hmd := h.md hp y
    rw [List.take_length] at hmd
    refine hmd ?_ hyn
    rw [this] at hy
    exact hy
  · refine h.cl g hg h1 (fun k => ?_) y hy hyn
    rw [List.drop_eq_getElem_cons hp, List.map_cons, List.mem_cons] at k
    rcases k with k | k
    · apply e
      rw [k]
      simp [List.getD_eq_getElem?_getD, List.getElem?_eq_getElem hp]
    · exact h2 k

theorem Go1.done {hs : List Hd} {a : Txt} {way : List Nat} {out : List Txt} {p : Nat} (h : Go1 hs a p 0 way out) (hp : way.length ≤ p) (x : Txt) : x ∈ out ↔ Reach hs a x ∧ x ≠ a := by
  refine search_done (l := hs) (a := a) ⟨h.re, (fun x h => by cases h), fun g hg h1 _ y hy hyn => h.cl g hg h1 ?_ y hy hyn⟩ x
  rw [List.drop_eq_nil_of_le hp]; simp

theorem Go1.onod {hs : List Hd} (hn : (names hs).Nodup) {a : Txt} {p m : Nat} {way : List Nat} {out : List Txt} (h : Go1 hs a p m way out) : out.Nodup := by
  rw [h.eq]
  have : ∀ l : List Nat, l.Nodup → (∀ i ∈ l, i < hs.length) → (l.map (nmAt hs)).Nodup := by
    intro l
    induction l with
    | nil => intro _ _; simp
    | cons u r ih =>
      intro h1 h2
      rw [List.nodup_cons] at h1
      rw [List.map_cons, List.nodup_cons]
      refine ⟨fun k => ?_, ih h1.2 (fun i hi => h2 i (List.mem_cons_of_mem _ hi))⟩
      obtain ⟨v, hv, e⟩ := List.mem_map.1 k
      have := nm_inj hn (h2 v (List.mem_cons_of_mem _ hv)) (h2 u (by simp)) e
      subst this
      exact h1.1 hv
  refine this _ (h.nd.sublist (List.tail_sublist _)) (fun i hi => h.lt i (List.mem_of_mem_tail hi))

/-- Sorted, it is what All says. -/
theorem all_sorted {hs : List Hd} {a : Txt} {out : List Txt} (hd : out.Nodup) (hm : ∀ x, x ∈ out ↔ Reach hs a x ∧ x ≠ a) : IsAll hs a (out.mergeSort fun x y => decide (x ≤ y)) := by
  have hp : (out.mergeSort fun x y => decide (x ≤ y)).Perm out := List.mergeSort_perm _ _
  have hs1 : (out.mergeSort fun x y => decide (x ≤ y)).Pairwise (fun x y => decide (x ≤ y) = true) := List.pairwise_mergeSort (le := fun x y => decide (x ≤ y)) (fun a b c h1 h2 => by simp at *; exact List.le_trans h1 h2) (fun a b => by simp; exact List.le_total a b) out
  refine ⟨?_, fun x => by rw [hp.mem_iff, hm]⟩
  have hn := hp.nodup_iff.2 hd
  have := List.Pairwise.and hs1 hn
  exact this.imp fun {x y} ⟨h1, h2⟩ => by
    simp at h1
    rcases List.le_iff_lt_or_eq.1 h1 with h | h
    · exact h
    · exact absurd h h2

theorem all_none {hs : List Hd} {a : Txt} (h : a ∉ names hs) : IsAll hs a [] := by
  refine ⟨by simp, fun x => ⟨fun k => (by cases k), fun ⟨hr, _⟩ => ?_⟩⟩
  have : ∀ x, Reach hs a x → a ∈ names hs := by
    intro x hr
    induction hr using Reach.ind with
    | one hm he _ _ => rw [← he]; exact List.mem_map_of_mem hm
    | more _ _ _ _ ih => exact ih
  exact absurd (this x hr) h

theorem IsAll.len {hs : List Hd} {a : Txt} {out : List Txt} (h : IsAll hs a out) : out.length ≤ hs.length := by
  have h1 : out.Nodup := h.1.imp fun {x y} k => fun e => by subst e; exact List.lt_irrefl _ k
  have := sub_len h1 (b := names hs) (fun x hx => ((h.2 x).1 hx).1.name)
  simpa [names] using this
end Go.Proofs.NeedsPlain
