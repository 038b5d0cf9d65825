/-
  The state of Order in memory: the map, what the heads wait for, who is needed by whom, the queue, what is out; each step.
-/
import Derived.Test.YtcogeebfldlpoaaQf
import Derived.Test.YtcogeebfldlpoaaHx
import Derived.Test.YtcogeebfldlpoaaOm
import Derived.Deep.OwnRows
set_option linter.unusedSimpArgs false
set_option linter.unusedVariables false
namespace Go.Proofs.Ytcogeebfldlpoaa
open Go.RowKit Go.Proofs.NeedsHeap
open Go.Proofs.NeedsPlain (Hd names ordM getD_set)

def natV (i : Nat) : Value := .int .i64 (i : Int)

theorem Try.inf3 : (Try.prog.info? 3).map (fun i => (i.zero, i.size, i.bytes)) = some (some (.int .i64 0), 1, 8) := by kernel_rfl
theorem Try.inf37 : (Try.prog.info? 37).map (fun i => (i.zero, i.size, i.bytes)) = some (some (.slice none 0 0), 1, 24) := by kernel_rfl
theorem Try.under37 : Try.prog.underlying 37 = some (.slice 3) := by kernel_rfl
theorem Try.under36 : Try.prog.underlying 36 = some (.slice 37) := by kernel_rfl

theorem make37 (n : Nat) (hn : n ≤ 1000000) (w : World) : (Instr.makeSlice 37 (.int .i64 (n : Int)) (.int .i64 (n : Int))).run Try.prog w = .ok (.slice (some ⟨w.heap.size, 0, none⟩) n n) (w.alloc (.cells (Array.replicate n (.int .i64 0)) 3)) := by
  have := run_make_row' (P := Try.prog) 37 3 (.int .i64 0) 8 Try.under37 Try.inf3 rfl .i64 .i64 n (by omega) (by omega) w
  rw [this]
  congr 2
  rw [show madeCells #[Value.int IntKind.i64 0] n = Array.replicate n (.int .i64 0) by
    apply Array.toList_inj.1; rw [toList_madeCells_one]; simp]

theorem make36 (n : Nat) (hn : n ≤ 1000000) (w : World) : (Instr.makeSlice 36 (.int .i64 (n : Int)) (.int .i64 (n : Int))).run Try.prog w = .ok (.slice (some ⟨w.heap.size, 0, none⟩) n n) (w.alloc (.cells (Array.replicate n (.slice none 0 0)) 37)) := by
  have := run_make_row' (P := Try.prog) 36 37 (.slice none 0 0) 24 Try.under36 Try.inf37 rfl .i64 .i64 n (by omega) (by omega) w
  rw [this]
  congr 2
  rw [show madeCells #[Value.slice none 0 0] n = Array.replicate n (.slice none 0 0) by
    apply Array.toList_inj.1; rw [toList_madeCells_one]; simp]

theorem own_at {w w' : World} {B : Nat} {e : TypeId} {size : Nat} {v : Value} {n : Nat} {xs : List Value} (h : w.ownsRow B e size v n xs) (hk : ∀ k, v.ownBlock = some k → w'.heap[k]? = w.heap[k]?) : w'.ownsRow B e size v n xs := by
  refine ⟨h.1, ?_⟩
  rcases h.2 with h0 | ⟨g, cap, cur, rfl, hb, hg, rest⟩
  · exact .inl h0
  · exact .inr ⟨g, cap, cur, rfl, hb, (hk g rfl).trans hg, rest⟩

theorem own_type {w : World} {B : Nat} {e : TypeId} {size : Nat} {v : Value} {n : Nat} {xs : List Value} (h : w.ownsRow B e size v n xs) {k : Nat} (hk : v.ownBlock = some k) : ∃ c, w.heap[k]? = some (.cells c e (0, 0)) := by
  rcases h.2 with ⟨rfl, _⟩ | ⟨g, cap, cur, rfl, hb, hg, rest⟩
  · cases hk
  · cases hk; exact ⟨cur, hg⟩

theorem type_ne {w : World} {a b : Nat} {c d : Array Value} {t u : TypeId} {f g : Nat × Nat} (h : w.heap[a]? = some (.cells c t f)) (h2 : w.heap[b]? = some (.cells d u g)) (hn : t ≠ u) : a ≠ b := by
  rintro rfl
  rw [h] at h2
  simp at h2
  exact hn h2.2.1

theorem own_ne {w : World} {B : Nat} {e : TypeId} {size : Nat} {v : Value} {n : Nat} {xs : List Value} (h : w.ownsRow B e size v n xs) {k : Nat} {c : Array Value} {t : TypeId} {f : Nat × Nat} (hk : w.heap[k]? = some (.cells c t f)) (hn : t ≠ e) : some k ≠ v.ownBlock := by
  intro e1
  obtain ⟨c', h'⟩ := own_type h e1.symm
  exact type_ne hk h' hn rfl

/-- The parts that stay where they are. -/
structure OS (B : Nat) (w : World) (M : Nat) (ks : List Txt) (f : Txt → Int) (gW gN q : Nat) (W : List Nat) (nbv : List Value) (nb : List (List Nat)) (qv : Value) (qs : List Txt) (ov : Value) (out : List Txt) : Prop where
  map : ∃ N, MapI w M N ks f
  wt : w.heap[gW]? = some (.cells (W.map natV).toArray 3 (0, 0))
  nn : w.heap[gN]? = some (.cells nbv.toArray 37 (0, 0))
  nl : nbv.length = nb.length
  nr : ∀ j, j < nb.length → w.ownsRow B 3 1 (nbv.getD j undef) (nb.getD j []).length ((nb.getD j []).map natV)
  nw : ∀ j, j < nb.length → (nbv.getD j undef).ownBlock ≠ some gW
  nd : ∀ i j, i ≠ j → i < nb.length → j < nb.length → ∀ k, (nbv.getD i undef).ownBlock = some k → (nbv.getD j undef).ownBlock ≠ some k
  qu : Qu B w q qv qs
  hp : HeapTo qs qs.length
  ow : w.ownsRow B 9 1 ov out.length (out.map encStr)
  oq : ∀ k, ov.ownBlock = some k → qv.ownBlock ≠ some k
  bs : B ≤ gW ∧ B ≤ gN ∧ B ≤ M

section
variable {B : Nat} {w : World} {M : Nat} {ks : List Txt} {f : Txt → Int} {gW gN q : Nat} {W : List Nat} {nbv : List Value} {nb : List (List Nat)} {qv : Value} {qs : List Txt} {ov : Value} {out : List Txt}

theorem OS.old {w' : World} (h : OS B w M ks f gW gN q W nbv nb qv qs ov out) (hb : Old w w') : OS B w' M ks f gW gN q W nbv nb qv qs ov out := by
  have ho : ∀ {e : TypeId} {size : Nat} {v : Value} {n : Nat} {xs : List Value}, w.ownsRow B e size v n xs → w'.ownsRow B e size v n xs := fun hr => own_at hr fun k hk => hb.block k (hr.lt k hk).2
  exact { map := h.map.imp fun N hm => hm.old hb, wt := block_old hb h.wt, nn := block_old hb h.nn, nl := h.nl, nr := fun j hj => ho (h.nr j hj), nw := h.nw, nd := h.nd, qu := h.qu.old hb, hp := h.hp, ow := ho h.ow, oq := h.oq, bs := h.bs }

/-- The queue has turned. -/
theorem OS.queue {w' : World} {qv' : Value} {qs' : List Txt} (h : OS B w M ks f gW gN q W nbv nb qv qs ov out) (hq : QuTo B w q qv w' qv' qs') (hh : HeapTo qs' qs'.length) : OS B w' M ks f gW gN q W nbv nb qv' qs' ov out := by
  have hk : ∀ k, k < w.heap.size → k ≠ q → some k ≠ qv.ownBlock → w'.heap[k]? = w.heap[k]? := fun k h1 h2 h3 => hq.fr.block k h1 (by simpa using h2) h3
  have hc : ∀ {k : Nat} {c : Array Value} {t : TypeId} {fr : Nat × Nat}, w.heap[k]? = some (.cells c t fr) → t ≠ 51 → t ≠ 9 → w'.heap[k]? = w.heap[k]? := fun h1 h2 h3 =>
    hk _ (Array.getElem?_eq_some_iff.1 h1).1 (type_ne h1 h.qu.blk h2) (own_ne h.qu.row h1 h3)
  obtain ⟨N, hm⟩ := h.map
  refine { map := ⟨N, hm.kept (hk M hm.lt ?_ ?_)⟩, wt := (hc h.wt (by decide) (by decide)).trans h.wt, nn := (hc h.nn (by decide) (by decide)).trans h.nn, nl := h.nl, nr := fun j hj => own_at (h.nr j hj) fun k e => ?_, nw := h.nw, nd := h.nd, qu := hq.qu, hp := hh, ow := own_at h.ow fun k e => ?_, oq := fun k e => ?_, bs := h.bs }
  · rintro rfl; exact hm.notCells h.qu.blk
  · intro e
    obtain ⟨c, e2⟩ := own_type h.qu.row e.symm
    exact hm.notCells e2
  · obtain ⟨c, e2⟩ := own_type (h.nr j hj) e
    exact hc e2 (by decide) (by decide)
  · obtain ⟨c, e2⟩ := own_type h.ow e
    exact hk k (h.ow.lt k e).2 (type_ne e2 h.qu.blk (by decide)) (fun e3 => h.oq k e e3.symm)
  · rcases hq.nb with e2 | e2
    · rw [e2]; exact h.oq k e
    · intro e3
      have := e2 k e3
      have := (h.ow.lt k e).2
      omega

/-- A number is stored. -/
theorem OS.wait (h : OS B w M ks f gW gN q W nbv nb qv qs ov out) (i c : Nat) : OS B (w.setCell ⟨gW, i, none⟩ (natV c)) M ks f gW gN q (W.set i c) nbv nb qv qs ov out := by
  have hk : ∀ k, k ≠ gW → (w.setCell ⟨gW, i, none⟩ (natV c)).heap[k]? = w.heap[k]? := fun k h1 => Below.heap_setCell _ _ _ _ h1
  have hc : ∀ {k : Nat} {c' : Array Value} {t : TypeId} {fr : Nat × Nat}, w.heap[k]? = some (.cells c' t fr) → t ≠ 3 → (w.setCell ⟨gW, i, none⟩ (natV c)).heap[k]? = w.heap[k]? := fun h1 h2 => hk _ (type_ne h1 h.wt h2)
  obtain ⟨N, hm⟩ := h.map
  refine { map := ⟨N, hm.kept (hk M ?_)⟩, wt := ?_, nn := (hc h.nn (by decide)).trans h.nn, nl := h.nl, nr := fun j hj => own_at (h.nr j hj) fun k e => hk k ?_, nw := h.nw, nd := h.nd, qu := ⟨(hc h.qu.blk (by decide)).trans h.qu.blk, own_at h.qu.row fun k e => ?_, h.qu.hB⟩, hp := h.hp, ow := own_at h.ow fun k e => ?_, oq := h.oq, bs := h.bs }
  · rintro rfl; exact hm.notCells h.wt
  · rw [row_setCell h.wt i (natV c)]
    congr 2
    apply Array.toList_inj.1
    simp [List.map_set]
  · rintro rfl; exact h.nw j hj e
  · obtain ⟨c', e2⟩ := own_type h.qu.row e
    exact hc e2 (by decide)
  · obtain ⟨c', e2⟩ := own_type h.ow e
    exact hc e2 (by decide)

/-- A place is put behind those that need j. -/
theorem OS.needed {V : World} {j p : Nat} {g cap : Nat} (h : OS B w M ks f gW gN q W nbv nb qv qs ov out) (hj : j < nb.length) (hr : V.ownsRow B 3 1 (.slice (some ⟨g, 0, none⟩) ((nb.getD j []).length + 1) cap) ((nb.getD j []).length + 1) ((nb.getD j []).map natV ++ [natV p])) (hg : (w.alloc (.cells #[natV p] 3)).grownBy V (nbv.getD j undef).ownBlock)
    (hw : (nbv.getD j undef).ownBlock = some g ∨ g = w.heap.size + 1) : OS B (V.setCell ⟨gN, j, none⟩ (.slice (some ⟨g, 0, none⟩) ((nb.getD j []).length + 1) cap)) M ks f gW gN q W (nbv.set j (.slice (some ⟨g, 0, none⟩) ((nb.getD j []).length + 1) cap)) (nb.set j (nb.getD j [] ++ [p])) qv qs ov out := by
  have h1 := h.old (old1 w (.cells #[natV p] 3))
  obtain ⟨w1, hw1⟩ : ∃ w1, w1 = w.alloc (.cells #[natV p] 3) := ⟨_, rfl⟩
  have hs1 : w1.heap.size = w.heap.size + 1 := by rw [hw1]; simp
  rw [← hw1] at h1 hg
  obtain ⟨u, hu⟩ : ∃ u, u = Value.slice (some ⟨g, 0, none⟩) ((nb.getD j []).length + 1) cap := ⟨_, rfl⟩
  have hub : u.ownBlock = some g := by rw [hu]; rfl
  rw [← hu] at hr ⊢
  have hjv : j < nbv.length := by rw [h.nl]; exact hj
  have hk : ∀ k, k < w1.heap.size → some k ≠ (nbv.getD j undef).ownBlock → V.heap[k]? = w1.heap[k]? := fun k a b => hg.block k a b
  have hk2 : ∀ k, k ≠ gN → (V.setCell ⟨gN, j, none⟩ u).heap[k]? = V.heap[k]? := fun k a => Below.heap_setCell _ _ _ _ a
  have hc : ∀ {k : Nat} {c' : Array Value} {t : TypeId} {fr : Nat × Nat}, w1.heap[k]? = some (.cells c' t fr) → t ≠ 3 → V.heap[k]? = w1.heap[k]? := fun a b => hk _ (Array.getElem?_eq_some_iff.1 a).1 (own_ne (h1.nr j hj) a b)
  have hnn : V.heap[gN]? = some (.cells nbv.toArray 37 (0, 0)) := (hc h1.nn (by decide)).trans h1.nn
  have hgN : g ≠ gN := by
    obtain ⟨c', e2⟩ := own_type hr hub
    exact type_ne e2 hnn (by decide)
  obtain ⟨N, hm⟩ := h1.map
  have hgn : ∀ k, k < w1.heap.size → some k ≠ (nbv.getD j undef).ownBlock → k ≠ g := by
    intro k a b e
    subst e
    rcases hw with e2 | e2
    · exact b e2.symm
    · omega
  have hnb : (nb.set j (nb.getD j [] ++ [p])).length = nb.length := by simp
  refine { map := ⟨N, hm.kept ?_⟩, wt := ?_, nn := ?_, nl := by simp [h.nl], nr := fun i hi => ?_, nw := fun i hi => ?_, nd := fun i i' hne hi hi' k => ?_, qu := ⟨?_, own_at h1.qu.row fun k e => ?_, h.qu.hB⟩, hp := h.hp, ow := own_at h1.ow fun k e => ?_, oq := h.oq, bs := h.bs }
  · rw [hk2 M (by rintro rfl; exact hm.notCells h1.nn)]
    refine hk M hm.lt fun e => ?_
    obtain ⟨c', e2⟩ := own_type (h1.nr j hj) e.symm
    exact hm.notCells e2
  · rw [hk2 gW (type_ne h1.wt h1.nn (by decide)), hk gW (Array.getElem?_eq_some_iff.1 h1.wt).1 (fun e => h.nw j hj e.symm)]
    exact h1.wt
  · rw [row_setCell hnn j u]
    congr 2
    apply Array.toList_inj.1
    simp
  · rw [hnb] at hi
    rw [getD_set hjv, getD_set hj]
    by_cases e : i = j
    · subst e
      rw [if_pos rfl, if_pos rfl]
      refine own_at (w := V) (by simpa using hr) fun k e => hk2 k ?_
      rw [hub] at e
      cases e
      exact hgN
    · rw [if_neg e, if_neg e]
      refine own_at (h1.nr i hi) fun k e2 => ?_
      obtain ⟨c', e3⟩ := own_type (h1.nr i hi) e2
      rw [hk2 k (type_ne e3 h1.nn (by decide))]
      exact hk k ((h1.nr i hi).lt k e2).2 (fun e4 => h.nd i j e hi hj k e2 e4.symm)
  · rw [hnb] at hi
    rw [getD_set hjv]
    by_cases e : i = j
    · rw [if_pos e, hub]
      intro e2
      have e3 : g = gW := by simpa using e2
      rcases hw with e4 | e4
      · exact h.nw j hj (e4.trans (by rw [e3]))
      · have := (Array.getElem?_eq_some_iff.1 h.wt).1
        omega
    · rw [if_neg e]; exact h.nw i hi
  · rw [hnb] at hi hi'
    rw [getD_set hjv, getD_set hjv]
    intro e2 e3
    by_cases e : i = j
    · subst e
      rw [if_pos rfl, hub] at e2
      rw [if_neg (Ne.symm hne)] at e3
      cases e2
      have l1 := ((h.nr i' hi').lt g e3).2
      rcases hw with e4 | e4
      · exact h.nd i i' hne hi hi' g e4 e3
      · omega
    · rw [if_neg e] at e2
      by_cases e' : i' = j
      · subst e'
        rw [if_pos rfl, hub] at e3
        cases e3
        have l1 := ((h.nr i hi).lt g e2).2
        rcases hw with e4 | e4
        · exact h.nd i i' hne hi hi' g e2 e4
        · omega
      · rw [if_neg e'] at e3
        exact h.nd i i' hne hi hi' k e2 e3
  · rw [hk2 q (type_ne h1.qu.blk h1.nn (by decide)), hc h1.qu.blk (by decide)]
    exact h1.qu.blk
  · obtain ⟨c', e3⟩ := own_type h1.qu.row e
    rw [hk2 k (type_ne e3 h1.nn (by decide))]
    exact hc e3 (by decide)
  · obtain ⟨c', e3⟩ := own_type h1.ow e
    rw [hk2 k (type_ne e3 h1.nn (by decide))]
    exact hc e3 (by decide)

/-- A name is out. -/
theorem OS.taken {V : World} {x : ByteArray} {g cap : Nat} (h : OS B w M ks f gW gN q W nbv nb qv qs ov out) (hr : V.ownsRow B 9 1 (.slice (some ⟨g, 0, none⟩) (out.length + 1) cap) (out.length + 1) (out.map encStr ++ [.string x])) (hg : (w.alloc (.cells #[.string x] 9)).grownBy V ov.ownBlock)
    (hw : ov.ownBlock = some g ∨ g = w.heap.size + 1) : OS B V M ks f gW gN q W nbv nb qv qs (.slice (some ⟨g, 0, none⟩) (out.length + 1) cap) (out ++ [x.data.toList]) := by
  have h1 := h.old (old1 w (.cells #[.string x] 9))
  obtain ⟨w1, hw1⟩ : ∃ w1, w1 = w.alloc (.cells #[.string x] 9) := ⟨_, rfl⟩
  have hs1 : w1.heap.size = w.heap.size + 1 := by rw [hw1]; simp
  rw [← hw1] at h1 hg
  have hk : ∀ k, k < w1.heap.size → some k ≠ ov.ownBlock → V.heap[k]? = w1.heap[k]? := fun k a b => hg.block k a b
  have hc : ∀ {k : Nat} {c' : Array Value} {t : TypeId} {fr : Nat × Nat}, w1.heap[k]? = some (.cells c' t fr) → t ≠ 9 → V.heap[k]? = w1.heap[k]? := fun a b => hk _ (Array.getElem?_eq_some_iff.1 a).1 (own_ne h1.ow a b)
  obtain ⟨N, hm⟩ := h1.map
  have he : (out ++ [x.data.toList]).map encStr = out.map encStr ++ [.string x] := by rw [List.map_append]; simp [encStr]
  refine { map := ⟨N, hm.kept (hk M hm.lt fun e => ?_)⟩, wt := (hc h1.wt (by decide)).trans h1.wt, nn := (hc h1.nn (by decide)).trans h1.nn, nl := h.nl, nr := fun j hj => own_at (h1.nr j hj) fun k e => ?_, nw := h.nw, nd := h.nd, qu := ⟨(hc h1.qu.blk (by decide)).trans h1.qu.blk, own_at h1.qu.row fun k e => ?_, h.qu.hB⟩, hp := h.hp, ow := ?_, oq := fun k e => ?_, bs := h.bs }
  · obtain ⟨c', e2⟩ := own_type h1.ow e.symm
    exact hm.notCells e2
  · obtain ⟨c', e2⟩ := own_type (h1.nr j hj) e
    exact hc e2 (by decide)
  · exact hk k (h1.qu.row.lt k e).2 (fun e2 => h.oq k e2.symm e)
  · rw [he, List.length_append, List.length_singleton]; exact hr
  · simp only [Value.ownBlock, Option.some.injEq] at e
    subst e
    intro e2
    rcases hw with e4 | e4
    · exact h.oq g e4 e2
    · have := (h.qu.row.lt g e2).2
      omega
end
end Go.Proofs.Ytcogeebfldlpoaa
