/-
  The fixed codes; Unpack.
-/
import Derived.Test.YtdokpimhhkbdbaaDoorUg
import Derived.Handy
set_option linter.unusedSimpArgs false
set_option linter.unusedVariables false
namespace Go.Proofs.YtdokpimhhkbdbaaDoor.Q
open Go.RowKit

theorem new_fix (l : List Nat) (hl : OK (castL l)) : Hid (∀ w v, Ints w v (castL l) → Calls Tryd.prog 60 #[v] w fun e w' => ∃ tb, e = .returned (.tuple #[.pointer (some ⟨tb, 0, none⟩), .int .i64 0]) ∧ Hid (Tab w' tb l) ∧ Hid (Below w.heap.size w w')) := by
  intro w v hv
  refine (new_any w v (castL l) hv (by have := hl.1; omega)).mono ?_
  rintro e w' ⟨hb, ⟨_, tb, rfl, _, ht⟩ | ⟨hn, _⟩⟩
  · rw [castL_toNat] at ht
    exact ⟨tb, rfl, ht, hb⟩
  · exact absurd hl hn

theorem Tryd.info56 : (Tryd.prog.info? 56).map (·.size) = some 2 := by kernel_rfl
theorem Tryd.under56 : ∃ fs, Tryd.prog.underlying 56 = some (.struct fs) := by
  have h : (match Tryd.prog.underlying 56 with | some (.struct _) => true | _ => false) = true := by kernel_rfl
  revert h
  cases Tryd.prog.underlying 56 with
  | none => intro h; cases h
  | some d => cases d <;> intro h <;> first | exact ⟨_, rfl⟩ | cases h

theorem Below.tab {w w' : World} {tb : Nat} {l : List Nat} (h : Tab w tb l) (hb : Below w.heap.size w w') : Tab w' tb l := h.old hb

theorem ret56 {fn : Func} {p u : Tmp} (h : fn.results = #[.cell p 56, .tmp u]) (tmps : Array Value) (w : World) (B : Nat) (x y k : Value) (hp : tmps.getD p undef = .pointer (some ⟨B, 0, none⟩)) (hu : tmps.getD u undef = k) (hg : w.heap[B]? = some (.cells #[x, y] 56 (0, 0))) :
    (results fn tmps).run Tryd.prog w = .ok (.tuple #[.agg #[x, y], k]) w := by
  obtain ⟨fs, hfs⟩ := Tryd.under56
  rw [results_cell_tmp h, hp, hu]
  simp only [asAddr, Sem.run_pure, Result.andThen_ok, run_loadVar_row w B 56 56 #[x, y] (0, 0) _ hg hfs rfl Tryd.info56]

theorem ret56_one {fn : Func} {p : Tmp} (h : fn.results = #[.cell p 56]) (tmps : Array Value) (w : World) (B : Nat) (x y : Value) (hp : tmps.getD p undef = .pointer (some ⟨B, 0, none⟩)) (hg : w.heap[B]? = some (.cells #[x, y] 56 (0, 0))) :
    (results fn tmps).run Tryd.prog w = .ok (.agg #[x, y]) w := by
  obtain ⟨fs, hfs⟩ := Tryd.under56
  exact results_cell_row h tmps w B 56 #[x, y] (0, 0) _ hp hg hfs rfl Tryd.info56

theorem tab_set {w : World} {tb g : Nat} {l : List Nat} {c : Array Value} {T : TypeId} (h : Tab w tb l) (hg : w.heap[g]? = some (.cells c T (0, 0))) (h1 : T ≠ 100) (h2 : T ≠ 102) (h3 : T ≠ 3) (o : Nat) (u : Value) : Tab (w.setCell ⟨g, o, none⟩ u) tb l :=
  h.apart (grown_set w g o u) hg h1 h2 h3

theorem set2 {w : World} {g : Nat} {a b : Value} {T : TypeId} (h : w.heap[g]? = some (.cells #[a, b] T (0, 0))) (x y : Value) : (w.setCell ⟨g, 0, none⟩ x).heap[g]? = some (.cells #[x, b] T (0, 0)) ∧ ((w.setCell ⟨g, 0, none⟩ x).setCell ⟨g, 1, none⟩ y).heap[g]? = some (.cells #[x, y] T (0, 0)) := by
  have h1 := row_setCell h 0 x
  have h2 : (w.setCell ⟨g, 0, none⟩ x).heap[g]? = some (.cells #[x, b] T (0, 0)) := by rw [h1]; rfl
  refine ⟨h2, ?_⟩
  rw [row_setCell h2 1 y]
  rfl

theorem tab_set2 {w : World} {tb g : Nat} {l : List Nat} {a b : Value} (h : Tab w tb l) (hg : w.heap[g]? = some (.cells #[a, b] 56 (0, 0))) (x y : Value) : Tab ((w.setCell ⟨g, 0, none⟩ x).setCell ⟨g, 1, none⟩ y) tb l :=
  tab_set (tab_set h hg (by decide) (by decide) (by decide) 0 x) (set2 hg x y).1 (by decide) (by decide) (by decide) 1 y

set_option maxRecDepth 100000 in
theorem newCodes_fix (w : World) (v1 v2 : Value) (h1 : Ints w v1 (castL litsL)) (h2 : Ints w v2 (castL distsL)) :
    Calls Tryd.prog 46 #[v1, v2] w fun e w' => ∃ tl td, e = .returned (.tuple #[.agg #[.pointer (some ⟨tl, 0, none⟩), .pointer (some ⟨td, 0, none⟩)], .int .i64 0]) ∧ Tab w' tl litsL ∧ Tab w' td distsL ∧ Below w.heap.size w w' := by
  have hn1 := new_fix litsL lits_ok
  have hn2 := new_fix distsL dists_ok
  have hq : Below w.heap.size w (w.alloc (.cells #[.pointer none, .pointer none] 56)) := (Below.refl _ _).alloc (Nat.le_refl _) _
  have I1 := mkHid (h1.old hq)
  have I2 := mkHid (h2.old hq)
  have HQ := mkHid hq
  have hb0 := heap_alloc_new w (.cells #[.pointer none, .pointer none] 56)
  have HB0 := mkHid hb0
  clear h1 h2 hq hb0
  go_enter Tryd.func46, Tryd.ntmps46
  go_wp2_with (first
    | (go_at_call 60; (with_reducible refine (hn1.out _ _ I1.out).mono ?_); rintro e w1 ⟨tl, rfl, HT1, HB1⟩
       have I2 := mkHid (I2.out.old HB1.out))
    | (go_at_call 60; (with_reducible refine (hn2.out _ _ I2.out).mono ?_); rintro e w2 ⟨td, rfl, HT2, HB2⟩
       have HP : Hid (w2.heap[w.heap.size]? = some (.cells #[.pointer none, .pointer none] 56 (0, 0))) := by
         show _ = _
         rw [HB2.out.block _ (by have := HB1.out.size; simp at this; omega), HB1.out.block _ (by simp)]
         exact HB0.out
       have c0 := cells2_0 HP.out
       have c1 := cells2_1 HP.out
       have z0 := free_at HP.out 0
       have z1 := free_at HP.out 1))
  refine bodyPost_ret (v := .tuple #[.agg #[.pointer (some ⟨tl, 0, none⟩), .pointer (some ⟨td, 0, none⟩)], .int .i64 0]) (ret56 rfl _ _ w.heap.size _ _ _ rfl rfl (set2 HP.out _ _).2) rfl ?_
  refine ⟨tl, td, rfl, tab_set2 (HT1.out.old HB2.out) HP.out _ _, tab_set2 HT2.out HP.out _ _, ?_⟩
  have b1 := HQ.out.trans (HB1.out.mono (by simp))
  have b2 := b1.trans (HB2.out.mono (by have := b1.size; omega))
  exact (b2.setCell (p := ⟨w.heap.size, 0, none⟩) (Nat.le_refl _) _).setCell (p := ⟨w.heap.size, 1, none⟩) (Nat.le_refl _) _

set_option maxRecDepth 100000 in
theorem fixedCodes_walk (w : World) :
    Calls Tryd.prog 31 #[] w fun e w' => ∃ tl td, e = .returned (.agg #[.pointer (some ⟨tl, 0, none⟩), .pointer (some ⟨td, 0, none⟩)]) ∧ Tab w' tl litsL ∧ Tab w' td distsL ∧ Below w.heap.size w w' := by
  have hq : Below w.heap.size w (w.alloc (.cells #[.pointer none, .pointer none] 56)) := (Below.refl _ _).alloc (Nat.le_refl _) _
  have HQ := mkHid hq
  have hb0 := heap_alloc_new w (.cells #[.pointer none, .pointer none] 56)
  have HB0 := mkHid hb0
  have hfx := mkHid fixed_walk
  have hnc := mkHid newCodes_fix
  clear hq hb0
  go_enter Tryd.func31, Tryd.ntmps31
  go_wp2_with (first
    | (go_at_call 47; (with_reducible refine (hfx.out _).mono ?_); rintro e w1 ⟨ao, cap, bo, cap', rfl, i1, i2, b1⟩
       have I1 := mkHid i1
       have I2 := mkHid i2
       have HB1 := mkHid b1
       clear i1 i2 b1)
    | (go_at_call 46; (with_reducible refine (hnc.out _ _ _ I1.out I2.out).mono ?_); rintro e w2 ⟨tl, td, rfl, t1, t2, b2⟩
       have HT1 := mkHid t1
       have HT2 := mkHid t2
       have HB2 := mkHid b2
       have HP : Hid (w2.heap[w.heap.size]? = some (.cells #[.pointer none, .pointer none] 56 (0, 0))) := by
         show _ = _
         rw [HB2.out.block _ (by have := HB1.out.size; simp at this; omega), HB1.out.block _ (by simp)]
         exact HB0.out
       have HP2 : Hid ((w2.alloc (.cells #[.pointer (some ⟨tl, 0, none⟩), .pointer (some ⟨td, 0, none⟩)] 56)).heap[w.heap.size]? = some (.cells #[.pointer none, .pointer none] 56 (0, 0))) := by
         show _ = _
         rw [Below.heap_alloc _ _ _ (lt_of_block HP.out)]
         exact HP.out
       have c0 := cells2_0 HP2.out
       have c1 := cells2_1 HP2.out
       have z0 := free_at HP2.out 0
       have z1 := free_at HP2.out 1
       clear t1 t2 b2))
  refine bodyPost_ret (v := .agg #[.pointer (some ⟨tl, 0, none⟩), .pointer (some ⟨td, 0, none⟩)]) (ret56_one rfl _ _ w.heap.size _ _ rfl (set2 HP2.out _ _).2) rfl ?_
  have hal : Below w2.heap.size w2 (w2.alloc (.cells #[.pointer (some ⟨tl, 0, none⟩), .pointer (some ⟨td, 0, none⟩)] 56)) := (Below.refl _ _).alloc (Nat.le_refl _) _
  refine ⟨tl, td, rfl, tab_set2 (HT1.out.old hal) HP2.out _ _, tab_set2 (HT2.out.old hal) HP2.out _ _, ?_⟩
  have b1 := HQ.out.trans (HB1.out.mono (by simp))
  have b2 := b1.trans (HB2.out.mono (by have := b1.size; omega))
  have b3 := b2.trans (hal.mono b2.size)
  exact (b3.setCell (p := ⟨w.heap.size, 0, none⟩) (Nat.le_refl _) _).setCell (p := ⟨w.heap.size, 1, none⟩) (Nat.le_refl _) _

theorem rowAt_pos {bs out : List Nat} {p s n : Nat} (h : rowAt bs p out s = .error n) : 0 < n := by
  unfold rowAt at h
  split at h
  · cases h; decide
  split at h
  · cases h; decide
  split at h
  · cases h; decide
  split at h
  · cases h; decide
  split at h
  · cases h; decide
  split at h
  · cases h; decide
  split at h
  · cases h; decide
  cases h

theorem codAt_pos (bs : List Nat) : ∀ f pos out n, codAt bs f pos out = .error n → 0 < n := by
  intro f
  induction f with
  | zero => intro pos out n h; cases h; decide
  | succ f ih =>
    intro pos out n h
    have h : codStep bs pos out (codAt bs f) = .error n := h
    unfold codStep at h
    cases es : signAt litsL bs pos with
    | none => rw [es] at h; cases h; decide
    | some i =>
      rw [es] at h
      simp only at h
      split at h
      · split at h
        · cases h; decide
        · exact ih _ _ _ h
      · split at h
        · cases h
        · cases e2 : rowAt bs (pos + nth litsL i) out i with
          | error m => rw [e2] at h; simp only at h; cases h; exact rowAt_pos e2
          | ok r => obtain ⟨q, o⟩ := r; rw [e2] at h; exact ih _ _ _ h

theorem stoAt_pos {bs out : List Nat} {p n : Nat} (h : stoAt bs p out = .error n) : 0 < n := by
  unfold stoAt at h
  repeat (split at h; · cases h; decide)
  cases h

theorem blkAt_pos {bs out : List Nat} {k p n : Nat} (h : blkAt bs k p out = .error n) : 0 < n := by
  unfold blkAt at h
  split at h
  · exact stoAt_pos h
  split at h
  · exact codAt_pos _ _ _ _ _ h
  split at h
  · cases h; decide
  · cases h; decide

theorem allAt_pos (bs : List Nat) : ∀ f pos out n, allAt bs f pos out = .error n → 0 < n := by
  intro f
  induction f with
  | zero => intro pos out n h; cases h; decide
  | succ f ih =>
    intro pos out n h
    unfold allAt at h
    split at h
    · cases h; decide
    split at h
    · cases h; decide
    cases e : blkAt bs (dig bs (pos + 1) 2) (pos + 1 + 2) out with
    | error m => rw [e] at h; simp only at h; cases h; exact blkAt_pos e
    | ok r =>
      obtain ⟨q, o⟩ := r
      rw [e] at h
      simp only at h
      split at h
      · cases h
      · exact ih _ _ _ h

theorem unp_pos {bs : List Nat} {n : Nat} (h : unp bs = .error n) : 0 < n := by
  unfold unp at h
  cases e : allAt bs (8 * bs.length + 1) 0 [] with
  | error m => rw [e] at h; simp only at h; cases h; exact allAt_pos _ _ _ _ _ e
  | ok r =>
    obtain ⟨q, o⟩ := r
    rw [e] at h
    simp only at h
    split at h
    · cases h
    · cases h; decide

/-- The unpacker, while a block beside it is written into. -/
theorem Up.set {c : Cx} {w : World} {pos g : Nat} {bad : Bool} {out : List Nat} {cs : Array Value} (h : Up c w pos bad out) (hw : c.watch = []) (hg : w.heap[g]? = some (.cells cs 25 (0, 0))) (hlo : c.w0.heap.size ≤ g) (o : Nat) (u : Value) : Up c (w.setCell ⟨g, o, none⟩ u) pos bad out := by
  obtain ⟨v, h1, h2⟩ := h.u
  have hk : ∀ k, k ≠ g → (w.setCell ⟨g, o, none⟩ u).heap[k]? = w.heap[k]? := fun k hk => Below.heap_setCell _ _ _ _ hk
  refine ⟨⟨h.fz.ok, h.fz.os, h.fz.tape, h.fz.output, by simpa using h.fz.size, fun k a1 a2 a3 => ?_, fun x hx => by rw [hw] at hx; cases hx⟩, ?_, ⟨v, ?_, ?_⟩, h.le⟩
  · rw [hk k (by omega)]; exact h.fz.block k a1 a2 a3
  · rw [hk _ (blocks_ne h.r hg (by decide))]; exact h.r
  · rw [hk _ (blocks_ne h1 hg (by decide))]; exact h1
  · exact owns_blk h2 fun k cs2 _ hk2 => hk k (blocks_ne hk2 hg (by decide))

/-- What Unpack answers. -/
def Unpacked (B : Nat) (bs : List Nat) (e : Ending) (w' : World) : Prop :=
  match unp bs with
  | .ok o => ∃ v, e = .returned (.tuple #[v, .int .i64 0]) ∧ w'.ownsRow B 5 1 v o.length (o.map byteV)
  | .error n => e = .returned (.tuple #[.slice none 0 0, .int .i64 (n : Int)])

set_option maxRecDepth 100000 in
set_option maxHeartbeats 4000000 in
theorem unpack_any (w : World) (v : Value) (bs : List Nat) (hv : Lies w v bs) (hs : Small bs) (hl : bs.length ≤ 140737488355328) (hne : unp bs ≠ .error 99) :
    Calls Tryd.prog 8 #[v] w fun e w' => Unpacked w.heap.size bs e w' ∧ Below w.heap.size w w' := by
  have hrd := mkHid (reader_walk w v bs hv hs hl)
  have hfc := mkHid fixedCodes_walk
  have hmf : ∀ (fn : Fn) (first cap : Array Value) (w : World), (Instr.makeFunc fn first cap).run Tryd.prog w = .ok (.func fn first cap) w := fun _ _ _ _ => rfl
  clear hv
  go_enter Tryd.func8, Tryd.ntmps8
  go_upto_region 2 with (first
    | (go_at_call 30; (with_reducible refine hrd.out.mono ?_); rintro e w1 ⟨rv, rb, rfl, hr, hrb, hb⟩
       have HR := mkHid hr
       have HB1 := mkHid hb
       have HRB := mkHid hrb
       clear hr hrb hb)
    | (go_at_call 31; (with_reducible refine (hfc.out _).mono ?_); rintro e w2 ⟨tl, td, rfl, t1, t2, hb⟩
       have HT1 := mkHid t1
       have HT2 := mkHid t2
       have HB2 := mkHid hb
       clear t1 t2 hb))
  obtain ⟨c, hc⟩ : ∃ c : Cx, c = { w0 := w2.alloc (.cells #[.pointer (some ⟨rb, 0, none⟩), .slice none 0 0, .pointer (some ⟨tl, 0, none⟩), .pointer (some ⟨td, 0, none⟩)] 59), ub := w2.heap.size, rb := rb, tl := tl, td := td, rv := rv, bs := bs, watch := [] } := ⟨_, rfl⟩
  have hal : Below w2.heap.size w2 (w2.alloc (.cells #[.pointer (some ⟨rb, 0, none⟩), .slice none 0 0, .pointer (some ⟨tl, 0, none⟩), .pointer (some ⟨td, 0, none⟩)] 59)) := (Below.refl _ _).alloc (Nat.le_refl _) _
  have hr3 := (HR.out.old HB2.out).old hal
  have hub : c.w0.heap[c.ub]? = some (.cells (c.cells (.slice none 0 0)) 59 (0, 0)) := by rw [hc]; exact heap_alloc_new w2 _
  have hok : c.Ok := ⟨⟨_, hub⟩, by rw [hc]; exact hr3, by rw [hc]; exact HT1.out.old hal, by rw [hc]; exact HT2.out.old hal⟩
  have hw0 : c.w0 = w2.alloc (.cells #[.pointer (some ⟨rb, 0, none⟩), .slice none 0 0, .pointer (some ⟨tl, 0, none⟩), .pointer (some ⟨td, 0, none⟩)] 59) := by rw [hc]
  have hbs : c.bs = bs := by rw [hc]
  have hwt : c.watch = [] := by rw [hc]
  have hcu : w2.heap.size = c.ub := by rw [hc]
  have hup : Up c c.w0 0 false [] := ⟨⟨hok, rfl, rfl, rfl, Nat.le_refl _, fun _ _ _ _ => rfl, fun x hx => by rw [hwt] at hx; cases hx⟩, hok.rd.mem.1, ⟨_, hub, World.ownsRow_nil _ _ _ _⟩, Nat.zero_le _⟩
  have hBW : Below w.heap.size w c.w0 := by
    rw [hw0]
    exact (HB1.out.trans (HB2.out.mono HB1.out.size)).trans (hal.mono (Nat.le_trans HB1.out.size HB2.out.size))
  have hlo : w.heap.size ≤ c.rb ∧ w.heap.size ≤ c.ub := by rw [hc]; exact ⟨HRB.out, Nat.le_trans HB1.out.size HB2.out.size⟩
  rw [hcu]
  rw [← hw0]
  have hne' : unp c.bs ≠ .error 99 := by rw [hbs]; exact hne
  have hup2 := (hup.alloc (.cells #[.int .i64 0] 25)).add (c.w0.heap.size, #[.int .i64 0], 25) ⟨(by decide : (25 : Nat) ≠ 5), (by decide : (25 : Nat) ≠ 59), (by decide : (25 : Nat) ≠ 79), heap_alloc_new _ _⟩
  have hcall := caught_any c.ub c.w0 (fun w' => ∃ o p, unp bs = .ok o ∧ Up c w' p false o ∧ w'.heap[c.w0.heap.size]? = some (.cells #[.int .i64 0] 25 (0, 0))) (fun n w' => ∃ k : Nat, n = k ∧ unp bs = .error k ∧ Fz c w' ∧ w'.heap[c.w0.heap.size]? = some (.cells #[.int .i64 0] 25 (0, 0))) (by
    refine (blocks_any (c.add (c.w0.heap.size, #[.int .i64 0], 25)) _ hup2 hne').mono ?_
    intro e w' hl
    unfold LeftAll at hl
    have e0 : (c.add (c.w0.heap.size, #[.int .i64 0], 25)).bs = bs := hbs
    rw [e0] at hl
    cases hu : unp bs with
    | ok o =>
      rw [hu] at hl
      obtain ⟨h1, p, h2⟩ := hl
      exact ⟨.inl ⟨h1, o, p, rfl, h2.less, h2.fz.seen⟩, h2.fz.seen⟩
    | error n =>
      rw [hu] at hl
      exact ⟨.inr ⟨n, hl.1, n, rfl, rfl, hl.2.less, hl.2.seen⟩, hl.2.seen⟩)
  have HC : Hid (Calls Tryd.prog 32 #[.func (.func 33) #[.pointer (some ⟨c.ub, 0, none⟩)] #[]] c.w0 fun e w' => (∃ v5, e = .returned (.int .i64 0) ∧ w'.cell? ⟨c.ub, 1, none⟩ = some v5 ∧ Hid (∃ o, unp bs = .ok o ∧ w'.ownsRow c.w0.heap.size 5 1 v5 o.length (o.map byteV)) ∧ Hid (Below w.heap.size w w')) ∨ (∃ k : Nat, e = .returned (.int .i64 (k : Int)) ∧ ((k : Int) != 0) = true ∧ Hid (unp bs = .error k) ∧ Hid (Below w.heap.size w w'))) := by
    refine hcall.mono ?_
    have hb2 : ∀ w4 x, Fz c w4 → Below w.heap.size w (w4.setCell ⟨c.w0.heap.size, 0, none⟩ x) := fun w4 x hf => by
      have h0 : w.heap.size ≤ c.rb ∧ w.heap.size ≤ c.ub := hlo
      have h1 : Below w.heap.size c.w0 w4 := ⟨hf.os, hf.tape, hf.output, hf.size, fun k hk => hf.block k (by have := hBW.size; omega) (by omega) (by omega)⟩
      exact (hBW.trans h1).setCell (p := ⟨c.w0.heap.size, 0, none⟩) hBW.size x
    rintro e w5 (⟨rfl, w4, ⟨o, p, hu, hup, hg⟩, rfl⟩ | ⟨n, rfl, w4, ⟨k, rfl, hu, hfz, hg⟩, rfl⟩)
    · obtain ⟨v5, a1, a2⟩ := (hup.set hwt hg (Nat.le_refl _) 0 (.int .i64 0)).u
      exact .inl ⟨v5, rfl, cells4_1 c a1, ⟨o, hu, a2⟩, hb2 _ _ hup.fz⟩
    · refine .inr ⟨k, rfl, ?_, hu, hb2 _ _ hfz⟩
      have := unp_pos hu
      simp
      omega
  have HS0 : Hid (w.heap.size ≤ c.w0.heap.size) := hBW.size
  clear hcall hBW hwt hup2 hup hok hub hr3 hal hne' hbs hcu hw0 hc HR HB1 HB2 HT1 HT2 hrd hfc hne hlo
  go_wp2_with (first
    | (go_at_call 32; (with_reducible refine HC.out.mono ?_)
       rintro e w5 (⟨v5, rfl, c5, H1, H2⟩ | ⟨k, rfl, hk0, H1, H2⟩)))
  · go_ret2
    obtain ⟨o, h1, h2⟩ := H1.out
    refine ⟨?_, H2.out⟩
    unfold Unpacked
    rw [h1]
    exact ⟨v5, rfl, owns_base h2 HS0.out⟩
  · go_ret2
    refine ⟨?_, H2.out⟩
    unfold Unpacked
    rw [H1.out]
    exact rfl

end Go.Proofs.YtdokpimhhkbdbaaDoor.Q
