/-
  The unpacker's state; need, digits, sign, number, room.
-/
import Derived.Test.YtdokpimhhkbdbaaDoorUm
set_option linter.unusedSimpArgs false
set_option linter.unusedVariables false
namespace Go.Proofs.YtdokpimhhkbdbaaDoor.Q
open Go.RowKit

theorem mkHid {p : Prop} (h : p) : Hid p := h

/-- Where an unpacker lies: its block ub, its reader rb (over the slice rv of the bytes bs), its two tables; the world in which it was made. -/
structure Cx where
  w0 : World
  ub : Nat
  rb : Nat
  tl : Nat
  td : Nat
  rv : Value
  bs : List Nat
  /-- blocks that stand by -/
  watch : List (Nat × Array Value × TypeId)

def Cx.cells (c : Cx) (v : Value) : Array Value := #[.pointer (some ⟨c.rb, 0, none⟩), v, .pointer (some ⟨c.tl, 0, none⟩), .pointer (some ⟨c.td, 0, none⟩)]

structure Cx.Ok (c : Cx) : Prop where
  u : ∃ v, c.w0.heap[c.ub]? = some (.cells (c.cells v) 59 (0, 0))
  rd : Rd c.rv 79 c.w0 c.rb c.bs 0 false
  tl : Tab c.w0 c.tl litsL
  td : Tab c.w0 c.td distsL

/-- Nothing that was there before has turned, but the unpacker and its reader. -/
structure Fz (c : Cx) (w : World) : Prop where
  ok : c.Ok
  os : w.os = c.w0.os
  tape : w.tape = c.w0.tape
  output : w.output = c.w0.output
  size : c.w0.heap.size ≤ w.heap.size
  block : ∀ k, k < c.w0.heap.size → k ≠ c.ub → k ≠ c.rb → w.heap[k]? = c.w0.heap[k]?
  watch : ∀ x ∈ c.watch, x.2.2 ≠ 5 ∧ x.2.2 ≠ 59 ∧ x.2.2 ≠ 79 ∧ w.heap[x.1]? = some (.cells x.2.1 x.2.2 (0, 0))

structure Up (c : Cx) (w : World) (pos : Nat) (bad : Bool) (out : List Nat) : Prop where
  fz : Fz c w
  r : w.heap[c.rb]? = some (.cells #[c.rv, .int .i64 (pos : Int), .bool bad] 79 (0, 0))
  u : ∃ v, w.heap[c.ub]? = some (.cells (c.cells v) 59 (0, 0)) ∧ w.ownsRow c.w0.heap.size 5 1 v out.length (out.map byteV)
  le : pos ≤ 8 * c.bs.length

theorem owns_blk {w0 w : World} {B e n : Nat} {v : Value} {xs : List Value} (h : w0.ownsRow B e 1 v n xs) (hb : ∀ g cs, v.ownBlock = some g → w0.heap[g]? = some (.cells cs e (0, 0)) → w.heap[g]? = w0.heap[g]?) : w.ownsRow B e 1 v n xs := by
  refine ⟨h.1, ?_⟩
  rcases h.2 with h2 | ⟨g, cap, cur, rfl, hB, hg, r⟩
  · exact .inl h2
  · exact .inr ⟨g, cap, cur, rfl, hB, by rw [hb g cur rfl hg]; exact hg, r⟩

/-- A block of w0 of another type than the unpacker's and the reader's stands. -/
theorem Fz.keep {c : Cx} {w : World} (h : Fz c w) {k : Nat} {cs : Array Value} {t : TypeId} (hk : c.w0.heap[k]? = some (.cells cs t (0, 0))) (h1 : t ≠ 59) (h2 : t ≠ 79) : w.heap[k]? = c.w0.heap[k]? := by
  obtain ⟨v, hu⟩ := h.ok.u
  exact h.block k (lt_of_block hk) (blocks_ne hk hu h1) (blocks_ne hk h.ok.rd.mem.1 h2)

theorem Fz.tab {c : Cx} {w : World} (h : Fz c w) {tb : Nat} {l : List Nat} (ht : Tab c.w0 tb l) : Tab w tb l := by
  obtain ⟨⟨cb, v, cs, h1, h2, he, h4⟩, r1, r2, r3⟩ := ht
  refine ⟨⟨cb, v, cs, ?_, ?_, he, ?_⟩, r1, r2, r3⟩
  · rw [h.keep h1 (by decide) (by decide)]; exact h1
  · rw [h.keep h2 (by decide) (by decide)]; exact h2
  · exact owns_blk h4 fun g cs _ hg => h.keep hg (by decide) (by decide)

theorem Fz.rbu {c : Cx} {w : World} (h : Fz c w) : c.rb ≠ c.ub ∧ c.rb < c.w0.heap.size ∧ c.ub < c.w0.heap.size := by
  obtain ⟨v, hu⟩ := h.ok.u
  exact ⟨blocks_ne h.ok.rd.mem.1 hu (by decide), lt_of_block h.ok.rd.mem.1, lt_of_block hu⟩

theorem Up.rd {c : Cx} {w : World} {pos : Nat} {bad : Bool} {out : List Nat} (h : Up c w pos bad out) : Rd c.rv 79 w c.rb c.bs pos bad :=
  ⟨⟨h.r, owns_blk h.fz.ok.rd.mem.2 fun g cs _ hg => h.fz.keep hg (by decide) (by decide)⟩, h.fz.ok.rd.small, h.le, h.fz.ok.rd.len⟩

theorem Fz.grown {c : Cx} {w w' : World} (h : Fz c w) {cs : Array Value} (hr : w.heap[c.rb]? = some (.cells cs 79 (0, 0))) (hg : w.grownBy w' (some c.rb)) : Fz c w' :=
  ⟨h.ok, hg.os.trans h.os, hg.tape.trans h.tape, hg.output.trans h.output, Nat.le_trans h.size hg.size, fun k hk h1 h2 => (hg.block k (Nat.lt_of_lt_of_le hk h.size) (by simpa using h2)).trans (h.block k hk h1 h2), fun x hx => by
    obtain ⟨a1, a2, a3, a4⟩ := h.watch x hx
    exact ⟨a1, a2, a3, by rw [hg.block x.1 (lt_of_block a4) (by simpa using blocks_ne a4 hr a3)]; exact a4⟩⟩

theorem Fz.drewN {c : Cx} {w : World} (h : Fz c w) (k : Nat) : Fz c (w.drewN k) := ⟨h.ok, h.os, h.tape, h.output, h.size, h.block, h.watch⟩

theorem Up.drewN {c : Cx} {w : World} {pos : Nat} {bad : Bool} {out : List Nat} (h : Up c w pos bad out) (k : Nat) : Up c (w.drewN k) pos bad out := by
  obtain ⟨v, h1, h2⟩ := h.u
  exact ⟨h.fz.drewN k, h.r, ⟨v, h1, owns_blk h2 fun _ _ _ _ => rfl⟩, h.le⟩

/-- Behind a call that only turned the reader. -/
theorem Up.read {c : Cx} {w w' : World} {pos pos' : Nat} {bad bad' : Bool} {out : List Nat} (h : Up c w pos bad out) (hg : w.grownBy w' (some c.rb)) (hr : Rd c.rv 79 w' c.rb c.bs pos' bad') : Up c w' pos' bad' out := by
  obtain ⟨v, h1, h2⟩ := h.u
  have hb := h.fz.rbu
  refine ⟨h.fz.grown h.r hg, hr.mem.1, ⟨v, ?_, ?_⟩, hr.le⟩
  · rw [hg.block c.ub (lt_of_block h1) (by simpa using hb.1.symm)]; exact h1
  · exact owns_blk h2 fun g cs _ hgk => hg.block g (lt_of_block hgk) (by simpa using blocks_ne hgk h.r (by decide))

/-- A block made behind the unpacker. -/
theorem Up.alloc {c : Cx} {w : World} {pos : Nat} {bad : Bool} {out : List Nat} (h : Up c w pos bad out) (o : Obj) : Up c (w.alloc o) pos bad out := by
  obtain ⟨v, h1, h2⟩ := h.u
  have hk : ∀ k, k < w.heap.size → (w.alloc o).heap[k]? = w.heap[k]? := fun k hk => Below.heap_alloc _ _ _ hk
  refine ⟨⟨h.fz.ok, h.fz.os, h.fz.tape, h.fz.output, by have := h.fz.size; simp; omega, fun k hk' h1' h2' => ?_, fun x hx => ?_⟩, ?_, ⟨v, ?_, owns_blk h2 fun g cs _ hg => hk g (lt_of_block hg)⟩, h.le⟩
  · rw [hk k (Nat.lt_of_lt_of_le hk' h.fz.size)]; exact h.fz.block k hk' h1' h2'
  · obtain ⟨a1, a2, a3, a4⟩ := h.fz.watch x hx
    exact ⟨a1, a2, a3, by rw [hk _ (lt_of_block a4)]; exact a4⟩
  · rw [hk _ (lt_of_block h.r)]; exact h.r
  · rw [hk _ (lt_of_block h1)]; exact h1

def Cx.add (c : Cx) (x : Nat × Array Value × TypeId) : Cx := { c with watch := x :: c.watch }

theorem Fz.add {c : Cx} {w : World} (h : Fz c w) (x : Nat × Array Value × TypeId) (hx : x.2.2 ≠ 5 ∧ x.2.2 ≠ 59 ∧ x.2.2 ≠ 79 ∧ w.heap[x.1]? = some (.cells x.2.1 x.2.2 (0, 0))) : Fz (c.add x) w :=
  ⟨⟨h.ok.u, h.ok.rd, h.ok.tl, h.ok.td⟩, h.os, h.tape, h.output, h.size, h.block, fun y hy => by
    rcases List.mem_cons.1 hy with rfl | hy
    · exact hx
    · exact h.watch y hy⟩

theorem Fz.less {c : Cx} {w : World} {x : Nat × Array Value × TypeId} (h : Fz (c.add x) w) : Fz c w :=
  ⟨⟨h.ok.u, h.ok.rd, h.ok.tl, h.ok.td⟩, h.os, h.tape, h.output, h.size, h.block, fun y hy => h.watch y (List.mem_cons_of_mem _ hy)⟩

theorem Fz.seen {c : Cx} {w : World} {x : Nat × Array Value × TypeId} (h : Fz (c.add x) w) : w.heap[x.1]? = some (.cells x.2.1 x.2.2 (0, 0)) := (h.watch x (List.mem_cons_self ..)).2.2.2

theorem Up.add {c : Cx} {w : World} {pos : Nat} {bad : Bool} {out : List Nat} (h : Up c w pos bad out) (x : Nat × Array Value × TypeId) (hx : x.2.2 ≠ 5 ∧ x.2.2 ≠ 59 ∧ x.2.2 ≠ 79 ∧ w.heap[x.1]? = some (.cells x.2.1 x.2.2 (0, 0))) : Up (c.add x) w pos bad out := ⟨h.fz.add x hx, h.r, h.u, h.le⟩

theorem Up.less {c : Cx} {w : World} {pos : Nat} {bad : Bool} {out : List Nat} {x : Nat × Array Value × TypeId} (h : Up (c.add x) w pos bad out) : Up c w pos bad out := ⟨h.fz.less, h.r, h.u, h.le⟩

abbrev Pn (n : Int) : Ending := .panicked [{ v := .iface 25 (.int .i64 n), recovered := false }]

theorem need_true (w : World) : Calls Tryd.prog 63 #[.bool true] w fun e w' => e = .returned (.tuple #[]) ∧ w' = w := by
  go_enter Tryd.func63, Tryd.ntmps63
  go_wp2
  go_end0
  exact ⟨rfl, rfl⟩

theorem need_false (w : World) : Calls Tryd.prog 63 #[.bool false] w fun e w' => e = Pn 2 ∧ w' = w := by
  go_enter Tryd.func63, Tryd.ntmps63
  go_wp2
  exact ⟨rfl, rfl, rfl⟩

theorem cells4_0 (c : Cx) {w : World} {v : Value} (h : w.heap[c.ub]? = some (.cells (c.cells v) 59 (0, 0))) : w.cell? ⟨c.ub, 0, none⟩ = some (.pointer (some ⟨c.rb, 0, none⟩)) := by simp [World.cell?, h, Cx.cells]
theorem cells4_1 (c : Cx) {w : World} {v : Value} (h : w.heap[c.ub]? = some (.cells (c.cells v) 59 (0, 0))) : w.cell? ⟨c.ub, 1, none⟩ = some v := by simp [World.cell?, h, Cx.cells]
theorem cells4_2 (c : Cx) {w : World} {v : Value} (h : w.heap[c.ub]? = some (.cells (c.cells v) 59 (0, 0))) : w.cell? ⟨c.ub, 2, none⟩ = some (.pointer (some ⟨c.tl, 0, none⟩)) := by simp [World.cell?, h, Cx.cells]
theorem cells4_3 (c : Cx) {w : World} {v : Value} (h : w.heap[c.ub]? = some (.cells (c.cells v) 59 (0, 0))) : w.cell? ⟨c.ub, 3, none⟩ = some (.pointer (some ⟨c.td, 0, none⟩)) := by simp [World.cell?, h, Cx.cells]

theorem Up.c0 {c : Cx} {w : World} {pos : Nat} {bad : Bool} {out : List Nat} (h : Up c w pos bad out) : w.cell? ⟨c.ub, 0, none⟩ = some (.pointer (some ⟨c.rb, 0, none⟩)) := by
  obtain ⟨v, h1, h2⟩ := h.u; exact cells4_0 c h1

set_option maxHeartbeats 1000000 in
theorem digits_ok (c : Cx) (w : World) (pos k : Nat) (out : List Nat) (h : Up c w pos false out) (hk : k ≤ 16) (hl : pos + k ≤ 8 * c.bs.length) :
    Calls Tryd.prog 49 #[.pointer (some ⟨c.ub, 0, none⟩), .int .i64 (k : Int)] w fun e w' => e = .returned (.int .i64 (dig c.bs pos k : Nat)) ∧ Up c w' (pos + k) false out := by
  have c0 := h.c0
  have hget : Hid (Calls Tryd.prog 62 #[.pointer (some ⟨c.rb, 0, none⟩), .int .i64 (k : Int)] w fun e w' => e = .returned (.int .i64 (dig c.bs pos k : Nat)) ∧ Up c w' (pos + k) false out) := (get_has w c.rb c.bs pos k h.rd hk hl).mono fun e w' ⟨h1, h2, h3⟩ => ⟨h1, h.read h3 h2⟩
  have hbad : Hid (∀ w, Up c w (pos + k) false out → Calls Tryd.prog 64 #[.pointer (some ⟨c.rb, 0, none⟩)] w fun e w' => e = .returned (.bool false) ∧ w' = w) := fun w h => bad_walk w c.rb c.bs _ false h.rd
  have hn := mkHid need_true
  clear h
  go_enter Tryd.func49, Tryd.ntmps49
  go_wp2_with (first
    | (go_at_call 62; (with_reducible refine hget.out.mono ?_); rintro e w1 ⟨rfl, h1⟩
       have HU := mkHid h1
       have d0 := h1.c0
       clear h1 c0)
    | (go_at_call 64; (with_reducible refine (hbad.out _ HU.out).mono ?_); rintro e w2 ⟨rfl, hx⟩; subst hx)
    | (go_at_call 63; (with_reducible refine (hn.out _).mono ?_); rintro e w3 ⟨rfl, hx⟩; subst hx))
  go_ret
  exact ⟨rfl, HU.out⟩

set_option maxHeartbeats 1000000 in
theorem digits_bad (c : Cx) (w : World) (pos k : Nat) (out : List Nat) (h : Up c w pos false out) (hl : 8 * c.bs.length < pos + k) :
    Calls Tryd.prog 49 #[.pointer (some ⟨c.ub, 0, none⟩), .int .i64 (k : Int)] w fun e w' => e = Pn 2 ∧ Fz c w' := by
  have c0 := h.c0
  have hget : Hid (Calls Tryd.prog 62 #[.pointer (some ⟨c.rb, 0, none⟩), .int .i64 (k : Int)] w fun e w' => e = .returned (.int .i64 0) ∧ Up c w' pos true out) := (get_not w c.rb c.bs pos false k h.rd (fun ⟨_, _, _, h4⟩ => by omega)).mono fun e w' ⟨h1, h2, h3⟩ => ⟨h1, h.read h3 h2⟩
  have hbad : Hid (∀ w, Up c w pos true out → Calls Tryd.prog 64 #[.pointer (some ⟨c.rb, 0, none⟩)] w fun e w' => e = .returned (.bool true) ∧ w' = w) := fun w h => bad_walk w c.rb c.bs _ true h.rd
  have hn := mkHid need_false
  clear h
  go_enter Tryd.func49, Tryd.ntmps49
  go_wp2_with (first
    | (go_at_call 62; (with_reducible refine hget.out.mono ?_); rintro e w1 ⟨rfl, h1⟩
       have HU := mkHid h1
       have d0 := h1.c0
       clear h1 c0)
    | (go_at_call 64; (with_reducible refine (hbad.out _ HU.out).mono ?_); rintro e w2 ⟨rfl, hx⟩; subst hx)
    | (go_at_call 63; (with_reducible refine (hn.out _).mono ?_); rintro e w3 ⟨rfl, hx⟩; subst hx))
  exact ⟨rfl, rfl, HU.out.fz⟩

/-- So many digits, or that they end. -/
theorem digits_any (c : Cx) (w : World) (pos k : Nat) (out : List Nat) (h : Up c w pos false out) (hk : k ≤ 16) :
    Calls Tryd.prog 49 #[.pointer (some ⟨c.ub, 0, none⟩), .int .i64 (k : Int)] w fun e w' => (pos + k ≤ 8 * c.bs.length ∧ e = .returned (.int .i64 (dig c.bs pos k : Nat)) ∧ Up c w' (pos + k) false out) ∨ (8 * c.bs.length < pos + k ∧ e = Pn 2 ∧ Fz c w') := by
  by_cases hl : pos + k ≤ 8 * c.bs.length
  · exact (digits_ok c w pos k out h hk hl).mono fun e w' ⟨h1, h2⟩ => .inl ⟨hl, h1, h2⟩
  · exact (digits_bad c w pos k out h (by omega)).mono fun e w' ⟨h1, h2⟩ => .inr ⟨by omega, h1, h2⟩

/-- The sign that is next, or that there is none. -/
theorem sign_any (c : Cx) (w : World) (tb pos : Nat) (l out : List Nat) (h : Up c w pos false out) (ht : Tab c.w0 tb l) :
    Calls Tryd.prog 79 #[.pointer (some ⟨c.ub, 0, none⟩), .pointer (some ⟨tb, 0, none⟩)] w fun e w' => (∃ i, signAt l c.bs pos = some i ∧ e = .returned (.int .i64 (i : Nat)) ∧ Up c w' (pos + nth l i) false out) ∨ (signAt l c.bs pos = none ∧ e = Pn 2 ∧ Fz c w') := by
  have c0 := h.c0
  have hget : Hid (Calls Tryd.prog 84 #[.pointer (some ⟨tb, 0, none⟩), .pointer (some ⟨c.rb, 0, none⟩)] w fun e w' => (∃ i, signAt l c.bs pos = some i ∧ e = .returned (.tuple #[.int .i64 (i : Nat), .bool true]) ∧ Up c w' (pos + nth l i) false out) ∨ (signAt l c.bs pos = none ∧ e = .returned (.tuple #[.int .i64 0, .bool false]) ∧ Fz c w')) := by
    refine (get_walk w tb c.rb l c.bs pos (h.fz.tab ht) h.rd).mono ?_
    rintro e w' ⟨hg, ⟨i, h1, h2, h3⟩ | ⟨h1, h2, h3⟩⟩
    · exact .inl ⟨i, signAt_hit h1, h2, h.read hg h3⟩
    · refine .inr ⟨?_, h2, h.fz.grown h.r hg⟩
      cases e : signAt l c.bs pos with
      | none => rfl
      | some i => exact absurd (signAt_some e) (h1 i)
  have hn := mkHid need_false
  have hn2 := mkHid need_true
  clear h
  go_enter Tryd.func79, Tryd.ntmps79
  go_wp2_with (first
    | (go_at_call 84; (with_reducible refine hget.out.mono ?_); rintro e w1 h1
       have HU := mkHid h1
       clear h1 c0
       rcases HU.out with ⟨i, hs, rfl, hu⟩ | ⟨hs, rfl, hu⟩
       all_goals
         have HS := mkHid hs
         have HV := mkHid hu
         clear hs hu HU)
    | (go_at_call 63; (with_reducible refine (hn.out _).mono ?_); rintro e w3 ⟨rfl, hx⟩; subst hx)
    | (go_at_call 63; (with_reducible refine (hn2.out _).mono ?_); rintro e w3 ⟨rfl, hx⟩; subst hx))
  · go_ret
    exact .inl ⟨i, HS.out, rfl, HV.out⟩
  · exact ⟨rfl, .inr ⟨HS.out, rfl, HV.out⟩⟩

/-- The least one of a code, and what the digits behind it add. -/
theorem number_any (c : Cx) (w : World) (pos b k : Nat) (out : List Nat) (h : Up c w pos false out) (hk : k ≤ 16) (hb : b ≤ 100000) :
    Calls Tryd.prog 85 #[.pointer (some ⟨c.ub, 0, none⟩), .int .i64 (b : Int), .int .i64 (k : Int), .bool true] w fun e w' => (pos + k ≤ 8 * c.bs.length ∧ e = .returned (.int .i64 ((b + dig c.bs pos k : Nat) : Int)) ∧ Up c w' (pos + k) false out) ∨ (8 * c.bs.length < pos + k ∧ e = Pn 2 ∧ Fz c w') := by
  have hd := mkHid (digits_any c w pos k out h hk)
  have hn2 := mkHid need_true
  have hdl : dig c.bs pos k < 65536 := get_less _ _ _ hk
  have hdi : ((dig c.bs pos k : Nat) : Int) < 65536 := by omega
  obtain ⟨x, hx⟩ : ∃ x, x = dig c.bs pos k := ⟨_, rfl⟩
  rw [← hx] at hd hdi ⊢
  have hbi : (b : Int) ≤ 100000 := by omega
  clear h hx hdl
  go_enter Tryd.func85, Tryd.ntmps85
  go_wp2_with (first
    | (go_at_call 63; (with_reducible refine (hn2.out _).mono ?_); rintro e w3 ⟨rfl, hx⟩; subst hx)
    | (go_at_call 49; (with_reducible refine hd.out.mono ?_); rintro e w1 h1
       rcases h1 with ⟨hl, rfl, hu⟩ | ⟨hl, rfl, hu⟩
       all_goals
         have HS := mkHid hl
         have HV := mkHid hu
         clear hl hu))
  · go_ret
    refine .inl ⟨HS.out, ?_, HV.out⟩
    first | rfl | (congr 2; omega)
  · exact ⟨rfl, .inr ⟨HS.out, rfl, HV.out⟩⟩

theorem number_none (ub : Nat) (w : World) (b k : Int) :
    Calls Tryd.prog 85 #[.pointer (some ⟨ub, 0, none⟩), .int .i64 b, .int .i64 k, .bool false] w fun e w' => e = Pn 2 ∧ w' = w := by
  have hn := mkHid need_false
  go_enter Tryd.func85, Tryd.ntmps85
  go_wp2_with (first
    | (go_at_call 63; (with_reducible refine (hn.out _).mono ?_); rintro e w3 ⟨rfl, hx⟩; subst hx))
  exact ⟨rfl, rfl, rfl⟩

theorem slice_form {w : World} {B : Nat} {v : Value} {n : Nat} {xs : List Value} (h : w.ownsRow B 5 1 v n xs) : ∃ ao cap, v = .slice ao n cap ∧ (0 < n → ∃ g, ao = some ⟨g, 0, none⟩) := by
  rcases h.2 with ⟨rfl, hn⟩ | ⟨g, cap, cur, rfl, _⟩
  · exact ⟨none, 0, by rw [hn], fun h => by omega⟩
  · exact ⟨_, cap, rfl, fun _ => ⟨g, rfl⟩⟩

/-- Is there room for so many bytes more? -/
theorem room_any (c : Cx) (w : World) (pos k : Nat) (out : List Nat) (h : Up c w pos false out) (hk : k ≤ 100000) (ho : out.length ≤ 65536) :
    Calls Tryd.prog 78 #[.pointer (some ⟨c.ub, 0, none⟩), .int .i64 (k : Int)] w fun e w' => (out.length + k ≤ 65536 ∧ e = .returned (.tuple #[]) ∧ Up c w' pos false out) ∨ (65536 < out.length + k ∧ e = Pn 5 ∧ Fz c w') := by
  obtain ⟨v, h1, h2⟩ := h.u
  have c1 := cells4_1 c h1
  obtain ⟨ao, cap, rfl, -⟩ := slice_form h2
  obtain ⟨n, hn⟩ : ∃ n, n = out.length := ⟨_, rfl⟩
  rw [← hn] at c1 ho ⊢
  have HU := mkHid h
  have hki : (k : Int) ≤ 100000 := by omega
  have hni : (n : Int) ≤ 65536 := by omega
  clear h h1 h2 hn
  by_cases hr : n + k ≤ 65536
  · have hd : decide ((65536 : Int) < (n : Int) + k) = false := by simp; omega
    have HR := mkHid hr
    clear hr ho hk
    go_enter Tryd.func78, Tryd.ntmps78
    go_wp2
    go_end0
    exact .inl ⟨HR.out, rfl, HU.out⟩
  · have hd : decide ((65536 : Int) < (n : Int) + k) = true := by simp; omega
    have HR := mkHid hr
    clear hr ho hk
    go_enter Tryd.func78, Tryd.ntmps78
    go_wp2
    exact ⟨rfl, .inr ⟨by have := HR.out; omega, rfl, HU.out.fz⟩⟩

end Go.Proofs.YtdokpimhhkbdbaaDoor.Q
