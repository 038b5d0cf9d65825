/-
  One byte more behind the unpacker's bytes; a row.
-/
import Derived.Test.YtdokpimhhkbdbaaDoorUa
import Derived.Test.YtdokpimhhkbdbaaDoorBe
import Derived.Deep.RegionHeld3
import Derived.Deep.AppendLies
import Derived.Deep.DeepCutAuto
import Derived.Deep.RegionLaw
set_option linter.unusedSimpArgs false
set_option linter.unusedVariables false
namespace Go.Proofs.YtdokpimhhkbdbaaDoor.Q
open Go.RowKit

/-- The unpacker behind 'u.out = append(u.out, x)'. -/
theorem Up.push {c : Cx} {w w5 : World} {pos n g cap x : Nat} {bad : Bool} {out : List Nat} {v : Value} (h : Up c w pos bad out) (h1 : w.heap[c.ub]? = some (.cells (c.cells v) 59 (0, 0))) (h2 : w.ownsRow c.w0.heap.size 5 1 v out.length (out.map byteV)) (hn : out.length = n)
    (ho : w5.ownsRow c.w0.heap.size 5 1 (.slice (some ⟨g, 0, none⟩) (n + 1) cap) (n + 1) (out.map byteV ++ [.int .u8 (x : Int)])) (hf : Fr none v.ownBlock w w5) :
    Up c (w5.setCell ⟨c.ub, 1, none⟩ (.slice (some ⟨g, 0, none⟩) (n + 1) cap)) pos bad (out ++ [x]) := by
  subst hn
  have hub : v.ownBlock ≠ some c.ub := owns_ne h2 h1 (by decide)
  have hrb : v.ownBlock ≠ some c.rb := owns_ne h2 h.r (by decide)
  have hu5 : w5.heap[c.ub]? = some (.cells (c.cells v) 59 (0, 0)) := by rw [hf.block c.ub (lt_of_block h1) (by simp) hub.symm]; exact h1
  have hb := h.fz.rbu
  refine ⟨⟨h.fz.ok, hf.os.trans h.fz.os, hf.tape.trans h.fz.tape, hf.output.trans h.fz.output, by have := hf.size; have := h.fz.size; simp; omega, fun k hk k1 k2 => ?_, fun y hy => ?_⟩, ?_, ⟨.slice (some ⟨g, 0, none⟩) (out.length + 1) cap, ?_, ?_⟩, h.le⟩
  · rw [Below.heap_setCell _ _ _ _ k1, hf.block k (Nat.lt_of_lt_of_le hk h.fz.size) (by simp) (fun e => by have := (h2.lt k e.symm).1; omega)]
    exact h.fz.block k hk k1 k2
  · obtain ⟨a1, a2, a3, a4⟩ := h.fz.watch y hy
    refine ⟨a1, a2, a3, ?_⟩
    rw [Below.heap_setCell _ _ _ _ (blocks_ne a4 h1 a2), hf.block y.1 (lt_of_block a4) (by simp) (owns_ne h2 a4 a1).symm]
    exact a4
  · rw [Below.heap_setCell _ _ _ _ hb.1, hf.block c.rb (lt_of_block h.r) (by simp) hrb.symm]
    exact h.r
  · have := row_setCell hu5 1 (.slice (some ⟨g, 0, none⟩) (out.length + 1) cap)
    rw [this]
    rfl
  · have hne : (Value.slice (some ⟨g, 0, none⟩) (out.length + 1) cap).ownBlock ≠ some c.ub := owns_ne ho hu5 (by decide)
    have e : (out ++ [x]).length = out.length + 1 := by simp
    rw [e, List.map_append]
    exact owns_blk ho fun k cs hk _ => Below.heap_setCell _ _ _ _ (fun e => hne (by have e' : k = c.ub := e; rw [← e']; exact hk))

/-- One byte more, at a step of a region that draws. -/
theorem step_pushB {ops : Array Oper} {o : Oper} {a : Act} {w : World} {K : Act → World → Prop} {Q : Exit → Act → World → Prop} {E : Prop} (hgd : o.guard = none) (s x : Operand)
    (ho : o.op = .call { callee := .builtin .append, args := #[s, x], argTypes := #[22, 22] })
    (B : Nat) (v : Value) (n : Nat) (xs : List Value) (hs : a.eval s = v) (hown : w.ownsRow B 5 1 v n xs) (z : Int) (H : Nat) (hx : a.eval x = .slice (some ⟨H, 0, none⟩) 1 1)
    (hblk : w.heap[H]? = some (.cells #[.int .u8 z] 5 (0, 0)))
    (hn : n + 1 ≤ 140737488355328) (hB : B ≤ w.heap.size)
    (h : ∀ g cap w', w'.ownsRow B 5 1 (.slice (some ⟨g, 0, none⟩) (n + 1) cap) (n + 1) (xs ++ [.int .u8 z]) → Fr none v.ownBlock w w' → K (a.put o.dst (.slice (some ⟨g, 0, none⟩) (n + 1) cap)) w') :
    if Region.wanted o (yielded ops a.tmps) = true then Oper.wp Tryd.prog o a w K Q else E := by
  obtain ⟨i, hi, hz0, hz1, hz2⟩ := info_parts Tryd.info5
  refine step_append_lies w hgd s x 22 ho B 5 i _ 1 1 Lz.Tryd.underlying23 hi hz0 hz1 hz2 rfl (by decide) v n xs hs hown ⟨H, 0, none⟩ 1 1 [.int .u8 z] hx rfl ?_ ?_ (by decide) (by unfold maxLen; omega) (by omega) hB w.heap.size rfl ?_
  · intro j u hj
    match j, hj with
    | 0, hj => simp at hj; subst hj; simp [Addr.add, World.cell?, hblk]
  · intro u hu; simp at hu; subst hu; rfl
  · intro g cap w' ho2 hg hat hlt
    exact h g cap w' ho2 ⟨hg.os, hg.tape, hg.output, hg.size, fun k hk _ hy => hg.block k hk hy⟩

theorem below_h0 {B : Nat} {w w' : World} (h1 : w'.os = w.os) (h2 : w'.tape = w.tape) (h3 : w'.output = w.output) (h : w'.heap = w.heap) : Below B w w' :=
  ⟨h1, h2, h3, by rw [h]; exact Nat.le_refl _, fun k hk => by rw [h]⟩
theorem below_h1 {w w' : World} {x : Obj} (h1 : w'.os = w.os) (h2 : w'.tape = w.tape) (h3 : w'.output = w.output) (h : w'.heap = w.heap.push x) : Below w.heap.size w w' := by
  have a1 : Below w.heap.size w (w.alloc x) := (Below.refl _ _).alloc (Nat.le_refl _) _
  exact ⟨h1, h2, h3, by rw [h]; exact a1.size, fun k hk => by rw [h]; exact a1.block k hk⟩

theorem fr_mid {w w1 w5 : World} {y : Option Nat} (hf : Fr none y w1 w5) (h : Below w.heap.size w w1) : Fr none y w w5 := (Fr.ofBelow h).trans hf (.inl rfl)

/-- What a piece leaves. -/
def Left (c : Cx) (r : Res) (e : Ending) (w' : World) : Prop :=
  match r with
  | .ok (p, o) => e = .returned (.tuple #[]) ∧ Up c w' p false o ∧ o.length ≤ 65536
  | .error n => e = Pn n ∧ Fz c w'

theorem Left.less {c : Cx} {r : Res} {e : Ending} {w : World} {x : Nat × Array Value × TypeId} (h : Left (c.add x) r e w) : Left c r e w := by
  unfold Left at h ⊢
  split
  · rename_i p o
    exact ⟨h.1, h.2.1.less, h.2.2⟩
  · exact ⟨h.1, h.2.less⟩

theorem lenB_le (k : Nat) (h : k ≤ 28) : Lz.lenB k ≤ 300 ∧ Lz.lenN k ≤ 5 := by
  have : ∀ k, k ≤ 28 → Lz.lenB k ≤ 300 ∧ Lz.lenN k ≤ 5 := by decide
  exact this k h
theorem disB_le (k : Nat) (h : k ≤ 29) : Lz.disB k ≤ 32768 ∧ Lz.disN k ≤ 13 ∧ 1 ≤ Lz.disB k := by
  have : ∀ k, k ≤ 29 → Lz.disB k ≤ 32768 ∧ Lz.disN k ≤ 13 ∧ 1 ≤ Lz.disB k := by decide
  exact this k h

set_option maxRecDepth 100000 in
set_option maxHeartbeats 8000000 in
/-- The bytes of a row: so many from so far back. -/
theorem row_none (c : Cx) (w : World) (p s : Nat) (out : List Nat) (h : Up c w p false out) (hs : 285 < s) (td : Value) :
    Calls Tryd.prog 80 #[.pointer (some ⟨c.ub, 0, none⟩), .int .i64 (s : Int), td] w fun e w' => e = Pn 2 ∧ Fz c w' := by
  have h1 : Hid (∀ w, Calls Tryd.prog 71 #[.int .i64 (s : Int)] w fun e w' => e = .returned (.tuple #[.int .i64 0, .int .i64 0, .bool false]) ∧ w' = w) := Lz.lenOf_none s (by omega)
  have h2 : Hid (∀ w, Calls Tryd.prog 85 #[.pointer (some ⟨c.ub, 0, none⟩), .int .i64 0, .int .i64 0, .bool false] w fun e w' => e = Pn 2 ∧ w' = w) := fun w => number_none c.ub w 0 0
  have HU := mkHid h
  clear h
  go_enter Tryd.func80, Tryd.ntmps80
  go_wp2_with (first
    | (go_at_call 71; (with_reducible refine (h1.out _).mono ?_); rintro e w3 ⟨rfl, hx⟩; subst hx)
    | (go_at_call 85; (with_reducible refine (h2.out _).mono ?_); rintro e w3 ⟨rfl, hx⟩; subst hx))
  exact ⟨rfl, rfl, HU.out.fz⟩

theorem rowAt_e2 {bs out : List Nat} {p s : Nat} (h1 : ¬ 285 < s) (h2 : 8 * bs.length < p + Lz.lenN (s - 257)) : rowAt bs p out s = .error 2 := by
  unfold rowAt; rw [if_neg h1, if_pos h2]
theorem rowAt_e3 {bs out : List Nat} {p s : Nat} (h1 : ¬ 285 < s) (h2 : p + Lz.lenN (s - 257) ≤ 8 * bs.length) (h3 : signAt distsL bs (p + Lz.lenN (s - 257)) = none) : rowAt bs p out s = .error 2 := by
  unfold rowAt; rw [if_neg h1, if_neg (by omega), h3]
theorem rowAt_e4 {bs out : List Nat} {p s d : Nat} (h1 : ¬ 285 < s) (h2 : p + Lz.lenN (s - 257) ≤ 8 * bs.length) (h3 : signAt distsL bs (p + Lz.lenN (s - 257)) = some d) (h4 : 29 < d) : rowAt bs p out s = .error 2 := by
  unfold rowAt; rw [if_neg h1, if_neg (by omega), h3]; simp only; rw [if_pos h4]
theorem rowAt_e5 {bs out : List Nat} {p s d : Nat} (h1 : ¬ 285 < s) (h2 : p + Lz.lenN (s - 257) ≤ 8 * bs.length) (h3 : signAt distsL bs (p + Lz.lenN (s - 257)) = some d) (h4 : d ≤ 29) (h5 : 8 * bs.length < p + Lz.lenN (s - 257) + nth distsL d + Lz.disN d) : rowAt bs p out s = .error 2 := by
  unfold rowAt; rw [if_neg h1, if_neg (by omega), h3]; simp only; rw [if_neg (by omega), if_pos h5]
theorem rowAt_e6 {bs out : List Nat} {p s d : Nat} (h1 : ¬ 285 < s) (h2 : p + Lz.lenN (s - 257) ≤ 8 * bs.length) (h3 : signAt distsL bs (p + Lz.lenN (s - 257)) = some d) (h4 : d ≤ 29) (h5 : p + Lz.lenN (s - 257) + nth distsL d + Lz.disN d ≤ 8 * bs.length)
    (h6 : out.length < Lz.disB d + dig bs (p + Lz.lenN (s - 257) + nth distsL d) (Lz.disN d)) : rowAt bs p out s = .error 2 := by
  unfold rowAt; rw [if_neg h1, if_neg (by omega), h3]; simp only; rw [if_neg (by omega), if_neg (by omega), if_pos h6]
theorem rowAt_e7 {bs out : List Nat} {p s d : Nat} (h1 : ¬ 285 < s) (h2 : p + Lz.lenN (s - 257) ≤ 8 * bs.length) (h3 : signAt distsL bs (p + Lz.lenN (s - 257)) = some d) (h4 : d ≤ 29) (h5 : p + Lz.lenN (s - 257) + nth distsL d + Lz.disN d ≤ 8 * bs.length)
    (h6 : Lz.disB d + dig bs (p + Lz.lenN (s - 257) + nth distsL d) (Lz.disN d) ≤ out.length) (h7 : 65536 < out.length + (Lz.lenB (s - 257) + dig bs p (Lz.lenN (s - 257)))) : rowAt bs p out s = .error 5 := by
  unfold rowAt; rw [if_neg h1, if_neg (by omega), h3]; simp only; rw [if_neg (by omega), if_neg (by omega), if_neg (by omega), if_pos h7]
theorem rowAt_ok {bs out : List Nat} {p s d : Nat} (h1 : ¬ 285 < s) (h2 : p + Lz.lenN (s - 257) ≤ 8 * bs.length) (h3 : signAt distsL bs (p + Lz.lenN (s - 257)) = some d) (h4 : d ≤ 29) (h5 : p + Lz.lenN (s - 257) + nth distsL d + Lz.disN d ≤ 8 * bs.length)
    (h6 : Lz.disB d + dig bs (p + Lz.lenN (s - 257) + nth distsL d) (Lz.disN d) ≤ out.length) (h7 : out.length + (Lz.lenB (s - 257) + dig bs p (Lz.lenN (s - 257))) ≤ 65536) :
    rowAt bs p out s = .ok (p + Lz.lenN (s - 257) + nth distsL d + Lz.disN d, Lz.rowOf out (Lz.disB d + dig bs (p + Lz.lenN (s - 257) + nth distsL d) (Lz.disN d)) (Lz.lenB (s - 257) + dig bs p (Lz.lenN (s - 257)))) := by
  unfold rowAt; rw [if_neg h1, if_neg (by omega), h3]; simp only; rw [if_neg (by omega), if_neg (by omega), if_neg (by omega), if_neg (by omega)]

theorem disOf_ex (d : Nat) (hd : d ≤ 29) : ∃ db dn : Nat, Hid (Lz.disB d = db ∧ Lz.disN d = dn ∧ dn ≤ 13 ∧ db ≤ 32768 ∧ 1 ≤ db) ∧ Hid (∀ w, Calls Tryd.prog 72 #[.int .i64 (d : Int)] w fun e w' => e = .returned (.tuple #[.int .i64 (db : Int), .int .i64 (dn : Int), .bool true]) ∧ w' = w) :=
  ⟨_, _, ⟨rfl, rfl, (disB_le d hd).2.1, (disB_le d hd).1, (disB_le d hd).2.2⟩, fun w => Lz.disOf_walk d hd w⟩

/-- The distance's sign, and what it stands for. -/
theorem sign_dist (c : Cx) (w : World) (pos : Nat) (out : List Nat) (h : Up c w pos false out) :
    Calls Tryd.prog 79 #[.pointer (some ⟨c.ub, 0, none⟩), .pointer (some ⟨c.td, 0, none⟩)] w fun e w' =>
      (∃ d db dn : Nat, Hid (signAt distsL c.bs pos = some d ∧ d ≤ 29) ∧ Hid (Lz.disB d = db ∧ Lz.disN d = dn ∧ dn ≤ 13 ∧ db ≤ 32768 ∧ 1 ≤ db) ∧ Hid (∀ w, Calls Tryd.prog 72 #[.int .i64 (d : Int)] w fun e w' => e = .returned (.tuple #[.int .i64 (db : Int), .int .i64 (dn : Int), .bool true]) ∧ w' = w) ∧ e = .returned (.int .i64 (d : Nat)) ∧ Hid (Up c w' (pos + nth distsL d) false out)) ∨
      (∃ d : Nat, Hid (signAt distsL c.bs pos = some d ∧ 29 < d) ∧ Hid (∀ w, Calls Tryd.prog 72 #[.int .i64 (d : Int)] w fun e w' => e = .returned (.tuple #[.int .i64 0, .int .i64 0, .bool false]) ∧ w' = w) ∧ e = .returned (.int .i64 (d : Nat)) ∧ Hid (Up c w' (pos + nth distsL d) false out)) ∨
      (Hid (signAt distsL c.bs pos = none) ∧ e = Pn 2 ∧ Hid (Fz c w')) := by
  refine (sign_any c w c.td pos distsL out h h.fz.ok.td).mono ?_
  rintro e w' (⟨d, h1, h2, h3⟩ | ⟨h1, h2, h3⟩)
  · by_cases hd : d ≤ 29
    · obtain ⟨db, dn, h4, h5⟩ := disOf_ex d hd
      exact .inl ⟨d, db, dn, ⟨h1, hd⟩, h4, h5, h2, h3⟩
    · exact .inr (.inl ⟨d, ⟨h1, by omega⟩, fun w => Lz.disOf_none (d : Int) (.inr (by omega)) w, h2, h3⟩)
  · exact .inr (.inr ⟨h1, h2, h3⟩)

set_option maxRecDepth 100000 in
set_option maxHeartbeats 8000000 in
theorem row_any (c : Cx) (w : World) (p s : Nat) (out : List Nat) (h : Up c w p false out) (hs : 257 ≤ s) (ho : out.length ≤ 65536) :
    Calls Tryd.prog 80 #[.pointer (some ⟨c.ub, 0, none⟩), .int .i64 (s : Int), .pointer (some ⟨c.td, 0, none⟩)] w fun e w' => Left c (rowAt c.bs p out s) e w' := by
  by_cases h285 : 285 < s
  · refine (row_none c w p s out h h285 _).mono ?_
    rintro e w' ⟨h1, h2⟩
    unfold Left rowAt
    rw [if_pos h285]
    exact ⟨h1, h2⟩
  have hb := lenB_le (s - 257) (by omega)
  have h1 : Hid (∀ w, Calls Tryd.prog 71 #[.int .i64 (s : Int)] w fun e w' => e = .returned (.tuple #[.int .i64 (Lz.lenB (s - 257) : Nat), .int .i64 (Lz.lenN (s - 257) : Nat), .bool true]) ∧ w' = w) := fun w => Lz.lenOf_walk (s - 257) s (by omega) (by omega) w
  have E2 := mkHid (fun h2 => rowAt_e2 (bs := c.bs) (out := out) (p := p) h285 h2)
  have E3 := mkHid (fun h2 h3 => rowAt_e3 (bs := c.bs) (out := out) (p := p) h285 h2 h3)
  have E4 := mkHid (fun d h2 h3 h4 => rowAt_e4 (bs := c.bs) (out := out) (p := p) (d := d) h285 h2 h3 h4)
  have E5 := mkHid (fun d h2 h3 h4 h5 => rowAt_e5 (bs := c.bs) (out := out) (p := p) (d := d) h285 h2 h3 h4 h5)
  have E6 := mkHid (fun d h2 h3 h4 h5 h6 => rowAt_e6 (bs := c.bs) (out := out) (p := p) (d := d) h285 h2 h3 h4 h5 h6)
  have E7 := mkHid (fun d h2 h3 h4 h5 h6 h7 => rowAt_e7 (bs := c.bs) (out := out) (p := p) (d := d) h285 h2 h3 h4 h5 h6 h7)
  have E8 := mkHid (fun d h2 h3 h4 h5 h6 h7 => rowAt_ok (bs := c.bs) (out := out) (p := p) (d := d) h285 h2 h3 h4 h5 h6 h7)
  obtain ⟨lb, hlb⟩ : ∃ lb, lb = Lz.lenB (s - 257) := ⟨_, rfl⟩
  obtain ⟨ln, hln⟩ : ∃ ln, ln = Lz.lenN (s - 257) := ⟨_, rfl⟩
  rw [← hlb, ← hln] at hb h1 E7 E8
  rw [← hln] at E2 E3 E4 E5 E6
  obtain ⟨R, hR⟩ : ∃ R, R = rowAt c.bs p out s := ⟨_, rfl⟩
  rw [← hR] at E2 E3 E4 E5 E6 E7 E8 ⊢
  have hn1 := mkHid (number_any c w p lb ln out h (by omega) (by omega))
  have hdl : dig c.bs p ln < 65536 := get_less _ _ _ (by omega)
  obtain ⟨L, hL⟩ : ∃ L, L = lb + dig c.bs p ln := ⟨_, rfl⟩
  rw [← hL] at hn1 E7 E8
  have HLs : Hid (L ≤ 66000) := by show _ ≤ _; omega
  have hsg := mkHid (fun w h => sign_dist c w (p + ln) out h)
  have hnum := mkHid (fun w pos b k h hk hb => number_any c w pos b k out h hk hb)
  have hnn := mkHid (fun w => number_none c.ub w 0 0)
  have hnt := mkHid need_true
  have hnf := mkHid need_false
  have hrm := mkHid (fun w pos h => room_any c w pos L out h (by omega) ho)
  have HO := mkHid ho
  clear h hlb hln hR hdl hL hs h285 hb ho
  go_enter Tryd.func80, Tryd.ntmps80
  go_upto_region 2 with (first
    | (go_at_call 71; (with_reducible refine (h1.out _).mono ?_); rintro e w3 ⟨rfl, hx⟩; subst hx)
    | (go_at_call 85; (with_reducible refine hn1.out.mono ?_); rintro e w1 hq
       clear hn1
       rcases hq with ⟨hl, rfl, hu⟩ | ⟨hl, rfl, hu⟩
       all_goals
         have H1 := mkHid hl
         have HU := mkHid hu
         clear hl hu)
    | (go_at_call 79; (with_reducible refine (hsg.out _ HU.out).mono ?_)
       rintro e w2 (⟨d, db, dn, H2, H4, hd2, rfl, HV⟩ | ⟨d, H2, hd3, rfl, HV⟩ | ⟨H2, rfl, HV⟩))
    | (go_at_call 72; (with_reducible refine (hd2.out _).mono ?_); rintro e w3 ⟨rfl, hx⟩; subst hx)
    | (go_at_call 72; (with_reducible refine (hd3.out _).mono ?_); rintro e w3 ⟨rfl, hx⟩; subst hx)
    | (go_at_call 85; (with_reducible refine (hnum.out _ _ _ _ HV.out (by have := H4.out; omega) (by have := H4.out; omega)).mono ?_); rintro e w4 hq
       rcases hq with ⟨hl, rfl, hu⟩ | ⟨hl, rfl, hu⟩
       all_goals
         have H5 := mkHid hl
         have HW := mkHid hu
         clear hl hu)
    | (go_at_call 85; (with_reducible refine (hnn.out _).mono ?_); rintro e w4 ⟨rfl, hx⟩; subst hx))
  rotate_left 1
  · exact ⟨rfl, by rw [E5.out d H1.out H2.out.1 H2.out.2 (by rw [H4.out.2.1]; exact H5.out)]; exact ⟨rfl, HW.out⟩⟩
  · exact ⟨rfl, by rw [E4.out d H1.out H2.out.1 H2.out.2]; exact ⟨rfl, HV.out.fz⟩⟩
  · exact ⟨rfl, by rw [E3.out H1.out H2.out]; exact ⟨rfl, HV.out⟩⟩
  · exact ⟨rfl, by rw [E2.out H1.out]; exact ⟨rfl, HU.out⟩⟩
  obtain ⟨D, hD⟩ : ∃ D, D = db + dig c.bs (p + ln + nth distsL d) dn := ⟨_, rfl⟩
  have HD : Hid (D = Lz.disB d + dig c.bs (p + ln + nth distsL d) (Lz.disN d) ∧ 1 ≤ D) := ⟨by rw [hD, H4.out.1, H4.out.2.1], by have := H4.out; omega⟩
  have HP5 : Hid (p + ln + nth distsL d + Lz.disN d ≤ 8 * c.bs.length) := by show _ ≤ _; rw [H4.out.2.1]; exact H5.out
  have HDl : Hid (D ≤ 140000) := by
    show _ ≤ _
    have := H4.out
    have : dig c.bs (p + ln + nth distsL d) dn < 65536 := get_less _ _ _ (by omega)
    omega
  rw [show (db : Int) + ((dig c.bs (p + ln + nth distsL d) dn : Nat) : Int) = (D : Int) by rw [hD]; push_cast; rfl]
  clear hD hsg hnum hnn E2 E3 E4 E5 hd2 HV HU h1
  obtain ⟨v, hv1, hv2⟩ := HW.out.u
  have c1 := cells4_1 c hv1
  obtain ⟨ao, cap, rfl, hao⟩ := slice_form hv2
  obtain ⟨n, hn⟩ : ∃ n, n = out.length := ⟨_, rfl⟩
  rw [← hn] at c1
  have HN := mkHid hn
  clear hv1 hv2 hao hn
  by_cases hDn : D ≤ n
  · have hdd : decide (D ≤ n) = true := by simp; omega
    have HDN := mkHid hDn
    clear hDn
    go_upto_region 4 with (first
      | (go_at_call 63; (with_reducible refine (hnt.out _).mono ?_); rintro e w5 ⟨rfl, hx⟩; subst hx)
      | (go_at_call 78; (with_reducible refine (hrm.out _ _ HW.out).mono ?_); rintro e w6 hq
         rcases hq with ⟨hl, rfl, hu⟩ | ⟨hl, rfl, hu⟩
         all_goals
           have H7 := mkHid hl
           have HX := mkHid hu
           clear hl hu))
    rotate_left 1
    · refine ⟨rfl, ?_⟩
      rw [E7.out d H1.out H2.out.1 H2.out.2 HP5.out (by rw [← HD.out.1, ← HN.out]; exact HDN.out) H7.out]
      exact ⟨rfl, HX.out⟩
    have HE := mkHid (E8.out d H1.out H2.out.1 H2.out.2 HP5.out (by rw [← HD.out.1, ← HN.out]; exact HDN.out) H7.out)
    rw [← HD.out.1] at HE
    have HX2 : Hid (Up c w6 (p + ln + nth distsL d + Lz.disN d) false out) := by have := HX.out; rw [H4.out.2.1]; exact this
    obtain ⟨P5, hP5⟩ : ∃ P5, P5 = p + ln + nth distsL d + Lz.disN d := ⟨_, rfl⟩
    rw [← hP5] at HE HX2
    have HM : Hid (n + L ≤ 65536) := by rw [HN.out]; exact H7.out
    have hLi : (L : Int) ≤ 70000 := by have := HM.out; omega
    have HD1 : Hid (1 ≤ D ∧ D ≤ n) := ⟨HD.out.2, HDN.out⟩
    clear E6 E7 E8 hrm hnt hnf HX HW H7 hP5 c1 hdd HDN HP5 HD HDl H4 H5 H2 H1
    go_wp2
    go_loopw [36] (fun i wr => ∃ (k : Nat), k ≤ L ∧ i = .int .i64 (k : Int) ∧ Hid (Up c wr P5 false (Lz.rowOf out D k))) (fun i _ => L - (intOf i).toNat)
    case atStart => exact ⟨0, by omega, rfl, HX2⟩
    case round =>
      obtain ⟨k, hk, rfl, HU⟩ := hrel
      clear HX2
      by_cases hkL : k < L
      · obtain ⟨v, hv1, hv2⟩ := HU.out.u
        have c1 := cells4_1 c hv1
        have z1 := free_at hv1 1
        obtain ⟨ao2, cap2, rfl, hao⟩ := slice_form hv2
        obtain ⟨m, hm⟩ : ∃ m, m = (Lz.rowOf out D k).length := ⟨_, rfl⟩
        have hmn : m = n + k := by rw [hm, Lz.rowOf_len, HN.out]
        obtain ⟨g, rfl⟩ := hao (by rw [← hm]; have := HD1.out; omega)
        have hb8 := Lz.byte_at (n := m) hm.symm (by rw [hm]; exact hv2) (m - D) (by have := HD1.out; omega)
        obtain ⟨x, hx⟩ : ∃ x, x = (Lz.rowOf out D k).getD (m - D) 0 := ⟨_, rfl⟩
        rw [← hx] at hb8
        have HX9 : Hid (Lz.rowOf out D k ++ [x] = Lz.rowOf out D (k + 1)) := by
          show _ = _
          simp only [Lz.rowOf]
          rw [hx, ← hm]
        have hne := owns_ne hv2 hv1 (by decide)
        rw [← hm] at c1 hv1
        have HV1 := mkHid hv1
        have HV2 : Hid (World.ownsRow wr c.w0.heap.size 5 1 (.slice (some ⟨g, 0, none⟩) m cap2) m ((Lz.rowOf out D k).map byteV)) := by rw [hm]; exact hv2
        have HV3 := mkHid hv2
        have HMM := mkHid hm
        obtain ⟨J, hJ⟩ : ∃ J, J = m - D := ⟨_, rfl⟩
        rw [← hJ] at hb8
        have hJm : (J : Int) < m := by have := HD1.out; omega
        have hwr : IntKind.i64.wrap ((m : Int) - D) = (J : Int) := by
          have := HM.out; have := HD1.out
          rw [IntKind.wrap_i64]; omega
        clear hJ
        have hm1 : m + 1 ≤ 140737488355328 := by have := HM.out; omega
        have hsz : c.w0.heap.size ≤ wr.heap.size := HU.out.fz.size
        have HNE := mkHid hne
        have c1a : ∀ o : Obj, (wr.alloc o).cell? ⟨c.ub, 1, none⟩ = some (.slice (some ⟨g, 0, none⟩) m cap2) := fun o => cell_old ((Below.refl _ _).alloc (Nat.le_refl _) _) c1
        clear hv1 hv2 hao hx hm hmn hne
        go_wp2
        go_region_law ((refine step_pushB (by rfl) (.tmp 42) (.tmp 56) (by rfl) c.w0.heap.size (.slice (some ⟨g, 0, none⟩) m cap2) m _ (by rfl) (by first | exact HV2.out.alloc _ | fail) (x : Int) _ (by rfl) (by first | exact heap_alloc_new _ _ | fail) hm1 (by first | (simp; omega) | fail) ?_
                        intro g5 cap5 w5 ho5 hf5
                        have HO5 := mkHid ho5
                        have HF5 : Hid (Fr none (Value.slice (some ⟨g, 0, none⟩) m cap2).ownBlock wr w5) := fr_mid hf5 (below_h1 rfl rfl rfl rfl)
                        have hu5 : w5.heap[c.ub]? = some (.cells (c.cells (.slice (some ⟨g, 0, none⟩) m cap2)) 59 (0, 0)) := by rw [HF5.out.block c.ub (lt_of_block HV1.out) (by simp) HNE.out.symm]; exact HV1.out
                        have d1 := cells4_1 c hu5
                        have d2 := free_at hu5 1
                        clear ho5 hf5 hu5))
        all_goals go_wp2
        all_goals
          refine ⟨⟨k + 1, by omega, by go_num, ?_⟩, by simp [intOf]; omega⟩
          show Up _ _ _ _ _
          rw [← HX9.out]
          have hm := HMM.out
          subst hm
          exact HU.out.push HV1.out HV2.out rfl HO5.out HF5.out
      · have hkk : k = L := by omega
        subst hkk
        go_wp2
        go_end0
        rw [HE.out]
        exact ⟨rfl, HU.out, by rw [Lz.rowOf_len, ← HN.out]; exact HM.out⟩
  · have hdd : decide (D ≤ n) = false := by simp; omega
    have HDN := mkHid hDn
    clear hDn
    go_wp2_with (first
      | (go_at_call 63; (with_reducible refine (hnf.out _).mono ?_); rintro e w5 ⟨rfl, hx⟩; subst hx))
    refine ⟨rfl, ?_⟩
    rw [E6.out d H1.out H2.out.1 H2.out.2 HP5.out (by rw [← HD.out.1, ← HN.out]; have := HDN.out; omega)]
    exact ⟨rfl, HW.out.fz⟩

end Go.Proofs.YtdokpimhhkbdbaaDoor.Q
