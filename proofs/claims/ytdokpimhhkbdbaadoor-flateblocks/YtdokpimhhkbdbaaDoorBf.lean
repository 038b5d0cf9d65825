/-
  The state of what Fixed writes; one step put (codes.put). codes.put. What Fixed writes, in plain numbers; each step that Split tells may be put. flate.Fixed.
-/
import Derived.Test.YtdokpimhhkbdbaaDoorXa
import Derived.Test.YtdokpimhhkbdbaaDoorUh
set_option linter.unusedSimpArgs false
set_option linter.unusedVariables false
namespace Go.Proofs.YtdokpimhhkbdbaaDoor
open Go.RowKit

/-- The writer at p, all that was there before it, and blocks that stand. S: the number written and how many digits it has. -/
structure Fx (p : Nat) (w3 w : World) (S : Nat × Nat) (ws : List (Nat × Array Value × TypeId)) : Prop where
  wr : ∃ v, Wv p w v S.1 S.2 ∧ ∀ j, v.ownBlock = some j → p ≤ j
  below : Below p w3 w
  lt : p < w.heap.size
  watch : ∀ x ∈ ws, x.2.2 ≠ 5 ∧ x.2.2 ≠ 84 ∧ w.heap[x.1]? = some (.cells x.2.1 x.2.2 (0, 0))

theorem Fx.old {p : Nat} {w3 w w' : World} {S : Nat × Nat} {ws : List (Nat × Array Value × TypeId)} (h : Fx p w3 w S ws) (hb : Below w.heap.size w w') : Fx p w3 w' S ws := by
  obtain ⟨⟨v, hv, hj⟩, hbl, hlt, hws⟩ := h
  exact ⟨⟨v, hv.old hb, hj⟩, hbl.trans (hb.mono (by omega)), Nat.lt_of_lt_of_le hlt hb.size, fun x hx => ⟨(hws x hx).1, (hws x hx).2.1, by rw [hb.block _ (lt_of_block (hws x hx).2.2)]; exact (hws x hx).2.2⟩⟩

theorem Fx.add {p : Nat} {w3 w : World} {S : Nat × Nat} {ws : List (Nat × Array Value × TypeId)} (h : Fx p w3 w S ws) (g : Nat) (c : Array Value) (T : TypeId) (h5 : T ≠ 5) (h84 : T ≠ 84) (hg : w.heap[g]? = some (.cells c T (0, 0))) : Fx p w3 w S ((g, c, T) :: ws) :=
  ⟨h.wr, h.below, h.lt, fun x hx => by
    rcases List.mem_cons.1 hx with rfl | hx
    · exact ⟨h5, h84, hg⟩
    · exact h.watch x hx⟩

theorem Fx.drop {p : Nat} {w3 w : World} {S : Nat × Nat} {ws : List (Nat × Array Value × TypeId)} {x : Nat × Array Value × TypeId} (h : Fx p w3 w S (x :: ws)) : Fx p w3 w S ws :=
  ⟨h.wr, h.below, h.lt, fun y hy => h.watch y (List.mem_cons_of_mem _ hy)⟩

/-- Digits behind those that are written. -/
def wadd (S x : Nat × Nat) : Nat × Nat := (S.1 + x.1 * 2 ^ S.2, S.2 + x.2)

def sigP (l : List Nat) (s : Nat) : Nat × Nat := (rev (code l s : Nat) (nth l s) (nth l s), nth l s)
def lowP (n c : Nat) : Nat × Nat := (low (n : Int) c, c)

theorem Fx.turn {p : Nat} {w3 w w' : World} {S S' : Nat × Nat} {ws : List (Nat × Array Value × TypeId)} {v v' : Value} (h : Fx p w3 w S ws) (hv : Wv p w v S.1 S.2) (hj : ∀ j, v.ownBlock = some j → p ≤ j) (hv' : Wv p w' v' S'.1 S'.2) (hkin : Kin w v v') (hf : Fr (some p) v.ownBlock w w') : Fx p w3 w' S' ws := by
  have hlt := h.lt
  obtain ⟨bs, hpp, hown, _⟩ := id hv
  refine ⟨⟨v', hv', fun j hj' => ?_⟩, h.below.trans (hf.below (by omega) (fun j hj' => by cases hj'; exact Nat.le_refl _) hj), Nat.lt_of_lt_of_le hlt hf.size, fun x hx => ?_⟩
  · rcases hkin with e | e
    · exact hj j (by rw [← e]; exact hj')
    · have := e j hj'; omega
  · obtain ⟨a1, a2, a3⟩ := h.watch x hx
    refine ⟨a1, a2, ?_⟩
    rw [hf.block x.1 (lt_of_block a3) (by simpa using blocks_ne a3 hpp a2) (fun e => owns_ne hown a3 a1 e.symm)]
    exact a3

theorem Fx.sig {p tb : Nat} {w3 w : World} {S : Nat × Nat} {ws : List (Nat × Array Value × TypeId)} {l : List Nat} (h : Fx p w3 w S ws) (hp : p = w3.heap.size) (ht : Tab w3 tb l) (s : Nat) (hs : s < l.length) (h0 : 0 < nth l s) (hT : S.2 < 900000) :
    Calls Tryd.prog 42 #[.pointer (some ⟨tb, 0, none⟩), .pointer (some ⟨p, 0, none⟩), .int .i64 (s : Int)] w fun e w' => e = .returned (.bool true) ∧ Fx p w3 w' (wadd S (sigP l s)) ws := by
  obtain ⟨v, hv, hj⟩ := h.wr
  refine (tput_fr p tb w v l s S.1 S.2 (ht.old (hp ▸ h.below)) hv hs h0 hT).mono ?_
  rintro e w' ⟨rfl, v', hv', hkin, hf⟩
  exact ⟨rfl, h.turn hv hj hv' hkin hf⟩

theorem Fx.low {p : Nat} {w3 w : World} {S : Nat × Nat} {ws : List (Nat × Array Value × TypeId)} (h : Fx p w3 w S ws) (n c : Nat) (hc : c ≤ 16) (hT : S.2 < 900000) :
    Calls Tryd.prog 39 #[.pointer (some ⟨p, 0, none⟩), .int .i64 (n : Int), .int .i64 (c : Int)] w fun e w' => e = .returned (.tuple #[]) ∧ Fx p w3 w' (wadd S (lowP n c)) ws := by
  obtain ⟨v, hv, hj⟩ := h.wr
  refine (put_fr p w v S.1 S.2 n c hv hc hT).mono ?_
  rintro e w' ⟨rfl, v', hv', hkin, hf⟩
  exact ⟨rfl, h.turn hv hj hv' hkin hf⟩

theorem lits_pos : ∀ s, s < 288 → 0 < nth litsL s ∧ nth litsL s ≤ 9 := by decide +kernel
theorem dists_pos : ∀ s, s < 32 → nth distsL s = 5 := by decide +kernel
theorem lenN_le : ∀ c, c ≤ 28 → Lz.lenN c ≤ 5 := by decide
theorem disN_le : ∀ c, c ≤ 29 → Lz.disN c ≤ 13 := by decide

def lenC (n : Nat) : Nat := Lz.topOf Lz.lenB n 28
def disC (n : Nat) : Nat := Lz.topOf Lz.disB n 29

/-- What a step is written as. -/
def putL (S : Nat × Nat) (b : Nat) : Nat × Nat := wadd S (sigP litsL b)
def putR (S : Nat × Nat) (n d : Nat) : Nat × Nat :=
  wadd (wadd (wadd (wadd S (sigP litsL (257 + lenC n))) (lowP (n - Lz.lenB (lenC n)) (Lz.lenN (lenC n)))) (sigP distsL (disC d))) (lowP (d - Lz.disB (disC d)) (Lz.disN (disC d)))

theorem putL_len (S : Nat × Nat) (b : Nat) (hb : b < 256) : (putL S b).2 ≤ S.2 + 9 := by
  have := lits_pos b (by omega)
  simp [putL, wadd, sigP]; omega

theorem putR_len (S : Nat × Nat) (n d : Nat) : (putR S n d).2 ≤ S.2 + 40 := by
  have h1 := Lz.topOf_le Lz.lenB n 28
  have h2 := Lz.topOf_le Lz.disB d 29
  have h3 := lits_pos (257 + lenC n) (by unfold lenC; omega)
  have h4 := dists_pos (disC d) (by unfold disC; omega)
  have h5 := lenN_le (lenC n) h1
  have h6 := disN_le (disC d) h2
  simp [putR, wadd, sigP, lowP]; omega

theorem Fx.two {p : Nat} {w3 w : World} {S : Nat × Nat} {ws : List (Nat × Array Value × TypeId)} (h : Fx p w3 w S ws) (c d : Array Value) : Fx p w3 ((w.alloc (.cells c 56)).alloc (.cells d 71)) S ((w.heap.size, c, 56) :: (w.heap.size + 1, d, 71) :: ws) := by
  have hb : Below w.heap.size w ((w.alloc (.cells c 56)).alloc (.cells d 71)) := ((Below.refl _ _).alloc (Nat.le_refl _) _).alloc (by simp) _
  have h1 := h.old hb
  have g2 : ((w.alloc (.cells c 56)).alloc (.cells d 71)).heap[w.heap.size + 1]? = some (.cells d 71 (0, 0)) := by
    have := heap_alloc_new (w.alloc (.cells c 56)) (.cells d 71)
    simpa using this
  have g1 : ((w.alloc (.cells c 56)).alloc (.cells d 71)).heap[w.heap.size]? = some (.cells c 56 (0, 0)) := by
    rw [Below.heap_alloc _ _ _ (by simp)]
    exact heap_alloc_new w _
  exact (h1.add _ d 71 (by decide) (by decide) g2).add _ c 56 (by decide) (by decide) g1

theorem Fx.at0 {p : Nat} {w3 w : World} {S : Nat × Nat} {ws : List (Nat × Array Value × TypeId)} {x : Nat × Array Value × TypeId} (h : Fx p w3 w S (x :: ws)) : w.heap[x.1]? = some (.cells x.2.1 x.2.2 (0, 0)) := (h.watch x (List.mem_cons_self ..)).2.2

end Go.Proofs.YtdokpimhhkbdbaaDoor

set_option linter.unusedSimpArgs false
set_option linter.unusedVariables false
namespace Go.Proofs.YtdokpimhhkbdbaaDoor
open Go.RowKit

abbrev cAgg (tl td : Nat) : Value := .agg #[.pointer (some ⟨tl, 0, none⟩), .pointer (some ⟨td, 0, none⟩)]

set_option maxRecDepth 100000 in
set_option maxHeartbeats 4000000 in
theorem cput_lit (p tl td : Nat) (w3 w : World) (S : Nat × Nat) (ws : List (Nat × Array Value × TypeId)) (h : Fx p w3 w S ws) (hp : p = w3.heap.size) (hl : Tab w3 tl litsL) (b : Nat) (hb : b < 256) (hT : S.2 < 800000) :
    Calls Tryd.prog 41 #[cAgg tl td, .pointer (some ⟨p, 0, none⟩), .agg #[.int .u8 (b : Int), .int .i64 0, .int .i64 0]] w fun e w' => e = .returned (.tuple #[]) ∧ Fx p w3 w' (putL S b) ws := by
  have hF := h.two #[.pointer (some ⟨tl, 0, none⟩), .pointer (some ⟨td, 0, none⟩)] #[.int .u8 (b : Int), .int .i64 0, .int .i64 0]
  have hs : Hid (Calls Tryd.prog 42 #[.pointer (some ⟨tl, 0, none⟩), .pointer (some ⟨p, 0, none⟩), .int .i64 (b : Int)] ((w.alloc (.cells #[.pointer (some ⟨tl, 0, none⟩), .pointer (some ⟨td, 0, none⟩)] 56)).alloc (.cells #[.int .u8 (b : Int), .int .i64 0, .int .i64 0] 71)) fun e w' => e = .returned (.bool true) ∧ Fx p w3 w' (putL S b) ws) :=
    (hF.sig hp hl b (by rw [lits_len]; omega) (lits_pos b (by omega)).1 (by omega)).mono fun e w' ⟨e1, e2⟩ => ⟨e1, e2.drop.drop⟩
  clear hF h hp hl hT
  go_enter Tryd.func41, Tryd.ntmps41
  go_wp2_with (go_at_call 42; (with_reducible refine hs.out.mono ?_); rintro e w5 ⟨rfl, h5⟩)
  refine bodyPost_ret (results_none rfl _ _ _) rfl ?_
  exact ⟨rfl, h5⟩

set_option maxRecDepth 100000 in
set_option maxHeartbeats 4000000 in
theorem cput_row (p tl td : Nat) (w3 w : World) (S : Nat × Nat) (ws : List (Nat × Array Value × TypeId)) (h : Fx p w3 w S ws) (hp : p = w3.heap.size) (hl : Tab w3 tl litsL) (hd : Tab w3 td distsL) (n d : Nat) (hn3 : 3 ≤ n) (hn : n ≤ 258) (hd1 : 1 ≤ d) (hd2 : d ≤ 32768) (hT : S.2 < 800000) :
    Calls Tryd.prog 41 #[cAgg tl td, .pointer (some ⟨p, 0, none⟩), .agg #[.int .u8 0, .int .i64 (n : Int), .int .i64 (d : Int)]] w fun e w' => e = .returned (.tuple #[]) ∧ Fx p w3 w' (putR S n d) ws := by
  have hF := h.two #[.pointer (some ⟨tl, 0, none⟩), .pointer (some ⟨td, 0, none⟩)] #[.int .u8 0, .int .i64 (n : Int), .int .i64 (d : Int)]
  have k1 := Lz.topOf_le Lz.lenB n 28
  have k2 := Lz.topOf_le Lz.disB d 29
  have k3 := lits_pos (257 + lenC n) (by unfold lenC; omega)
  have k4 := dists_pos (disC d) (by unfold disC; omega)
  have k5 := lenN_le (lenC n) k1
  have k6 := disN_le (disC d) k2
  have k7 : 257 + lenC n < litsL.length := by rw [lits_len]; unfold lenC; omega
  have k8 : disC d < distsL.length := by rw [dists_len]; unfold disC; omega
  have hlc : Hid (∀ wx, Calls Tryd.prog 56 #[.int .i64 n] wx fun e w' => e = .returned (.tuple #[.int .i64 (257 + lenC n : Nat), .int .i64 (n - Lz.lenB (lenC n) : Nat), .int .i64 (Lz.lenN (lenC n) : Nat)]) ∧ w' = wx) := fun wx => Lz.lenCode_walk n hn3 hn wx
  have hdc : Hid (∀ wx, Calls Tryd.prog 57 #[.int .i64 d] wx fun e w' => e = .returned (.tuple #[.int .i64 (disC d : Nat), .int .i64 (d - Lz.disB (disC d) : Nat), .int .i64 (Lz.disN (disC d) : Nat)]) ∧ w' = wx) := fun wx => Lz.disCode_walk d hd1 hd2 wx
  have hR : Hid (putR S n d = wadd (wadd (wadd (wadd S (sigP litsL (257 + lenC n))) (lowP (n - Lz.lenB (lenC n)) (Lz.lenN (lenC n)))) (sigP distsL (disC d))) (lowP (d - Lz.disB (disC d)) (Lz.disN (disC d)))) := rfl
  generalize putR S n d = R at hR ⊢
  generalize 257 + lenC n = s1 at hlc hR k3 k7
  generalize n - Lz.lenB (lenC n) = x1 at hlc hR
  generalize Lz.lenN (lenC n) = c1 at hlc hR k5
  generalize d - Lz.disB (disC d) = x2 at hdc hR
  generalize Lz.disN (disC d) = c2 at hdc hR k6
  generalize disC d = s2 at hdc hR k4 k8
  clear k1 k2
  obtain ⟨W, hW⟩ : ∃ W, W = (w.heap.size, #[Value.pointer (some ⟨tl, 0, none⟩), .pointer (some ⟨td, 0, none⟩)], (56 : TypeId)) :: (w.heap.size + 1, #[Value.int .u8 0, .int .i64 (n : Int), .int .i64 (d : Int)], (71 : TypeId)) :: ws := ⟨_, rfl⟩
  have hat : Hid (∀ w' S', Fx p w3 w' S' W → w'.cell? ⟨w.heap.size, 0, none⟩ = some (.pointer (some ⟨tl, 0, none⟩)) ∧ w'.cell? ⟨w.heap.size, 1, none⟩ = some (.pointer (some ⟨td, 0, none⟩)) ∧ w'.cell? ⟨w.heap.size + 1, 1, none⟩ = some (.int .i64 (n : Int)) ∧ w'.cell? ⟨w.heap.size + 1, 2, none⟩ = some (.int .i64 (d : Int))) := by
    intro w' S' hh
    rw [hW] at hh
    have g0 := hh.at0
    have g1 := hh.drop.at0
    exact ⟨cell2_0 g0, cell2_1 g0, cell3_1 g1, cell3_2 g1⟩
  have hend : Hid (∀ w' S', Fx p w3 w' S' W → Fx p w3 w' S' ws) := fun w' S' hh => by rw [hW] at hh; exact hh.drop.drop
  have hF' := hF
  rw [← hW] at hF'
  obtain ⟨S1, e1⟩ : ∃ S1, S1 = wadd S (sigP litsL s1) := ⟨_, rfl⟩
  obtain ⟨S2, e2⟩ : ∃ S2, S2 = wadd S1 (lowP x1 c1) := ⟨_, rfl⟩
  obtain ⟨S3, e3⟩ : ∃ S3, S3 = wadd S2 (sigP distsL s2) := ⟨_, rfl⟩
  obtain ⟨S4, e4⟩ : ∃ S4, S4 = wadd S3 (lowP x2 c2) := ⟨_, rfl⟩
  have l1 : S1.2 ≤ S.2 + 9 := by rw [e1]; simp [wadd, sigP]; omega
  have l2 : S2.2 ≤ S1.2 + 5 := by rw [e2]; simp [wadd, lowP]; omega
  have l3 : S3.2 ≤ S2.2 + 5 := by rw [e3]; simp [wadd, sigP]; omega
  have p1 : Hid (Calls Tryd.prog 42 #[.pointer (some ⟨tl, 0, none⟩), .pointer (some ⟨p, 0, none⟩), .int .i64 (s1 : Int)] ((w.alloc (.cells #[.pointer (some ⟨tl, 0, none⟩), .pointer (some ⟨td, 0, none⟩)] 56)).alloc (.cells #[.int .u8 0, .int .i64 (n : Int), .int .i64 (d : Int)] 71)) fun e w' => e = .returned (.bool true) ∧ Fx p w3 w' S1 W) := by
    rw [e1]; exact hF'.sig hp hl s1 k7 k3.1 (by omega)
  have p2 : Hid (∀ wx, Fx p w3 wx S1 W → Calls Tryd.prog 39 #[.pointer (some ⟨p, 0, none⟩), .int .i64 (x1 : Int), .int .i64 (c1 : Int)] wx fun e w' => e = .returned (.tuple #[]) ∧ Fx p w3 w' S2 W) := by
    intro wx hx; rw [e2]; exact hx.low x1 c1 (by omega) (by omega)
  have p3 : Hid (∀ wx, Fx p w3 wx S2 W → Calls Tryd.prog 42 #[.pointer (some ⟨td, 0, none⟩), .pointer (some ⟨p, 0, none⟩), .int .i64 (s2 : Int)] wx fun e w' => e = .returned (.bool true) ∧ Fx p w3 w' S3 W) := by
    intro wx hx; rw [e3]; exact hx.sig hp hd s2 k8 (by omega) (by omega)
  have p4 : Hid (∀ wx, Fx p w3 wx S3 W → Calls Tryd.prog 39 #[.pointer (some ⟨p, 0, none⟩), .int .i64 (x2 : Int), .int .i64 (c2 : Int)] wx fun e w' => e = .returned (.tuple #[]) ∧ Fx p w3 w' S4 W) := by
    intro wx hx; rw [e4]; exact hx.low x2 c2 (by omega) (by omega)
  have HE : Hid (S4 = R) := by show S4 = R; rw [hR.out, e4, e3, e2, e1]
  have hnz : ¬ (n : Int) = 0 := by omega
  clear hF hF' hW e1 e2 e3 e4 l1 l2 l3 k3 k4 k5 k6 k7 k8 hR h hn3 hn hd1 hd2 hT hp hl hd
  go_enter Tryd.func41, Tryd.ntmps41
  go_wp2_with (first
    | (go_at_call 56; (with_reducible refine (hlc.out _).mono ?_); rintro e w' ⟨rfl, hx⟩; have hx := hx.symm; subst hx)
    | (go_at_call 57; (with_reducible refine (hdc.out _).mono ?_); rintro e w' ⟨rfl, hx⟩; have hx := hx.symm; subst hx)
    | (go_at_call 42; (with_reducible refine p1.out.mono ?_); rintro e w5 ⟨rfl, h5⟩; obtain ⟨q0, q1, q2, q3⟩ := hat.out _ _ h5)
    | (go_at_call 39; (with_reducible refine (p2.out _ (by assumption)).mono ?_); rintro e w6 ⟨rfl, h6⟩; obtain ⟨r0, r1, r2, r3⟩ := hat.out _ _ h6)
    | (go_at_call 42; (with_reducible refine (p3.out _ (by assumption)).mono ?_); rintro e w7 ⟨rfl, h7⟩)
    | (go_at_call 39; (with_reducible refine (p4.out _ (by assumption)).mono ?_); rintro e w8 ⟨rfl, h8⟩))
  all_goals go_end0
  exact ⟨rfl, HE.out ▸ hend.out _ _ h8⟩

end Go.Proofs.YtdokpimhhkbdbaaDoor

set_option linter.unusedSimpArgs false
set_option linter.unusedVariables false
namespace Go.Proofs.YtdokpimhhkbdbaaDoor
open Go.RowKit

def StOk (s : Lz.St) : Prop := (s.l = 0 ∧ s.d = 0 ∧ s.b < 256) ∨ (s.b = 0 ∧ 3 ≤ s.l ∧ s.l ≤ 258 ∧ 1 ≤ s.d ∧ s.d ≤ 32768)

def putS (S : Nat × Nat) (s : Lz.St) : Nat × Nat := if s.l = 0 then putL S s.b else putR S s.l.toNat s.d.toNat
def putAll (S : Nat × Nat) (l : List Lz.St) : Nat × Nat := l.foldl putS S
def fixS : Nat × Nat := wadd (wadd (0, 0) (lowP 1 1)) (lowP 1 2)
/-- The number that Fixed writes, and how many digits it has. -/
def fixE (b : List Nat) : Nat × Nat := wadd (putAll fixS (Lz.splitL b)) (sigP litsL 256)

theorem putS_len (S : Nat × Nat) (s : Lz.St) (h : StOk s) : (putS S s).2 ≤ S.2 + 40 := by
  unfold putS
  split
  · rcases h with h | h
    · have := putL_len S s.b h.2.2; omega
    · omega
  · exact putR_len S _ _

theorem putAll_len (l : List Lz.St) : ∀ S : Nat × Nat, (∀ s ∈ l, StOk s) → (putAll S l).2 ≤ S.2 + 40 * l.length := by
  induction l with
  | nil => intro S _; simp [putAll]
  | cons s l ih =>
    intro S h
    have h1 := putS_len S s (h s (List.mem_cons_self ..))
    have h2 := ih (putS S s) (fun x hx => h x (List.mem_cons_of_mem _ hx))
    simp only [putAll, List.foldl_cons, List.length_cons] at *
    omega

theorem putAll_snoc (S : Nat × Nat) (l : List Lz.St) (s : Lz.St) : putAll S (l ++ [s]) = putS (putAll S l) s := by simp [putAll]

theorem take_snoc (l : List Lz.St) (j : Nat) (h : j < l.length) : l.take (j + 1) = l.take j ++ [Lz.nthS l j] := by
  rw [List.take_add_one]
  simp [Lz.nthS, h]

theorem nthS_mem (l : List Lz.St) (j : Nat) (h : j < l.length) : Lz.nthS l j ∈ l := by
  simp [Lz.nthS, h]

theorem small_getD {b : List Nat} (hs : Small b) (a : Nat) : b.getD a 0 < 256 := by
  by_cases h : a < b.length
  · rw [List.getD_eq_getElem?_getD, List.getElem?_eq_getElem h]; exact hs _ (List.getElem_mem h)
  · rw [List.getD_eq_getElem?_getD, List.getElem?_eq_none (by omega)]; decide

theorem step_ok (b : List Nat) (a : Nat) (ha : a < b.length) (hs : Small b) (hb : b.length ≤ 19000) : StOk (Lz.stepOf b a) := by
  obtain ⟨L, D, hLD⟩ : ∃ L D, Lz.best b a (min 1024 a) = (L, D) := ⟨_, _, rfl⟩
  rcases Lz.longest_fits b a L D ha hLD with ⟨_, _, h, _⟩ | ⟨h1, h2, h3, h4, h5, h, _⟩
  · rw [h]; exact .inl ⟨rfl, rfl, small_getD hs a⟩
  · rw [h]; refine .inr ⟨rfl, ?_, ?_, ?_, ?_⟩ <;> simp only <;> omega

theorem run_ok (b : List Nat) (hs : Small b) (hb : b.length ≤ 19000) : ∀ f a, b.length - a ≤ f → ∀ s ∈ Lz.runL b f a, StOk s := by
  intro f
  induction f with
  | zero => intro a h s hm; rw [Lz.runL_end b 0 a (by omega)] at hm; cases hm
  | succ f ih =>
    intro a h s hm
    by_cases ha : a < b.length
    · rw [Lz.runL_step b (f + 1) a ha h] at hm
      rcases List.mem_cons.1 hm with rfl | hm
      · exact step_ok b a ha hs hb
      · exact ih (a + Lz.wide b a) (by have := Lz.wide_pos b a; omega) s hm
    · rw [Lz.runL_end b (f + 1) a (by omega)] at hm; cases hm

theorem split_ok (b : List Nat) (hs : Small b) (hb : b.length ≤ 19000) : ∀ s ∈ Lz.splitL b, StOk s := run_ok b hs hb _ 0 (by omega)
theorem split_len (b : List Nat) : (Lz.splitL b).length ≤ b.length := Lz.runL_len b _ 0

theorem cput (p tl td : Nat) (w3 w : World) (S : Nat × Nat) (ws : List (Nat × Array Value × TypeId)) (h : Fx p w3 w S ws) (hp : p = w3.heap.size) (hl : Tab w3 tl litsL) (hd : Tab w3 td distsL) (s : Lz.St) (hs : StOk s) (hT : S.2 < 800000) :
    Calls Tryd.prog 41 #[cAgg tl td, .pointer (some ⟨p, 0, none⟩), .agg #[.int .u8 (s.b : Int), .int .i64 s.l, .int .i64 s.d]] w fun e w' => e = .returned (.tuple #[]) ∧ Fx p w3 w' (putS S s) ws := by
  rcases hs with ⟨h1, h2, h3⟩ | ⟨h1, h2, h3, h4, h5⟩
  · rw [h1, h2]
    have : putS S s = putL S s.b := by simp [putS, h1]
    rw [this]
    exact cput_lit p tl td w3 w S ws h hp hl s.b h3 hT
  · obtain ⟨n, hn⟩ : ∃ n : Nat, s.l = n := ⟨s.l.toNat, by omega⟩
    obtain ⟨d, hd'⟩ : ∃ d : Nat, s.d = d := ⟨s.d.toNat, by omega⟩
    have : putS S s = putR S n d := by
      have : ¬ s.l = 0 := by omega
      simp only [putS, this, ↓reduceIte]
      rw [hn, hd', Int.toNat_natCast, Int.toNat_natCast]
    rw [this, h1, hn, hd']
    exact cput_row p tl td w3 w S ws h hp hl hd n d (by omega) (by omega) (by omega) (by omega) hT

theorem Fx.steps {p B : Nat} {w3 w : World} {S : Nat × Nat} {v : Value} {l : List Lz.St} (h : Fx p w3 w S []) (hs : Lz.Steps B 71 w v l) : ∃ W, Fx p w3 w S W ∧ ∀ w' S', Fx p w3 w' S' W → Lz.Steps B 71 w' v l := by
  rcases hs with ⟨h1, h2⟩
  rcases h2 with h2 | ⟨g, cap, cur, rfl, hB, hg, r⟩
  · exact ⟨[], h, fun w' S' _ => ⟨h1, .inl h2⟩⟩
  · exact ⟨[(g, cur, 71)], h.add g cur 71 (by decide) (by decide) hg, fun w' S' hh => ⟨h1, .inr ⟨g, cap, cur, rfl, hB, hh.at0, r⟩⟩⟩

end Go.Proofs.YtdokpimhhkbdbaaDoor

set_option linter.unusedSimpArgs false
set_option linter.unusedVariables false
namespace Go.Proofs.YtdokpimhhkbdbaaDoor
open Go.RowKit

theorem Fx.first (w3 : World) : Fx w3.heap.size w3 (w3.alloc (.cells #[.slice none 0 0, .int .i64 0] 84)) (0, 0) [] :=
  ⟨⟨_, wv_new w3, fun j hj => by cases hj⟩, (Below.refl _ _).alloc (Nat.le_refl _) _, by simp, fun x hx => by cases hx⟩

theorem Fx.fixed {p g tl td : Nat} {w3 w : World} {S : Nat × Nat} {ws : List (Nat × Array Value × TypeId)} (h : Fx p w3 w S ws) (hp : g < p) (hg : w3.heap[g]? = some (.cells #[.pointer (some ⟨tl, 0, none⟩), .pointer (some ⟨td, 0, none⟩)] 56 (0, 0))) : w.heap[g]? = some (.cells #[.pointer (some ⟨tl, 0, none⟩), .pointer (some ⟨td, 0, none⟩)] 56 (0, 0)) := by
  rw [h.below.block g hp]; exact hg

theorem Fx.bytes {p : Nat} {w3 w : World} {S : Nat × Nat} {ws : List (Nat × Array Value × TypeId)} (h : Fx p w3 w S ws) (hT : S.2 < 1000000) :
    Calls Tryd.prog 43 #[.pointer (some ⟨p, 0, none⟩)] w fun e w' => ∃ v' bs, e = .returned v' ∧ w'.ownsRow p 5 1 v' bs.length (bs.map byteV) ∧ Small bs ∧ val bs = S.1 ∧ bs.length = (S.2 + 7) / 8 ∧ Below p w3 w' := by
  obtain ⟨v, hv, hj⟩ := h.wr
  refine (bytes_fr p w v S.1 S.2 hv hT).mono ?_
  rintro e w' ⟨v', bs, rfl, h1, h2, h3, h4, h5⟩
  have hlt := h.lt
  refine ⟨v', bs, rfl, ?_, h2, h3, h4, h.below.trans (h5.mono (by omega))⟩
  exact owns_base h1 (by omega)

/-- What the world holds when the writer is new. -/
structure Fo (w w3 : World) (g tl td : Nat) : Prop where
  tabl : Tab w3 tl litsL
  tabd : Tab w3 td distsL
  cell : w3.heap[g]? = some (.cells #[.pointer (some ⟨tl, 0, none⟩), .pointer (some ⟨td, 0, none⟩)] 56 (0, 0))
  below : Below w.heap.size w w3

theorem Fo.new {w w1 : World} {tl td : Nat} (h1 : Tab w1 tl litsL) (h2 : Tab w1 td distsL) (hb : Below w.heap.size w w1) : Fo w (w1.alloc (.cells #[.pointer (some ⟨tl, 0, none⟩), .pointer (some ⟨td, 0, none⟩)] 56)) w1.heap.size tl td := by
  have hal : Below w1.heap.size w1 (w1.alloc (.cells #[.pointer (some ⟨tl, 0, none⟩), .pointer (some ⟨td, 0, none⟩)] 56)) := (Below.refl _ _).alloc (Nat.le_refl _) _
  exact ⟨h1.old hal, h2.old hal, heap_alloc_new w1 _, hb.trans (hal.mono hb.size)⟩

set_option maxRecDepth 100000 in
set_option maxHeartbeats 4000000 in
theorem fixed26 (w : World) (v : Value) (b : List Nat) (hv : Lies w v b) (hs : Small b) (hb : b.length ≤ 19000) :
    Calls Tryd.prog 26 #[v] w fun e w' => ∃ v' bs, e = .returned v' ∧ w'.ownsRow w.heap.size 5 1 v' bs.length (bs.map byteV) ∧ Small bs ∧ val bs = (fixE b).1 ∧ bs.length = ((fixE b).2 + 7) / 8 ∧ Below w.heap.size w w' := by
  have HV := Q.mkHid hv
  have hfc := Q.mkHid Q.fixedCodes_walk
  have hnw : Hid (∀ w, Calls Tryd.prog 38 #[] w fun e w' => e = .returned (.pointer (some ⟨w.heap.size, 0, none⟩)) ∧ Fx w.heap.size w w' (0, 0) []) := fun w => (new_walk w).mono fun e w' ⟨h1, h2⟩ => ⟨h1, by rw [h2]; exact Fx.first w⟩
  have hOK := Q.mkHid (split_ok b hs hb)
  have hLN := Q.mkHid (split_len b)
  obtain ⟨l, hl⟩ : ∃ l, l = Lz.splitL b := ⟨_, rfl⟩
  have HE : Hid (fixE b = wadd (putAll fixS l) (sigP litsL 256)) := by show _ = _; rw [hl]; rfl
  generalize fixE b = E at HE ⊢
  obtain ⟨n, hn⟩ : ∃ n, n = l.length := ⟨_, rfl⟩
  have HN := Q.mkHid hn
  have hsp : Hid (∀ wx p w3 S g tl td, Fx p w3 wx S [] → p = w3.heap.size → Fo w w3 g tl td → Calls Tryd.prog 40 #[v] wx fun e w' => ∃ ao cap W, e = .returned (.slice ao n cap) ∧ Fx p w3 w' S W ∧ Hid (∀ w' S', Fx p w3 w' S' W → Lz.Steps 0 71 w' (.slice ao n cap) l)) := by
    intro wx p w3 S g tl td h1 h2 h3
    have hb1 : Below w.heap.size w wx := h3.below.trans (h1.below.mono (by rw [h2]; exact h3.below.size))
    refine (Lz.split_walk wx v b (HV.out.old hb1) (by omega)).mono ?_
    rintro e w' ⟨v', rfl, hst, hbl⟩
    have h4 := h1.old hbl
    rw [← hl] at hst
    obtain ⟨W, hW, hr⟩ := h4.steps (B := 0) ⟨hst.1, by
      rcases hst.2 with h | ⟨g, cap, cur, rfl, hB, r⟩
      · exact .inl h
      · exact .inr ⟨g, cap, cur, rfl, Nat.zero_le _, r⟩⟩
    obtain ⟨ao, cap, hsv, -⟩ := Lz.Tells.cells (Lz.tells_own (hr _ _ hW))
    rw [← hn] at hsv
    subst hsv
    exact ⟨ao, cap, W, rfl, hW, hr⟩
  rw [← hl] at hOK hLN
  have HL : Hid (n ≤ 19000) := by show _ ≤ _; have := hLN.out; omega
  clear hv hs hb hl hn hLN
  have hput : Hid (∀ wx p w3 S (x : Nat) (c : Nat), Fx p w3 wx S [] → c ≤ 16 → S.2 < 900000 → Calls Tryd.prog 39 #[.pointer (some ⟨p, 0, none⟩), .int .i64 (x : Int), .int .i64 (c : Int)] wx fun e w' => e = .returned (.tuple #[]) ∧ Fx p w3 w' (wadd S (lowP x c)) []) := fun wx p w3 S x c h1 h2 h3 => h1.low x c h2 h3
  have hput1 : Hid (∀ wx p w3, Fx p w3 wx (0, 0) [] → Calls Tryd.prog 39 #[.pointer (some ⟨p, 0, none⟩), .int .i64 1, .int .i64 1] wx fun e w' => e = .returned (.tuple #[]) ∧ Fx p w3 w' (wadd (0, 0) (lowP 1 1)) []) := fun wx p w3 h1 => hput.out wx p w3 (0, 0) 1 1 h1 (by decide) (by decide)
  have hput2 : Hid (∀ wx p w3, Fx p w3 wx (wadd (0, 0) (lowP 1 1)) [] → Calls Tryd.prog 39 #[.pointer (some ⟨p, 0, none⟩), .int .i64 1, .int .i64 2] wx fun e w' => e = .returned (.tuple #[]) ∧ Fx p w3 w' fixS []) := fun wx p w3 h1 => hput.out wx p w3 _ 1 2 h1 (by decide) (by decide)
  clear hput
  go_enter Tryd.func26, Tryd.ntmps26
  go_wp2_with (first
    | (go_at_call 31; (with_reducible refine (hfc.out _).mono ?_); rintro e w1 ⟨tl, td, rfl, t1, t2, b1⟩
       have FO := Q.mkHid (Fo.new t1 t2 b1)
       clear t1 t2 b1)
    | (go_at_call 38
       generalize w1.alloc (.cells #[.pointer (some ⟨tl, 0, none⟩), .pointer (some ⟨td, 0, none⟩)] 56) = w3 at *
       generalize w1.heap.size = g at *
       (with_reducible refine (hnw.out _).mono ?_); rintro e w4 ⟨rfl, F4⟩)
    | (go_at_call 39; (with_reducible refine (hput1.out _ _ _ (by assumption)).mono ?_); rintro e w5 ⟨rfl, F5⟩)
    | (go_at_call 39; (with_reducible refine (hput2.out _ _ _ (by assumption)).mono ?_); rintro e w6 ⟨rfl, F6⟩)
    | (go_at_call 40; (with_reducible refine (hsp.out _ _ _ _ _ _ _ F6 rfl FO.out).mono ?_); rintro e w7 ⟨ao, cap, W, rfl, F7, HS⟩))
  obtain ⟨p, hp⟩ : ∃ p, p = w3.heap.size := ⟨_, rfl⟩
  rw [← hp] at F7 HS ⊢
  have HP := Q.mkHid hp
  clear hp F4 F5 F6
  go_loopw [16] (fun i wr => ∃ j : Nat, j ≤ n ∧ i = .int .i64 j ∧ Fx p w3 wr (putAll fixS (l.take j)) W) (fun i _ => n - (intOf i).toNat)
  case atStart => exact ⟨0, by omega, rfl, by simpa [putAll] using F7⟩
  case round =>
    obtain ⟨j, hjn, rfl, FJ⟩ := hrel
    clear F7
    have hgp : g < p := by rw [HP.out]; exact lt_of_block FO.out.cell
    have hG := FJ.fixed hgp FO.out.cell
    have hTB : Hid ((putAll fixS (l.take j)).2 < 800000) := by
      show _ < _
      have h1 := putAll_len (l.take j) fixS (fun s hm => hOK.out s (List.mem_of_mem_take hm))
      have h2 : (l.take j).length ≤ j := by simp; omega
      have h3 := HL.out
      have h4 : fixS.2 = 3 := rfl
      omega
    by_cases hj : j < n
    · have hjb : j < 19000 := by have := HL.out; omega
      have HJ : Hid (j < l.length) := by show _ < _; rw [← HN.out]; exact hj
      obtain ⟨ao', cap', he, hc⟩ := Lz.Tells.cells (Lz.tells_own (HS.out _ _ FJ))
      injection he with e1 e2 e3
      subst e1
      obtain ⟨lg, lof, rfl, hcs⟩ := hc (by have := HJ.out; omega)
      obtain ⟨d1, d2, d3⟩ := hcs j HJ.out
      have hso := hOK.out _ (nthS_mem l j HJ.out)
      have HT : Hid (putAll fixS (l.take (j + 1)) = putS (putAll fixS (l.take j)) (Lz.nthS l j)) := by
        show _ = _
        rw [take_snoc l j HJ.out, putAll_snoc]
      generalize Lz.nthS l j = s at d1 d2 d3 hso HT
      have hcp : Hid (∀ wx, Fx p w3 wx (putAll fixS (l.take j)) W → Calls Tryd.prog 41 #[cAgg tl td, .pointer (some ⟨p, 0, none⟩), .agg #[.int .u8 (s.b : Int), .int .i64 s.l, .int .i64 s.d]] wx fun e w' => e = .returned (.tuple #[]) ∧ Fx p w3 w' (putAll fixS (l.take (j + 1))) W) := by
        intro wx hx
        rw [HT.out]
        exact cput p tl td w3 wx _ W hx HP.out FO.out.tabl FO.out.tabd s hso hTB.out
      obtain ⟨sb, sl, sd⟩ := s
      simp only at d1 d2 d3 hcp
      clear hso HT hcs hc e2 e3
      have hq0 : Below wr.heap.size wr (wr.alloc (.cells #[.int .u8 (sb : Int), .int .i64 sl, .int .i64 sd] 71)) := (Below.refl _ _).alloc (Nat.le_refl _) _
      have HQ0 := Q.mkHid hq0
      clear hq0
      have HG := Q.mkHid hG
      clear hG
      go_wp2_with (first
        | (refine wpList_store_row rfl 71 (.tmp 6) (.tmp 19) rfl wr.heap.size #[.int .u8 (sb : Int), .int .i64 sl, .int .i64 sd] rfl rfl 71 _ (heap_alloc_new wr _) Lz.Tryd.size27 rfl (Lz.stC_one sb sl sd) ?_
           rw [World.setRow_alloc_new]
           have q1 := Q.mkHid (heap_alloc_new wr (.cells #[.int .u8 (sb : Int), .int .i64 sl, .int .i64 sd] 71))
           have q2 := FJ.old HQ0.out
           have q3 := Q.mkHid (q2.fixed hgp FO.out.cell)
           clear d1 d2 d3 HQ0 HG FJ
           generalize wr.alloc (.cells #[.int .u8 (sb : Int), .int .i64 sl, .int .i64 sd] 71) = w8 at *
           generalize wr.heap.size = q at *)
        | (refine Lz.wpList_load27 rfl (.tmp 6) rfl q rfl _ _ _ q1.out ?_)
        | (obtain ⟨fs, hfs⟩ := Q.Tryd.under56
           refine wpList_load_row rfl 56 (.tmp 3) rfl g rfl 56 #[.pointer (some ⟨tl, 0, none⟩), .pointer (some ⟨td, 0, none⟩)] (0, 0) _ q3.out hfs rfl Q.Tryd.info56 ?_)
        | (go_at_call 41; (with_reducible refine (hcp.out _ (by assumption)).mono ?_); rintro e w9 ⟨rfl, F9⟩))
      go_roundw
      case rel => exact ⟨j + 1, by omega, by go_num, F9⟩
      case measure => simp [intOf]; omega
    · have hjj : j = n := by omega
      subst hjj
      have c0 := cell2_0 hG
      have hTk : l.take j = l := by rw [HN.out]; exact List.take_length
      rw [hTk] at FJ hTB
      have hsg : Hid (Calls Tryd.prog 42 #[.pointer (some ⟨tl, 0, none⟩), .pointer (some ⟨p, 0, none⟩), .int .i64 256] wr fun e w' => e = .returned (.bool true) ∧ Fx p w3 w' E W) := by
        have := FJ.sig HP.out FO.out.tabl 256 (by rw [lits_len]; decide) (lits_pos 256 (by decide)).1 (by have := hTB.out; omega)
        rw [← HE.out] at this
        exact this
      have hE2 : Hid (E.2 < 1000000) := by
        show _ < _
        have h1 := hTB.out
        have h2 : (sigP litsL 256).2 = 7 := lits_256.1
        rw [HE.out]
        simp only [wadd, h2]
        omega
      have hby : Hid (∀ wx, Fx p w3 wx E W → Calls Tryd.prog 43 #[.pointer (some ⟨p, 0, none⟩)] wx fun e w' => ∃ v' bs, e = .returned v' ∧ Hid (w'.ownsRow p 5 1 v' bs.length (bs.map byteV) ∧ Small bs ∧ val bs = E.1 ∧ bs.length = (E.2 + 7) / 8 ∧ Below p w3 w')) := fun wx hx => hx.bytes hE2.out
      clear hTk hG hTB
      go_wp2_with (first
        | (go_at_call 42; (with_reducible refine hsg.out.mono ?_); rintro e w8 ⟨rfl, F8⟩)
        | (go_at_call 43; (with_reducible refine (hby.out _ (by assumption)).mono ?_); rintro e w9 ⟨v9, bs, rfl, hr⟩))
      go_ret
      obtain ⟨r1, r2, r3, r4, r5⟩ := hr.out
      have hsz : w.heap.size ≤ p := by rw [HP.out]; exact FO.out.below.size
      exact ⟨v9, bs, rfl, owns_base r1 hsz, r2, r3, r4, FO.out.below.trans (r5.mono hsz)⟩

end Go.Proofs.YtdokpimhhkbdbaaDoor
