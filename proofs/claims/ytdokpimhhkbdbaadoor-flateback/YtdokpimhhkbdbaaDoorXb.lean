/-
  The state of what Fixed writes; one step put (codes.put).
-/
import Derived.Test.YtdokpimhhkbdbaaDoorXa
import Derived.Test.YtdokpimhhkbdbaaDoorUh
set_option linter.unusedSimpArgs false
set_option linter.unusedVariables false
namespace Go.Proofs.YtdokpimhhkbdbaaDoor
open Go.RowKit

/-- The writer at p, all that was there before it, and blocks that stand. S: the number written and how many digits it has. -/
structure Fx (p : Nat) (w3 w : World) (S : Nat × Nat) (ws : List (Nat × Array Value × TypeId)) : Prop where
  wr : ∃ v, Wv p w v S.1 S.2 ∧ ∀ j, v.ownBlock = some j → p ≤ j
  below : Below p w3 w
  lt : p < w.heap.size
  watch : ∀ x ∈ ws, x.2.2 ≠ 5 ∧ x.2.2 ≠ 84 ∧ w.heap[x.1]? = some (.cells x.2.1 x.2.2 (0, 0))

theorem Fx.old {p : Nat} {w3 w w' : World} {S : Nat × Nat} {ws : List (Nat × Array Value × TypeId)} (h : Fx p w3 w S ws) (hb : Below w.heap.size w w') : Fx p w3 w' S ws := by
  obtain ⟨⟨v, hv, hj⟩, hbl, hlt, hws⟩ := h
  exact ⟨⟨v, hv.old hb, hj⟩, hbl.trans (hb.mono (by omega)), Nat.lt_of_lt_of_le hlt hb.size, fun x hx => ⟨(hws x hx).1, (hws x hx).2.1, by rw [hb.block _ (lt_of_block (hws x hx).2.2)]; exact (hws x hx).2.2⟩⟩

theorem Fx.add {p : Nat} {w3 w : World} {S : Nat × Nat} {ws : List (Nat × Array Value × TypeId)} (h : Fx p w3 w S ws) (g : Nat) (c : Array Value) (T : TypeId) (h5 : T ≠ 5) (h84 : T ≠ 84) (hg : w.heap[g]? = some (.cells c T (0, 0))) : Fx p w3 w S ((g, c, T) :: ws) :=
  ⟨h.wr, h.below, h.lt, fun x hx => by
    rcases List.mem_cons.1 hx with rfl | hx
    · exact ⟨h5, h84, hg⟩
    · exact h.watch x hx⟩

theorem Fx.drop {p : Nat} {w3 w : World} {S : Nat × Nat} {ws : List (Nat × Array Value × TypeId)} {x : Nat × Array Value × TypeId} (h : Fx p w3 w S (x :: ws)) : Fx p w3 w S ws :=
  ⟨h.wr, h.below, h.lt, fun y hy => h.watch y (List.mem_cons_of_mem _ hy)⟩

/-- Digits behind those that are written. -/
def wadd (S x : Nat × Nat) : Nat × Nat := (S.1 + x.1 * 2 ^ S.2, S.2 + x.2)

def sigP (l : List Nat) (s : Nat) : Nat × Nat := (rev (code l s : Nat) (nth l s) (nth l s), nth l s)
def lowP (n c : Nat) : Nat × Nat := (low (n : Int) c, c)

theorem Fx.turn {p : Nat} {w3 w w' : World} {S S' : Nat × Nat} {ws : List (Nat × Array Value × TypeId)} {v v' : Value} (h : Fx p w3 w S ws) (hv : Wv p w v S.1 S.2) (hj : ∀ j, v.ownBlock = some j → p ≤ j) (hv' : Wv p w' v' S'.1 S'.2) (hkin : Kin w v v') (hf : Fr (some p) v.ownBlock w w') : Fx p w3 w' S' ws := by
  have hlt := h.lt
  obtain ⟨bs, hpp, hown, _⟩ := id hv
  refine ⟨⟨v', hv', fun j hj' => ?_⟩, h.below.trans (hf.below (by omega) (fun j hj' => by cases hj'; exact Nat.le_refl _) hj), Nat.lt_of_lt_of_le hlt hf.size, fun x hx => ?_⟩
  · rcases hkin with e | e
    · exact hj j (by rw [← e]; exact hj')
    · have := e j hj'; omega
  · obtain ⟨a1, a2, a3⟩ := h.watch x hx
    refine ⟨a1, a2, ?_⟩
    rw [hf.block x.1 (lt_of_block a3) (by simpa using blocks_ne a3 hpp a2) (fun e => owns_ne hown a3 a1 e.symm)]
    exact a3

theorem Fx.sig {p tb : Nat} {w3 w : World} {S : Nat × Nat} {ws : List (Nat × Array Value × TypeId)} {l : List Nat} (h : Fx p w3 w S ws) (hp : p = w3.heap.size) (ht : Tab w3 tb l) (s : Nat) (hs : s < l.length) (h0 : 0 < nth l s) (hT : S.2 < 900000) :
    Calls Tryd.prog 42 #[.pointer (some ⟨tb, 0, none⟩), .pointer (some ⟨p, 0, none⟩), .int .i64 (s : Int)] w fun e w' => e = .returned (.bool true) ∧ Fx p w3 w' (wadd S (sigP l s)) ws := by
  obtain ⟨v, hv, hj⟩ := h.wr
  refine (tput_fr p tb w v l s S.1 S.2 (ht.old (hp ▸ h.below)) hv hs h0 hT).mono ?_
  rintro e w' ⟨rfl, v', hv', hkin, hf⟩
  exact ⟨rfl, h.turn hv hj hv' hkin hf⟩

theorem Fx.low {p : Nat} {w3 w : World} {S : Nat × Nat} {ws : List (Nat × Array Value × TypeId)} (h : Fx p w3 w S ws) (n c : Nat) (hc : c ≤ 16) (hT : S.2 < 900000) :
    Calls Tryd.prog 39 #[.pointer (some ⟨p, 0, none⟩), .int .i64 (n : Int), .int .i64 (c : Int)] w fun e w' => e = .returned (.tuple #[]) ∧ Fx p w3 w' (wadd S (lowP n c)) ws := by
  obtain ⟨v, hv, hj⟩ := h.wr
  refine (put_fr p w v S.1 S.2 n c hv hc hT).mono ?_
  rintro e w' ⟨rfl, v', hv', hkin, hf⟩
  exact ⟨rfl, h.turn hv hj hv' hkin hf⟩

theorem lits_pos : ∀ s, s < 288 → 0 < nth litsL s ∧ nth litsL s ≤ 9 := by decide +kernel
theorem dists_pos : ∀ s, s < 32 → nth distsL s = 5 := by decide +kernel
theorem lenN_le : ∀ c, c ≤ 28 → Lz.lenN c ≤ 5 := by decide
theorem disN_le : ∀ c, c ≤ 29 → Lz.disN c ≤ 13 := by decide

def lenC (n : Nat) : Nat := Lz.topOf Lz.lenB n 28
def disC (n : Nat) : Nat := Lz.topOf Lz.disB n 29

/-- What a step is written as. -/
def putL (S : Nat × Nat) (b : Nat) : Nat × Nat := wadd S (sigP litsL b)
def putR (S : Nat × Nat) (n d : Nat) : Nat × Nat :=
  wadd (wadd (wadd (wadd S (sigP litsL (257 + lenC n))) (lowP (n - Lz.lenB (lenC n)) (Lz.lenN (lenC n)))) (sigP distsL (disC d))) (lowP (d - Lz.disB (disC d)) (Lz.disN (disC d)))

theorem putL_len (S : Nat × Nat) (b : Nat) (hb : b < 256) : (putL S b).2 ≤ S.2 + 9 := by
  have := lits_pos b (by omega)
  simp [putL, wadd, sigP]; omega

theorem putR_len (S : Nat × Nat) (n d : Nat) : (putR S n d).2 ≤ S.2 + 40 := by
  have h1 := Lz.topOf_le Lz.lenB n 28
  have h2 := Lz.topOf_le Lz.disB d 29
  have h3 := lits_pos (257 + lenC n) (by unfold lenC; omega)
  have h4 := dists_pos (disC d) (by unfold disC; omega)
  have h5 := lenN_le (lenC n) h1
  have h6 := disN_le (disC d) h2
  simp [putR, wadd, sigP, lowP]; omega

theorem Fx.two {p : Nat} {w3 w : World} {S : Nat × Nat} {ws : List (Nat × Array Value × TypeId)} (h : Fx p w3 w S ws) (c d : Array Value) : Fx p w3 ((w.alloc (.cells c 56)).alloc (.cells d 71)) S ((w.heap.size, c, 56) :: (w.heap.size + 1, d, 71) :: ws) := by
  have hb : Below w.heap.size w ((w.alloc (.cells c 56)).alloc (.cells d 71)) := ((Below.refl _ _).alloc (Nat.le_refl _) _).alloc (by simp) _
  have h1 := h.old hb
  have g2 : ((w.alloc (.cells c 56)).alloc (.cells d 71)).heap[w.heap.size + 1]? = some (.cells d 71 (0, 0)) := by
    have := heap_alloc_new (w.alloc (.cells c 56)) (.cells d 71)
    simpa using this
  have g1 : ((w.alloc (.cells c 56)).alloc (.cells d 71)).heap[w.heap.size]? = some (.cells c 56 (0, 0)) := by
    rw [Below.heap_alloc _ _ _ (by simp)]
    exact heap_alloc_new w _
  exact (h1.add _ d 71 (by decide) (by decide) g2).add _ c 56 (by decide) (by decide) g1

theorem Fx.at0 {p : Nat} {w3 w : World} {S : Nat × Nat} {ws : List (Nat × Array Value × TypeId)} {x : Nat × Array Value × TypeId} (h : Fx p w3 w S (x :: ws)) : w.heap[x.1]? = some (.cells x.2.1 x.2.2 (0, 0)) := (h.watch x (List.mem_cons_self ..)).2.2

end Go.Proofs.YtdokpimhhkbdbaaDoor
