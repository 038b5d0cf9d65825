/-
  The library's cutting of texts at one byte, in plain words; need, next.
-/
import Derived.Test.YtfkfaaifchafjaaDoorEd
set_option linter.unusedSimpArgs false
set_option linter.unusedVariables false
namespace Go.Proofs.YtfkfaaifchafjaaDoor
open Go.RowKit

/-- What the library's calls ask, below B. -/
structure EnvB (B : Nat) (w : World) : Prop where
  e : Env w
  b : 5 < B

theorem EnvB.old {B : Nat} {w w' : World} (h : EnvB B w) (hb : Below B w w') : EnvB B w' := by
  obtain ⟨⟨⟨m, h1⟩, ⟨a, b, h2⟩, ⟨c, d, h3⟩⟩, hB⟩ := h
  exact ⟨⟨⟨m, (hb.cell (p := ⟨0, 0, none⟩) (by show 0 < B; omega)).trans h1⟩, ⟨a, b, (hb.cell (p := ⟨4, 0, none⟩) (by show 4 < B; omega)).trans h2⟩, ⟨c, d, (hb.cell (p := ⟨5, 0, none⟩) (by show 5 < B; omega)).trans h3⟩⟩, hB⟩

def str (l : Txt) : ByteArray := ⟨l.toArray⟩
theorem str_list (l : Txt) : (str l).data.toList = l := rfl
theorem str_size (l : Txt) : (str l).size = l.length := rfl
theorem encStr_str (l : Txt) : encStr l = .string (str l) := rfl

theorem cut_full (s : ByteArray) (d : UInt8) (hs : s.size ≤ 1000000) (p r : ByteArray) (f : Bool) (hp : p = str (cutB d s.data.toList).1) (hr : r = str (cutB d s.data.toList).2.1) (hf : f = (cutB d s.data.toList).2.2) :
    Hid (∀ w, Env w → Calls Tryd.prog 58 #[.string s, .string ⟨#[d]⟩] w fun e w' => e = .returned (.tuple #[.string p, .string r, .bool f]) ∧ ∃ n, w' = w.drewN n) := by
  intro w ⟨⟨m, hm⟩, _, _⟩
  refine (Tryd.strings_Cut s ⟨#[d]⟩ m w (by omega) hm).mono ?_
  rintro e w' ⟨rfl, n, rfl⟩
  have e1 : Lib.cut s.data.toList ((⟨#[d]⟩ : ByteArray).data.toList) = cutB d s.data.toList := cut_cutB d _
  refine ⟨?_, n, rfl⟩
  rw [hp, hr, hf, ← e1]
  rfl

theorem need_true (r : Value) (w : World) : Calls Tryd.prog 44 #[r, .bool true] w fun e w' => e = .returned (.tuple #[]) ∧ w' = w := by
  go_enter Tryd.func44, Tryd.ntmps44
  go_wp2
  go_end0
  exact ⟨rfl, rfl⟩

abbrev Pn (n : Int) : Ending := .panicked [{ v := .iface 68 (.int .i64 n), recovered := false }]

theorem need_false (R : Nat) (n : Int) (w : World) (h : w.cell? ⟨R, 1, none⟩ = some (.int .i64 n)) : Calls Tryd.prog 44 #[.pointer (some ⟨R, 0, none⟩), .bool false] w fun e w' => e = Pn n ∧ w' = w := by
  go_enter Tryd.func44, Tryd.ntmps44
  go_wp2
  exact ⟨rfl, rfl, rfl⟩

/-- A row of texts in a block of texts. -/
def RowS (w : World) (v : Value) (ss : List Txt) : Prop :=
  (v = .slice none 0 0 ∧ ss = []) ∨ ∃ g off cs cap, v = .slice (some ⟨g, off, none⟩) ss.length cap ∧ ss.length ≤ cap ∧ w.heap[g]? = some (.cells cs 9 (0, 0)) ∧ ∀ j u, (ss.map encStr)[j]? = some u → cs[off + j]? = some u

theorem RowS.lies {w : World} {v : Value} {ss : List Txt} (h : RowS w v ss) : LiesS w v ss := by
  rcases h with ⟨rfl, rfl⟩ | ⟨g, off, cs, cap, rfl, hc, hg, hu⟩
  · exact liesS_nil w
  · refine ⟨_, cap, rfl, hc, fun h => (by cases h), fun a ha j u hj => ?_⟩
    cases ha
    rw [add_none]
    simp only [World.cell?, hg]
    exact hu j u hj

theorem RowS.keep {w w' : World} {v : Value} {ss : List Txt} (h : RowS w v ss) (hk : ∀ (g : Nat) (cs : Array Value), w.heap[g]? = some (.cells cs 9 (0, 0)) → w'.heap[g]? = some (.cells cs 9 (0, 0))) : RowS w' v ss := by
  rcases h with h | ⟨g, off, cs, cap, e, hc, hg, hu⟩
  · exact .inl h
  · exact .inr ⟨g, off, cs, cap, e, hc, hk g cs hg, hu⟩

theorem ownC_keep {B : Nat} {w w' : World} {v : Value} {l : List Chg} (h : OwnC B w v l) (hk : ∀ (g : Nat) (cs : Array Value), w.heap[g]? = some (.cells cs 44 (0, 0)) → w'.heap[g]? = some (.cells cs 44 (0, 0))) : OwnC B w' v l := by
  refine ⟨h.1, ?_⟩
  rcases h.2 with h2 | ⟨g, cap, cur, rfl, hB, hg, r⟩
  · exact .inl h2
  · exact .inr ⟨g, cap, cur, rfl, hB, hk g cur hg, r⟩

/-- The reader: what is left, the line at hand, the patch as far as it was read. -/
structure Rd (B : Nat) (w : World) (R : Nat) (rest : Txt) (n : Nat) (p : Pat) : Prop where
  m : ∃ nv cv, w.heap[R]? = some (.cells #[.string (str rest), .int .i64 (n : Int), .string (str p.1), .bool p.2.1, nv, cv] 67 (0, 0)) ∧ RowS w nv p.2.2.1 ∧ OwnC B w cv p.2.2.2
  b : B ≤ R
  e : EnvB B w

theorem Rd.old {B : Nat} {w w' : World} {R : Nat} {rest : Txt} {n : Nat} {p : Pat} (h : Rd B w R rest n p) (hb : Old w w') (hB : B ≤ w.heap.size) : Rd B w' R rest n p := by
  obtain ⟨nv, cv, h1, h2, h3⟩ := h.m
  exact ⟨⟨nv, cv, block_old hb h1, h2.keep (fun g cs hg => block_old hb hg), ownC_old h3 hb⟩, h.b, h.e.old (hb.mono hB)⟩

/-- all below B stands, and all blocks of a line's number -/
structure Kp (B : Nat) (w w' : World) : Prop where
  b : Below B w w'
  k : ∀ (k : Nat) (cs : Array Value), w.heap[k]? = some (.cells cs 68 (0, 0)) → w'.heap[k]? = some (.cells cs 68 (0, 0))

theorem Kp.refl (B : Nat) (w : World) : Kp B w w := ⟨Below.refl B w, fun _ _ h => h⟩
theorem Kp.trans {B : Nat} {a b c : World} (h : Kp B a b) (k : Kp B b c) : Kp B a c := ⟨h.b.trans k.b, fun j cs hj => k.k j cs (h.k j cs hj)⟩
theorem Kp.of {B : Nat} {w w' : World} (h : Old w w') (hB : B ≤ w.heap.size) : Kp B w w' := ⟨h.mono hB, fun _ _ hj => block_old h hj⟩
theorem Kp.drew {B : Nat} {a w : World} (h : Kp B a w) : Kp B a w.drew := ⟨h.b.drew, h.k⟩
theorem kp_drewN {B : Nat} {a w : World} (h : Kp B a w) (n : Nat) : Kp B a (w.drewN n) := ⟨⟨h.b.os, h.b.tape, h.b.output, h.b.size, h.b.block⟩, h.k⟩

/-- one cell of the reader's set -/
theorem Rd.cell {B : Nat} {w : World} {R : Nat} {rest : Txt} {n : Nat} {p : Pat} (h : Rd B w R rest n p) (o : Nat) (v : Value) (rest' : Txt) (n' : Nat) (p' : Pat) (hp : p'.2.2 = p.2.2)
    (ho : ∀ c d : Value, (#[.string (str rest), .int .i64 (n : Int), .string (str p.1), .bool p.2.1, c, d] : Array Value).setIfInBounds o v = #[.string (str rest'), .int .i64 (n' : Int), .string (str p'.1), .bool p'.2.1, c, d]) :
    Rd B (w.setCell ⟨R, o, none⟩ v) R rest' n' p' ∧ Kp B w (w.setCell ⟨R, o, none⟩ v) := by
  obtain ⟨nv, cv, h1, h2, h3⟩ := h.m
  have hb : Below B w (w.setCell ⟨R, o, none⟩ v) := (Below.refl B w).setCell (p := ⟨R, o, none⟩) h.b v
  refine ⟨⟨⟨nv, cv, ?_, ?_, ?_⟩, h.b, h.e.old hb⟩, hb, fun k cs hg => heap_set_ne _ _ _ _ (blocks_ne hg h1 (by decide)) hg⟩
  · rw [row_setCell h1 o v, ho]
  · rw [hp]; exact h2.keep (fun g cs hg => heap_set_ne _ _ _ _ (blocks_ne hg h1 (by decide)) hg)
  · rw [hp]; exact ownC_keep h3 (fun g cs hg => heap_set_ne _ _ _ _ (blocks_ne hg h1 (by decide)) hg)

theorem Rd.drew {B : Nat} {w : World} {R : Nat} {rest : Txt} {n : Nat} {p : Pat} (h : Rd B w R rest n p) (k : Nat) (hB : B ≤ w.heap.size) : Rd B (w.drewN k) R rest n p := h.old (below_drewN w k) hB

theorem Rd.size {B : Nat} {w : World} {R : Nat} {rest : Txt} {n : Nat} {p : Pat} (h : Rd B w R rest n p) : B ≤ w.heap.size := by
  obtain ⟨nv, cv, h1, _⟩ := h.m
  have := (Array.getElem?_eq_some_iff.1 h1).1
  have := h.b
  omega
end Go.Proofs.YtfkfaaifchafjaaDoor
