/-
  What Fixed writes, in plain numbers; each step that Split tells may be put.
-/
import Derived.Test.YtdokpimhhkbdbaaDoorXc
set_option linter.unusedSimpArgs false
set_option linter.unusedVariables false
namespace Go.Proofs.YtdokpimhhkbdbaaDoor
open Go.RowKit

def StOk (s : Lz.St) : Prop := (s.l = 0 ∧ s.d = 0 ∧ s.b < 256) ∨ (s.b = 0 ∧ 3 ≤ s.l ∧ s.l ≤ 258 ∧ 1 ≤ s.d ∧ s.d ≤ 32768)

def putS (S : Nat × Nat) (s : Lz.St) : Nat × Nat := if s.l = 0 then putL S s.b else putR S s.l.toNat s.d.toNat
def putAll (S : Nat × Nat) (l : List Lz.St) : Nat × Nat := l.foldl putS S
def fixS : Nat × Nat := wadd (wadd (0, 0) (lowP 1 1)) (lowP 1 2)
/-- The number that Fixed writes, and how many digits it has. -/
def fixE (b : List Nat) : Nat × Nat := wadd (putAll fixS (Lz.splitL b)) (sigP litsL 256)

theorem putS_len (S : Nat × Nat) (s : Lz.St) (h : StOk s) : (putS S s).2 ≤ S.2 + 40 := by
  unfold putS
  split
  · rcases h with h | h
    · have := putL_len S s.b h.2.2; omega
    · omega
  · exact putR_len S _ _

theorem putAll_len (l : List Lz.St) : ∀ S : Nat × Nat, (∀ s ∈ l, StOk s) → (putAll S l).2 ≤ S.2 + 40 * l.length := by
  induction l with
  | nil => intro S _; simp [putAll]
  | cons s l ih =>
    intro S h
    have h1 := putS_len S s (h s (List.mem_cons_self ..))
    have h2 := ih (putS S s) (fun x hx => h x (List.mem_cons_of_mem _ hx))
    simp only [putAll, List.foldl_cons, List.length_cons] at *
    omega

theorem putAll_snoc (S : Nat × Nat) (l : List Lz.St) (s : Lz.St) : putAll S (l ++ [s]) = putS (putAll S l) s := by simp [putAll]

theorem take_snoc (l : List Lz.St) (j : Nat) (h : j < l.length) : l.take (j + 1) = l.take j ++ [Lz.nthS l j] := by
  rw [List.take_add_one]
  simp [Lz.nthS, h]

theorem nthS_mem (l : List Lz.St) (j : Nat) (h : j < l.length) : Lz.nthS l j ∈ l := by
  simp [Lz.nthS, h]

theorem small_getD {b : List Nat} (hs : Small b) (a : Nat) : b.getD a 0 < 256 := by
  by_cases h : a < b.length
  · rw [List.getD_eq_getElem?_getD, List.getElem?_eq_getElem h]; exact hs _ (List.getElem_mem h)
  · rw [List.getD_eq_getElem?_getD, List.getElem?_eq_none (by omega)]; decide

theorem step_ok (b : List Nat) (a : Nat) (ha : a < b.length) (hs : Small b) (hb : b.length ≤ 19000) : StOk (Lz.stepOf b a) := by
  obtain ⟨L, D, hLD⟩ : ∃ L D, Lz.best b a (min 1024 a) = (L, D) := ⟨_, _, rfl⟩
  rcases Lz.longest_fits b a L D ha hLD with ⟨_, _, h, _⟩ | ⟨h1, h2, h3, h4, h5, h, _⟩
  · rw [h]; exact .inl ⟨rfl, rfl, small_getD hs a⟩
  · rw [h]; refine .inr ⟨rfl, ?_, ?_, ?_, ?_⟩ <;> simp only <;> omega

theorem run_ok (b : List Nat) (hs : Small b) (hb : b.length ≤ 19000) : ∀ f a, b.length - a ≤ f → ∀ s ∈ Lz.runL b f a, StOk s := by
  intro f
  induction f with
  | zero => intro a h s hm; rw [Lz.runL_end b 0 a (by omega)] at hm; cases hm
  | succ f ih =>
    intro a h s hm
    by_cases ha : a < b.length
    · rw [Lz.runL_step b (f + 1) a ha h] at hm
      rcases List.mem_cons.1 hm with rfl | hm
      · exact step_ok b a ha hs hb
      · exact ih (a + Lz.wide b a) (by have := Lz.wide_pos b a; omega) s hm
    · rw [Lz.runL_end b (f + 1) a (by omega)] at hm; cases hm

theorem split_ok (b : List Nat) (hs : Small b) (hb : b.length ≤ 19000) : ∀ s ∈ Lz.splitL b, StOk s := run_ok b hs hb _ 0 (by omega)
theorem split_len (b : List Nat) : (Lz.splitL b).length ≤ b.length := Lz.runL_len b _ 0

theorem cput (p tl td : Nat) (w3 w : World) (S : Nat × Nat) (ws : List (Nat × Array Value × TypeId)) (h : Fx p w3 w S ws) (hp : p = w3.heap.size) (hl : Tab w3 tl litsL) (hd : Tab w3 td distsL) (s : Lz.St) (hs : StOk s) (hT : S.2 < 800000) :
    Calls Tryd.prog 41 #[cAgg tl td, .pointer (some ⟨p, 0, none⟩), .agg #[.int .u8 (s.b : Int), .int .i64 s.l, .int .i64 s.d]] w fun e w' => e = .returned (.tuple #[]) ∧ Fx p w3 w' (putS S s) ws := by
  rcases hs with ⟨h1, h2, h3⟩ | ⟨h1, h2, h3, h4, h5⟩
  · rw [h1, h2]
    have : putS S s = putL S s.b := by simp [putS, h1]
    rw [this]
    exact cput_lit p tl td w3 w S ws h hp hl s.b h3 hT
  · obtain ⟨n, hn⟩ : ∃ n : Nat, s.l = n := ⟨s.l.toNat, by omega⟩
    obtain ⟨d, hd'⟩ : ∃ d : Nat, s.d = d := ⟨s.d.toNat, by omega⟩
    have : putS S s = putR S n d := by
      have : ¬ s.l = 0 := by omega
      simp only [putS, this, ↓reduceIte]
      rw [hn, hd', Int.toNat_natCast, Int.toNat_natCast]
    rw [this, h1, hn, hd']
    exact cput_row p tl td w3 w S ws h hp hl hd n d (by omega) (by omega) (by omega) (by omega) hT

theorem Fx.steps {p B : Nat} {w3 w : World} {S : Nat × Nat} {v : Value} {l : List Lz.St} (h : Fx p w3 w S []) (hs : Lz.Steps B 71 w v l) : ∃ W, Fx p w3 w S W ∧ ∀ w' S', Fx p w3 w' S' W → Lz.Steps B 71 w' v l := by
  rcases hs with ⟨h1, h2⟩
  rcases h2 with h2 | ⟨g, cap, cur, rfl, hB, hg, r⟩
  · exact ⟨[], h, fun w' S' _ => ⟨h1, .inl h2⟩⟩
  · exact ⟨[(g, cur, 71)], h.add g cur 71 (by decide) (by decide) hg, fun w' S' hh => ⟨h1, .inr ⟨g, cap, cur, rfl, hB, hh.at0, r⟩⟩⟩

end Go.Proofs.YtdokpimhhkbdbaaDoor
