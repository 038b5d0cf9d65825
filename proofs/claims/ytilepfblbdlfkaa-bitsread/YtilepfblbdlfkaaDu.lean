/-
  Two readers of the same bytes, the program's and the document's, side by side: 'Duo'; what each call makes of them.
-/
import Derived.Test.YtilepfblbdlfkaaRf
import Derived.Test.YtilepfblbdlfkaaLe
set_option linter.unusedSimpArgs false
set_option linter.unusedVariables false
namespace Go.Proofs.Ytilepfblbdlfkaa
open Go.RowKit

structure Duo (B : Nat) (w0 w : World) (rb xb g : Nat) (bs : List Nat) (p : Nat) (b : Bool) (p' : Nat) (b' : Bool) : Prop where
  r : Rd 50 w rb bs p b
  x : Rd 42 w xb bs p' b'
  lent : Lent w g bs
  lor : B ≤ rb
  lox : B ≤ xb
  below : Below B w0 w

variable {B : Nat} {w0 w : World} {rb xb g : Nat} {bs : List Nat} {p : Nat} {b : Bool} {p' : Nat} {b' : Bool}

theorem Rd.lt {T : TypeId} {pos : Nat} {bad : Bool} (h : Rd T w rb bs pos bad) : rb < w.heap.size := by
  obtain ⟨c, hc⟩ := h.type
  exact lt_of_block hc

theorem Duo.stepR (h : Duo B w0 w rb xb g bs p b p' b') {w' : World} {q : Nat} {c : Bool} (hr : Rd 50 w' rb bs q c) (hg : w.grownBy w' (some rb)) : Duo B w0 w' rb xb g bs q c p' b' := by
  obtain ⟨cc, hc⟩ := h.r.type
  refine ⟨hr, h.x.other hg hc (by decide) (by decide), owns_grown h.lent hg (owns_ne h.lent hc (by decide)), h.lor, h.lox, h.below.grown hg ?_ fun k hk => by cases hk; exact h.lor⟩
  have := h.r.lt
  have := h.lor
  omega

theorem Duo.stepX (h : Duo B w0 w rb xb g bs p b p' b') {w' : World} {q : Nat} {c : Bool} (hx : Rd 42 w' xb bs q c) (hg : w.grownBy w' (some xb)) : Duo B w0 w' rb xb g bs p b q c := by
  obtain ⟨cc, hc⟩ := h.x.type
  refine ⟨h.r.other hg hc (by decide) (by decide), hx, owns_grown h.lent hg (owns_ne h.lent hc (by decide)), h.lor, h.lox, h.below.grown hg ?_ fun k hk => by cases hk; exact h.lox⟩
  have := h.x.lt
  have := h.lox
  omega

theorem Duo.old (h : Duo B w0 w rb xb g bs p b p' b') {w' : World} (hb : Below w.heap.size w w') : Duo B w0 w' rb xb g bs p b p' b' := by
  refine ⟨h.r.old hb, h.x.old hb, owns_old h.lent hb, h.lor, h.lox, h.below.trans (hb.mono ?_)⟩
  have := h.r.lt
  have := h.lor
  omega

theorem Duo.drewN (h : Duo B w0 w rb xb g bs p b p' b') (k : Nat) : Duo B w0 (w.drewN k) rb xb g bs p b p' b' := h.old ⟨rfl, rfl, rfl, Nat.le_refl _, fun _ _ => rfl⟩

theorem duo_get (B : Nat) (w0 : World) (rb xb g : Nat) (bs : List Nat) (p : Nat) (b : Bool) (c : Int) : ∃ (z : Int) (q : Nat) (d : Bool),
    Hid (∀ w, Duo B w0 w rb xb g bs p b p b → Calls Try.prog 21 #[.pointer (some ⟨rb, 0, none⟩), .int .i64 c] w fun e w' => e = .returned (.int .i64 z) ∧ Duo B w0 w' rb xb g bs q d p b) ∧
    Hid (∀ w, Duo B w0 w rb xb g bs q d p b → Calls Try.prog 25 #[.pointer (some ⟨xb, 0, none⟩), .int .i64 c] w fun e w' => e = .returned (.int .i64 z) ∧ Duo B w0 w' rb xb g bs q d q d) := by
  by_cases h : Has bs p b c
  · obtain ⟨h1, h2, h3, h4⟩ := h
    subst h1
    obtain ⟨k, rfl⟩ := Int.eq_ofNat_of_zero_le h2
    refine ⟨((val bs / 2 ^ p % 2 ^ k : Nat) : Int), p + k, false, fun w hd => ?_, fun w hd => ?_⟩
    · exact (get_has w rb bs p k hd.r (by omega) (by omega)).mono fun e w' ⟨e1, e2, e3⟩ => ⟨e1, hd.stepR e2 e3⟩
    · exact (xget_has w xb bs p k hd.x (by omega) (by omega)).mono fun e w' ⟨e1, e2, e3⟩ => ⟨e1, hd.stepX e2 e3⟩
  · refine ⟨0, p, true, fun w hd => ?_, fun w hd => ?_⟩
    · exact (get_not w rb bs p b c hd.r h).mono fun e w' ⟨e1, e2, e3⟩ => ⟨e1, hd.stepR e2 e3⟩
    · exact (xget_not w xb bs p b c hd.x h).mono fun e w' ⟨e1, e2, e3⟩ => ⟨e1, hd.stepX e2 e3⟩

theorem duo_bit (B : Nat) (w0 : World) (rb xb g : Nat) (bs : List Nat) (p : Nat) (b : Bool) : ∃ (z : Int) (q : Nat) (d : Bool),
    Hid (∀ w, Duo B w0 w rb xb g bs p b p b → Calls Try.prog 20 #[.pointer (some ⟨rb, 0, none⟩)] w fun e w' => e = .returned (.int .i64 z) ∧ Duo B w0 w' rb xb g bs q d p b) ∧
    Hid (∀ w, Duo B w0 w rb xb g bs q d p b → Calls Try.prog 25 #[.pointer (some ⟨xb, 0, none⟩), .int .i64 1] w fun e w' => e = .returned (.int .i64 z) ∧ Duo B w0 w' rb xb g bs q d q d) := by
  by_cases h : Has bs p b 1
  · obtain ⟨h1, h2, h3, h4⟩ := h
    subst h1
    refine ⟨((val bs / 2 ^ p % 2 : Nat) : Int), p + 1, false, fun w hd => ?_, fun w hd => ?_⟩
    · exact (bit_has w rb bs p hd.r (by omega)).mono fun e w' ⟨e1, e2, e3⟩ => ⟨e1, hd.stepR e2 e3⟩
    · exact (xget_has w xb bs p 1 hd.x (by omega) (by omega)).mono fun e w' ⟨e1, e2, e3⟩ => ⟨e1, hd.stepX e2 e3⟩
  · refine ⟨0, p, true, fun w hd => ?_, fun w hd => ?_⟩
    · exact (bit_not w rb bs p b hd.r h).mono fun e w' ⟨e1, e2, e3⟩ => ⟨e1, hd.stepR e2 e3⟩
    · exact (xget_not w xb bs p b 1 hd.x h).mono fun e w' ⟨e1, e2, e3⟩ => ⟨e1, hd.stepX e2 e3⟩

theorem duo_align (B : Nat) (w0 : World) (rb xb g : Nat) (bs : List Nat) (p : Nat) : ∃ q : Nat,
    Hid (∀ w, Duo B w0 w rb xb g bs p false p false → Calls Try.prog 22 #[.pointer (some ⟨rb, 0, none⟩)] w fun e w' => e = .returned (.tuple #[]) ∧ Duo B w0 w' rb xb g bs q false p false) ∧
    Hid (∀ w, Duo B w0 w rb xb g bs q false p false → Calls Try.prog 26 #[.pointer (some ⟨xb, 0, none⟩)] w fun e w' => e = .returned (.tuple #[]) ∧ Duo B w0 w' rb xb g bs q false q false) :=
  ⟨(p + 7) / 8 * 8, fun w hd => (skip_walk w rb bs p false hd.r).mono fun e w' ⟨e1, e2, e3⟩ => ⟨e1, hd.stepR e2 e3⟩,
    fun w hd => (xskip_walk w xb bs p hd.x).mono fun e w' ⟨e1, e2, e3⟩ => ⟨e1, hd.stepX e2 e3⟩⟩

theorem Duo.cellX (h : Duo B w0 w rb xb g bs p b p' b') : w.cell? ⟨xb, 2, none⟩ = some (.bool b') := by
  obtain ⟨⟨v, hp, _⟩, _⟩ := h.x
  exact cell3_2 hp

/-- The two readers, as the law makes them. -/
theorem duo_new {w1 w2 w3 : World} {n : Nat} {v : Value} (hl : Lent w1 g bs) (hb1 : Below B w0 w1) (hB : B ≤ w1.heap.size) (hr : Rd 50 w2 rb bs 0 false) (hrl : w1.heap.size ≤ rb) (hb2 : Below w1.heap.size w1 w2)
    (ho : w3.ownsRow w2.heap.size 5 1 v bs.length (bs.map byteV)) (hb3 : Below w2.heap.size w2 w3) :
    Duo B w0 (w3.alloc (.cells #[v, .int .i64 0, .bool false] 42)) rb w3.heap.size g bs 0 false 0 false := by
  have hs2 := hb2.size
  have hs3 := hb3.size
  have hba : Below w3.heap.size w3 (w3.alloc (.cells #[v, .int .i64 0, .bool false] 42)) := (Below.refl _ w3).alloc (Nat.le_refl _) _
  have h13 : Below w1.heap.size w1 w3 := hb2.trans (hb3.mono hs2)
  refine ⟨(hr.old hb3).old hba, ⟨⟨v, heap_alloc_new w3 _, (owns_base ho (Nat.zero_le _)).alloc _⟩, hr.small, Nat.zero_le _, hr.len⟩, owns_old (owns_old hl h13) hba, by omega, by omega, ?_⟩
  exact (hb1.trans (h13.mono hB)).alloc (by omega) _

end Go.Proofs.Ytilepfblbdlfkaa
