/-
  A reader beside the bytes that it was made of: 'St'; what each call makes of it.
-/
import Derived.Test.YtdokpimhhkbdbaaDoorRc
set_option linter.unusedSimpArgs false
set_option linter.unusedVariables false
namespace Go.Proofs.YtdokpimhhkbdbaaDoor
open Go.RowKit

theorem within_lit (n N : Int) (k : Nat) (hk : 0 < k) (hN : N = k) (hk2 : k < 4294967296) : ∃ m : Nat, m < k ∧ Hid (∀ w, Calls Tryd.prog 9 #[.int .i64 n, .int .i64 N] w fun e w' => e = .returned (.int .i64 (m : Int)) ∧ w' = w) := by
  subst hN
  have h1 := Int.emod_nonneg n (show (k : Int) ≠ 0 by omega)
  have h2 := Int.emod_lt_of_pos n (show (0 : Int) < k by omega)
  refine ⟨(n % (k : Int)).toNat, by omega, fun w => ?_⟩
  rw [Int.toNat_of_nonneg h1]
  exact within_walk n k (by omega) (by omega) w

/-- The reader at rb, the bytes bv beside it, what was there before (below B, in w0). -/
structure St (B : Nat) (w0 w : World) (rb : Nat) (bv : Value) (ds : List Nat) (pos : Nat) (bad : Bool) : Prop where
  rd : Rd 79 w rb ds pos bad
  own : w.ownsRow 0 5 1 bv ds.length (ds.map byteV)
  ne : bv.ownBlock ≠ some rb
  lo : B ≤ rb
  below : Below B w0 w

variable {B : Nat} {w0 w : World} {rb : Nat} {bv : Value} {ds : List Nat} {pos : Nat} {bad : Bool}

theorem St.step (h : St B w0 w rb bv ds pos bad) {w' : World} {pos' : Nat} {bad' : Bool} (hr : Rd 79 w' rb ds pos' bad') (hg : w.grownBy w' (some rb)) : St B w0 w' rb bv ds pos' bad' := by
  refine ⟨hr, owns_grown h.own hg h.ne, h.ne, h.lo, h.below.grown hg ?_ fun k hk => by cases hk; exact h.lo⟩
  obtain ⟨c, hc⟩ := h.rd.type
  have := lt_of_block hc
  have := h.lo
  omega

theorem St.old (h : St B w0 w rb bv ds pos bad) {w' : World} (hb : Below w.heap.size w w') : St B w0 w' rb bv ds pos bad := by
  refine ⟨h.rd.old hb, owns_old h.own hb, h.ne, h.lo, h.below.trans (hb.mono ?_)⟩
  obtain ⟨c, hc⟩ := h.rd.type
  have := lt_of_block hc
  have := h.lo
  omega

theorem St.drewN (h : St B w0 w rb bv ds pos bad) (k : Nat) : St B w0 (w.drewN k) rb bv ds pos bad := h.old ⟨rfl, rfl, rfl, Nat.le_refl _, fun _ _ => rfl⟩
theorem St.drew (h : St B w0 w rb bv ds pos bad) : St B w0 w.drew rb bv ds pos bad := h.old ⟨rfl, rfl, rfl, Nat.le_refl _, fun _ _ => rfl⟩

theorem St.get (h : St B w0 w rb bv ds pos false) (c : Nat) (hc : c ≤ 16) (hl : pos + c ≤ 8 * ds.length) :
    Calls Tryd.prog 62 #[.pointer (some ⟨rb, 0, none⟩), .int .i64 c] w fun e w' => e = .returned (.int .i64 ((val ds / 2 ^ pos % 2 ^ c : Nat) : Int)) ∧ St B w0 w' rb bv ds (pos + c) false :=
  (get_has w rb ds pos c h.rd hc hl).mono fun e w' ⟨h1, h2, h3⟩ => ⟨h1, h.step h2 h3⟩

theorem St.getNot (h : St B w0 w rb bv ds pos bad) (c : Int) (hn : ¬ Has ds pos bad c) :
    Calls Tryd.prog 62 #[.pointer (some ⟨rb, 0, none⟩), .int .i64 c] w fun e w' => e = .returned (.int .i64 0) ∧ St B w0 w' rb bv ds pos true :=
  (get_not w rb ds pos bad c h.rd hn).mono fun e w' ⟨h1, h2, h3⟩ => ⟨h1, h.step h2 h3⟩

theorem St.bit (h : St B w0 w rb bv ds pos false) (hl : pos + 1 ≤ 8 * ds.length) :
    Calls Tryd.prog 87 #[.pointer (some ⟨rb, 0, none⟩)] w fun e w' => e = .returned (.int .i64 ((val ds / 2 ^ pos % 2 : Nat) : Int)) ∧ St B w0 w' rb bv ds (pos + 1) false :=
  (bit_has w rb ds pos h.rd hl).mono fun e w' ⟨h1, h2, h3⟩ => ⟨h1, h.step h2 h3⟩

theorem St.bitNot (h : St B w0 w rb bv ds pos bad) (hn : ¬ Has ds pos bad 1) :
    Calls Tryd.prog 87 #[.pointer (some ⟨rb, 0, none⟩)] w fun e w' => e = .returned (.int .i64 0) ∧ St B w0 w' rb bv ds pos true :=
  (bit_not w rb ds pos bad h.rd hn).mono fun e w' ⟨h1, h2, h3⟩ => ⟨h1, h.step h2 h3⟩

theorem St.left (h : St B w0 w rb bv ds pos bad) :
    Calls Tryd.prog 68 #[.pointer (some ⟨rb, 0, none⟩)] w fun e w' => e = .returned (.int .i64 (8 * (ds.length : Int) - pos)) ∧ St B w0 w' rb bv ds pos bad :=
  (left_walk w rb ds pos bad h.rd).mono fun e w' ⟨h1, k, h2⟩ => ⟨h1, by subst h2; exact h.drewN k⟩

theorem St.isBad (h : St B w0 w rb bv ds pos bad) :
    Calls Tryd.prog 64 #[.pointer (some ⟨rb, 0, none⟩)] w fun e w' => e = .returned (.bool bad) ∧ St B w0 w' rb bv ds pos bad :=
  (bad_walk w rb ds pos bad h.rd).mono fun e w' ⟨h1, h2⟩ => ⟨h1, by subst h2; exact h⟩

theorem St.align (h : St B w0 w rb bv ds pos bad) :
    Calls Tryd.prog 77 #[.pointer (some ⟨rb, 0, none⟩)] w fun e w' => e = .returned (.tuple #[]) ∧ St B w0 w' rb bv ds ((pos + 7) / 8 * 8) bad :=
  (skip_walk w rb ds pos bad h.rd).mono fun e w' ⟨h1, h2, h3⟩ => ⟨h1, h.step h2 h3⟩

theorem st_new (w0 w : World) (B : Nat) (v : Value) (bs : List Nat) (h : w.ownsRow B 5 1 v bs.length (bs.map byteV)) (hB : B ≤ w.heap.size) (hs : Small bs) (hl : bs.length ≤ 140737488355328) (hb : Below B w0 w) :
    Calls Tryd.prog 30 #[v] w fun e w' => ∃ rb, e = .returned (.pointer (some ⟨rb, 0, none⟩)) ∧ St B w0 w' rb v bs 0 false := by
  refine (reader_walk w v bs (lies_own h) hs hl).mono ?_
  rintro e w' ⟨rb, rfl, hr, hlo, hbel⟩
  exact ⟨rb, rfl, hr, owns_base (owns_old h hbel) (Nat.zero_le _), fun he => by have := (h.lt rb he).2; omega, by omega, hb.trans (hbel.mono hB)⟩

end Go.Proofs.YtdokpimhhkbdbaaDoor
