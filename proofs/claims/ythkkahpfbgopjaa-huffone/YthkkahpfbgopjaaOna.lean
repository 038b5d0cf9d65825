/-
  HuffOne: the walk.
-/
import Derived.Test.YthkkahpfbgopjaaMk
set_option linter.unusedSimpArgs false
set_option linter.unusedVariables false
namespace Go.Proofs.Ythkkahpfbgopjaa
open Go.RowKit

def zeros20 : List Int := [0, 0, 0, 0, 0, 0, 0, 0, 0, 0, 0, 0, 0, 0, 0, 0, 0, 0, 0, 0]
/-- All noughts, and a one at a place. -/
def one20 (a : Nat) : List Int := zeros20.set a 1
def l0 : List Nat := zeros20.map Int.toNat
def l1 (a : Nat) : List Nat := (one20 a).map Int.toNat

theorem ok0 : OK zeros20 := by decide
theorem ok1 : ∀ a, a < 20 → OK (one20 a) := by decide
theorem l1_facts : ∀ a, a < 20 → (l1 a).length = 20 ∧ nth (l1 a) a = 1 ∧ code (l1 a) a = 0 ∧ nth (l1 a) (a + 1) = 0 ∧ nth l0 a = 0 := by decide
theorem l1_only : ∀ a, a < 20 → ∀ i, i < 20 → 0 < nth (l1 a) i → i = a := by decide
theorem l0_none : ∀ i, i < 20 → nth l0 i = 0 := by decide

theorem hit0 (f : Nat → Nat) (av i : Nat) : ¬ Hit l0 f av i := by
  rintro ⟨h1, h2, _⟩
  have := l0_none i h1
  omega

theorem hit1 (a : Nat) (ha : a < 20) (f : Nat → Nat) (av i : Nat) (hav : 0 < av) : Hit (l1 a) f av i ↔ (i = a ∧ f 0 = 0) := by
  obtain ⟨h1, h2, h3, h4, _⟩ := l1_facts a ha
  constructor
  · rintro ⟨g1, g2, g3, g4⟩
    have : i = a := l1_only a ha i (by omega) g2
    subst this
    rw [h2, h3] at g4
    simp only [top] at g4
    exact ⟨rfl, by omega⟩
  · rintro ⟨rfl, h0⟩
    refine ⟨by omega, by omega, by omega, ?_⟩
    rw [h2, h3]
    simp only [top]
    omega

theorem nx0 (b : Nat) (hb : b < 256) : nx [b] 0 0 = b % 2 := by
  unfold nx
  simp [val]

theorem ord0 : ord l0 16 = [] := by decide
theorem row0 : zeroRow 20 = (zeros20.map intV).toArray := by rfl
theorem row1 : ∀ a, a < 20 → ((zeros20.map intV).toArray.setIfInBounds a (.int .i64 1)) = ((one20 a).map intV).toArray := by
  intro a ha
  unfold one20
  apply Array.ext'
  simp [List.map_set, intV]

theorem ints_at {w : World} {g : Nat} {zs : List Int} (h : w.heap[g]? = some (.cells (zs.map intV).toArray 3 (0, 0))) (n : Nat) (hn : zs.length = n) : Ints w (.slice (some ⟨g, 0, none⟩) n n) zs := by
  subst hn
  refine ⟨_, _, rfl, Nat.le_refl _, fun h => (by cases h), fun a ha j hj => ?_⟩
  cases ha
  have hadd : (⟨g, 0, none⟩ : Addr).add j = ⟨g, j, none⟩ := by unfold Addr.add; split <;> simp_all
  rw [hadd, cell_of_row _ _ j _ 3 (0, 0) h]
  simp [hj, intV]

/-- The two tables, the reader, and what was there before. -/
structure Two (B : Nat) (w0 w : World) (a t0 t1 rb : Nat) (bs : List Nat) (pos : Nat) : Prop where
  none : Tab w t0 l0
  one : Tab w t1 (l1 a)
  rd : Rd 71 w rb bs pos false
  below : Below B w0 w
  size : B ≤ w.heap.size
  lor : B ≤ rb

theorem Two.old {B : Nat} {w0 w w' : World} {a t0 t1 rb : Nat} {bs : List Nat} {pos : Nat} (h : Two B w0 w a t0 t1 rb bs pos) (hb : Below w.heap.size w w') : Two B w0 w' a t0 t1 rb bs pos :=
  ⟨h.none.old hb, h.one.old hb, h.rd.old hb, h.below.trans (hb.mono h.size), Nat.le_trans h.size hb.size, h.lor⟩

set_option maxRecDepth 100000 in
set_option maxHeartbeats 4000000 in
theorem one_law (w : World) (n : Int) (b : Nat) (hb : b < 256) :
    Calls Try.prog 4 #[.int .i64 n, .int .u8 (b : Int)] w fun e w' => e = .returned (.bool true) ∧ Below w.heap.size w w' := by
  obtain ⟨a, ha, hwi⟩ := within_lit n 20 20 (by decide) rfl (by decide)
  have hwk := wakes_hid
  have hmk : ∀ w : World, (Instr.makeSlice 26 (.int .i64 20) (.int .i64 20)).run Try.prog w = .ok (.slice (some ⟨w.heap.size, 0, none⟩) 20 20) (w.alloc (.cells (zeroRow 20) 3)) := make_zero 20 (by decide)
  obtain ⟨Z, hZ⟩ : ∃ Z, Z = zeroRow 20 := ⟨_, rfl⟩
  rw [← hZ] at hmk
  have hh0 : (w.alloc (.cells Z 3)).heap[w.heap.size]? = some (.cells (zeros20.map intV).toArray 3 (0, 0)) := by rw [hZ, row0]; exact heap_alloc_new w _
  have hn0 : Hid (Calls Try.prog 8 #[.slice (some ⟨w.heap.size, 0, none⟩) 20 20] (w.alloc (.cells Z 3)) fun e w1 => ∃ t0, e = .returned (.tuple #[.pointer (some ⟨t0, 0, none⟩), .int .i64 0]) ∧ Tab w1 t0 l0 ∧ Below (w.heap.size + 1) (w.alloc (.cells Z 3)) w1 ∧ w1.heap[w.heap.size]? = some (.cells (zeros20.map intV).toArray 3 (0, 0))) := by
    refine ((new_lit zeros20 ok0).out _ _ (ints_at hh0 20 rfl)).mono ?_
    rintro e w1 ⟨t0, rfl, -, hb, hT⟩
    refine ⟨t0, rfl, hT, by simpa using hb, ?_⟩
    rw [hb.block _ (by simp)]
    exact hh0
  clear hh0 hZ
  have hix : 0 ≤ (a : Int) ∧ (a : Int) ≤ 19 := by omega
  go_enter Try.func4, Try.ntmps4
  go_wp2_with (first
    | (go_at_call 10; (with_reducible refine (hwi.out _).mono ?_); rintro e wx ⟨rfl, hx⟩; have hx := hx.symm; subst hx)
    | (go_at_call 8; (with_reducible refine hn0.out.mono ?_); rintro e w1 ⟨t0, rfl, hT0, hb1, hz1⟩
       have hca : ∃ u, w1.cell? ⟨w.heap.size, a, none⟩ = some u := ⟨_, (cell_of_row _ _ a _ 3 (0, 0) hz1).trans (Array.getElem?_eq_getElem (by simp [zeros20]; omega))⟩
       obtain ⟨u, hu⟩ := hca
       have hfz := free_at hz1 a))
  obtain ⟨w2, hw2⟩ : ∃ w2, w2 = w1.setCell ⟨w.heap.size, a, none⟩ (.int .i64 1) := ⟨_, rfl⟩
  have hT2 : Tab w2 t0 l0 := by rw [hw2]; exact hT0.none_set ord0 hz1 a _
  have hz2 : w2.heap[w.heap.size]? = some (.cells ((one20 a).map intV).toArray 3 (0, 0)) := by rw [hw2, ← row1 a ha]; exact row_setCell hz1 a _
  have hb2 : Below w.heap.size w w2 := by
    rw [hw2]
    exact ((((Below.refl _ w).alloc (Nat.le_refl _) (.cells Z 3)).trans (hb1.mono (by omega))).setCell (p := ⟨w.heap.size, a, none⟩) (Nat.le_refl _) _)
  rw [← hw2]
  clear hw2 hz1 hT0 hb1 hu hfz hmk hn0
  obtain ⟨B, hB⟩ : ∃ B, B = w.heap.size := ⟨_, rfl⟩
  have hn1 : Hid (Calls Try.prog 8 #[.slice (some ⟨w.heap.size, 0, none⟩) 20 20] w2 fun e w3 => ∃ t1, e = .returned (.tuple #[.pointer (some ⟨t1, 0, none⟩), .int .i64 0]) ∧ Tab w3 t1 (l1 a) ∧ Tab w3 t0 l0 ∧ Below B w w3) := by
    refine ((new_lit (one20 a) (ok1 a ha)).out _ _ (ints_at hz2 20 (by simp [one20, zeros20]))).mono ?_
    rintro e w3 ⟨t1, rfl, -, hb, hT⟩
    rw [hB]
    exact ⟨t1, rfl, hT, hT2.old hb, hb2.trans (hb.mono hb2.size)⟩
  have hsm : Small [b] := by intro x hx; simp at hx; omega
  have hrd1 : Hid (∀ w3 t1, Tab w3 t1 (l1 a) → Tab w3 t0 l0 → Below B w w3 → Calls Try.prog 12 #[.slice (some ⟨w3.heap.size, 0, none⟩) 1 1] (w3.alloc (.cells #[.int .u8 (b : Int)] 5)) fun e w4 => ∃ rb, e = .returned (.pointer (some ⟨rb, 0, none⟩)) ∧ Two B w w4 a t0 t1 rb [b] 0) := by
    intro w3 t1 h1 h0 hb3
    have hal : Below w3.heap.size w3 (w3.alloc (.cells #[.int .u8 (b : Int)] 5)) := (Below.refl _ _).alloc (Nat.le_refl _) _
    refine (reader_walk _ _ [b] (lies_lit w3 [b] _ rfl) hsm (by simp)).mono ?_
    rintro e w4 ⟨rb, rfl, hR, hlo, hb4⟩
    have hb34 := hal.trans (hb4.mono (by simp))
    have h3 := hb3.size
    exact ⟨rb, rfl, h0.old hb34, h1.old hb34, hR, hb3.trans (hb34.mono (by omega)), by have := hb34.size; omega, by simp at hlo; omega⟩
  have hrd2 : Hid (∀ w4 t1 rb, Two B w w4 a t0 t1 rb [b] 0 → Calls Try.prog 12 #[.slice (some ⟨w4.heap.size, 0, none⟩) 1 1] (w4.alloc (.cells #[.int .u8 (b : Int)] 5)) fun e w5 => ∃ qb, e = .returned (.pointer (some ⟨qb, 0, none⟩)) ∧ Two B w w5 a t0 t1 rb [b] 0 ∧ Rd 71 w5 qb [b] 0 false ∧ rb ≠ qb ∧ B ≤ qb) := by
    intro w4 t1 rb hT
    have hal : Below w4.heap.size w4 (w4.alloc (.cells #[.int .u8 (b : Int)] 5)) := (Below.refl _ _).alloc (Nat.le_refl _) _
    refine (reader_walk _ _ [b] (lies_lit w4 [b] _ rfl) hsm (by simp)).mono ?_
    rintro e w5 ⟨qb, rfl, hR, hlo, hb5⟩
    have hb45 := hal.trans (hb5.mono (by simp))
    obtain ⟨c, hc⟩ := hT.rd.type
    have := lt_of_block hc
    have := hT.size
    simp at hlo
    exact ⟨qb, rfl, hT.old hb45, hR, by omega, by omega⟩
  have hgq : Hid (∀ w5 t1 rb qb, Two B w w5 a t0 t1 rb [b] 0 → Rd 71 w5 qb [b] 0 false → rb ≠ qb → B ≤ qb → Calls Try.prog 13 #[.pointer (some ⟨t0, 0, none⟩), .pointer (some ⟨qb, 0, none⟩)] w5 fun e w6 => e = .returned (.tuple #[.int .i64 0, .bool false]) ∧ Two B w w6 a t0 t1 rb [b] 0) := by
    intro w5 t1 rb qb hT hR hne hq
    obtain ⟨c, hc⟩ := hR.type
    refine (get_walk w5 t0 qb l0 [b] 0 hT.none hR).mono ?_
    rintro e w6 ⟨hg, ⟨i, hi, _⟩ | ⟨_, rfl, _⟩⟩
    · exact absurd hi (hit0 _ _ _)
    · exact ⟨rfl, hT.none.apart hg hc (by decide) (by decide) (by decide), hT.one.apart hg hc (by decide) (by decide) (by decide), hT.rd.apart hg hc (by decide) hne, hT.below.grown hg hT.size (fun k hk => by cases hk; exact hq), Nat.le_trans hT.size hg.size, hT.lor⟩
  have hgr : Hid (∀ w6 t1 rb, Two B w w6 a t0 t1 rb [b] 0 → Calls Try.prog 13 #[.pointer (some ⟨t1, 0, none⟩), .pointer (some ⟨rb, 0, none⟩)] w6 fun e w7 => e = .returned (.tuple #[.int .i64 (if b % 2 = 0 then (a : Int) else 0), .bool (decide (b % 2 = 0))]) ∧ Tab w7 t0 l0 ∧ Tab w7 t1 (l1 a) ∧ Below B w w7 ∧ B ≤ w7.heap.size ∧ (b % 2 = 0 → Rd 71 w7 rb [b] 1 false)) := by
    intro w6 t1 rb hT
    obtain ⟨c, hc⟩ := hT.rd.type
    have hx0 := nx0 b hb
    refine (get_walk w6 t1 rb (l1 a) [b] 0 hT.one hT.rd).mono ?_
    rintro e w7 ⟨hg, hcase⟩
    have hrest : Tab w7 t0 l0 ∧ Tab w7 t1 (l1 a) ∧ Below B w w7 ∧ B ≤ w7.heap.size := ⟨hT.none.apart hg hc (by decide) (by decide) (by decide), hT.one.apart hg hc (by decide) (by decide) (by decide), hT.below.grown hg hT.size (fun k hk => by cases hk; exact hT.lor), Nat.le_trans hT.size hg.size⟩
    rcases hcase with ⟨i, hi, rfl, hR⟩ | ⟨hno, rfl, _⟩
    · obtain ⟨rfl, h0⟩ := (hit1 a ha _ _ i (by simp)).1 hi
      rw [hx0] at h0
      rw [(l1_facts i ha).2.1] at hR
      rw [if_pos h0, show decide (b % 2 = 0) = true by simp [h0]]
      exact ⟨rfl, hrest.1, hrest.2.1, hrest.2.2.1, hrest.2.2.2, fun _ => hR⟩
    · have h1 : ¬ b % 2 = 0 := fun h => hno a ((hit1 a ha _ _ a (by simp)).2 ⟨rfl, by rw [hx0]; exact h⟩)
      rw [if_neg h1, show decide (b % 2 = 0) = false by simp [h1]]
      exact ⟨rfl, hrest.1, hrest.2.1, hrest.2.2.1, hrest.2.2.2, fun h => absurd h h1⟩
  have hnw : Hid (∀ w, Calls Try.prog 14 #[] w fun e w' => e = .returned (.pointer (some ⟨w.heap.size, 0, none⟩)) ∧ In w.heap.size w.heap.size w w' 0 0) := new_in
  have hp1 : Hid (∀ w7 t1 wx, Tab w7 t1 (l1 a) → In w7.heap.size w7.heap.size w7 wx 0 0 → Calls Try.prog 15 #[.pointer (some ⟨t1, 0, none⟩), .pointer (some ⟨w7.heap.size, 0, none⟩), .int .i64 (a : Int)] wx fun e w' => e = .returned (.bool true) ∧ In w7.heap.size w7.heap.size w7 w' 0 1) := by
    intro w7 t1 wx hT hI
    obtain ⟨f1, f2, f3, f4, f5⟩ := l1_facts a ha
    have := tput_has w7.heap.size w7.heap.size t1 wx (l1 a) a 0 0 (hT.old hI.2) hI.1 (by omega) (by omega) (by decide)
    rw [f2, f3] at this
    exact this.mono fun e w' ⟨e1, e2, e3⟩ => ⟨e1, e2, hI.2.trans e3⟩
  have hp2 : Hid (∀ w7 t1 wx, Tab w7 t1 (l1 a) → In w7.heap.size w7.heap.size w7 wx 0 1 → Calls Try.prog 15 #[.pointer (some ⟨t1, 0, none⟩), .pointer (some ⟨w7.heap.size, 0, none⟩), .int .i64 ((a : Int) + 1)] wx fun e w' => e = .returned (.bool false) ∧ In w7.heap.size w7.heap.size w7 w' 0 1) := by
    intro w7 t1 wx hT hI
    obtain ⟨f1, f2, f3, f4, f5⟩ := l1_facts a ha
    refine (tput_not _ t1 wx (l1 a) ((a : Int) + 1) (hT.old hI.2) (fun h => ?_)).mono fun e w' ⟨e1, k, e2⟩ => ⟨e1, by rw [e2]; exact hI.old (below_drewN _ _)⟩
    have h3 := h.2.2
    rw [show ((a : Int) + 1).toNat = a + 1 by omega, f4] at h3
    omega
  have hp3 : Hid (∀ w7 wx, Tab w7 t0 l0 → In w7.heap.size w7.heap.size w7 wx 0 1 → Calls Try.prog 15 #[.pointer (some ⟨t0, 0, none⟩), .pointer (some ⟨w7.heap.size, 0, none⟩), .int .i64 (a : Int)] wx fun e w' => e = .returned (.bool false) ∧ In w7.heap.size w7.heap.size w7 w' 0 1) := by
    intro w7 wx hT hI
    obtain ⟨f1, f2, f3, f4, f5⟩ := l1_facts a ha
    refine (tput_not _ t0 wx l0 (a : Int) (hT.old hI.2) (fun h => ?_)).mono fun e w' ⟨e1, k, e2⟩ => ⟨e1, by rw [e2]; exact hI.old (below_drewN _ _)⟩
    have h3 := h.2.2
    rw [Int.toNat_natCast, f5] at h3
    omega
  have hlf : Hid (∀ w7 rb wx, Rd 71 w7 rb [b] 1 false → In w7.heap.size w7.heap.size w7 wx 0 1 → Calls Try.prog 16 #[.pointer (some ⟨rb, 0, none⟩)] wx fun e w' => e = .returned (.int .i64 7) ∧ In w7.heap.size w7.heap.size w7 w' 0 1) := by
    intro w7 rb wx hR hI
    exact (left_walk wx rb [b] 1 false (hR.old hI.2)).mono fun e w' ⟨e1, k, e2⟩ => ⟨e1, by rw [e2]; exact hI.old (below_drewN _ _)⟩
  have hby : Hid (∀ w7 wx, In w7.heap.size w7.heap.size w7 wx 0 1 → Calls Try.prog 18 #[.pointer (some ⟨w7.heap.size, 0, none⟩)] wx fun e w' => ∃ v', e = .returned v' ∧ w'.ownsRow wx.heap.size 5 1 v' 1 ([0].map byteV) ∧ Below wx.heap.size wx w' ∧ In w7.heap.size w7.heap.size w7 w' 0 1) := fun w7 => (bytes_in (B := w7.heap.size) (p := w7.heap.size) (w0 := w7) 0 1 (by decide) [0] 1 rfl (by simp [Small]) rfl rfl).out
  have hsame := same_lit [0] [0] #[.int .u8 0] 1 true rfl rfl (by decide) (by decide)
  have hbl : Hid (∀ w7 wx, Below B w w7 → B ≤ w7.heap.size → In w7.heap.size w7.heap.size w7 wx 0 1 → Below w.heap.size w wx) := fun w7 wx h1 h2 h3 => by rw [← hB]; exact h1.trans (h3.2.mono h2)
  have HSZ : Hid (B = w.heap.size) := hB
  clear hB hz2 hT2 hb2
  by_cases hev : b % 2 = 0
  · have hdec : decide (b % 2 = 0) = true := by simp [hev]
    rw [hdec, if_pos hev] at hgr
    have hEV : Hid (b % 2 = 0) := hev
    have hmod : (b : Int).tmod 2 = 0 := by rw [Int.tmod_eq_emod_of_nonneg (by omega)]; omega
    clear hev hdec
    go_wp2_with (first
      | (go_at_call 8; (with_reducible refine hn1.out.mono ?_); rintro e w3 ⟨t1, rfl, hA3, hB3, hC3⟩)
      | (go_at_call 12; (with_reducible refine (hrd1.out _ _ hA3 hB3 hC3).mono ?_); rintro e w4 ⟨rb, rfl, h4⟩)
      | (go_at_call 12; (with_reducible refine (hrd2.out _ _ _ h4).mono ?_); rintro e w5 ⟨qb, rfl, h5, hq5, hn5, hl5⟩)
      | (go_at_call 13; (with_reducible refine (hgq.out _ _ _ _ h5 hq5 hn5 hl5).mono ?_); rintro e w6 ⟨rfl, h6⟩)
      | (go_at_call 13; (with_reducible refine (hgr.out _ _ _ h6).mono ?_); rintro e w7 ⟨rfl, hT0', hT1', hbw7, hsz7, hR7⟩)
      | (go_at_call 14; (with_reducible refine (hnw.out _).mono ?_); rintro e w8 ⟨rfl, h8⟩)
      | (go_at_call 15; (with_reducible refine (hp1.out _ _ _ hT1' (by assumption)).mono ?_); rintro e w9 ⟨rfl, h9⟩)
      | (go_at_call 15; (with_reducible refine (hp2.out _ _ _ hT1' (by assumption)).mono ?_); rintro e w10 ⟨rfl, h10⟩)
      | (go_at_call 15; (with_reducible refine (hp3.out _ _ hT0' (by assumption)).mono ?_); rintro e w11 ⟨rfl, h11⟩)
      | (go_at_call 16; (with_reducible refine (hlf.out _ _ _ (hR7 hEV.out) (by assumption)).mono ?_); rintro e w12 ⟨rfl, h12⟩)
      | (go_at_call 18; (with_reducible refine (hby.out _ _ (by assumption)).mono ?_); rintro e w13 ⟨v13, rfl, ho13, hb13, h13⟩)
      | (go_at_call 17; (with_reducible refine (hsame.out _ _ (lies_n rfl ho13)).mono ?_); rintro e w14 ⟨rfl, hb14⟩)
      | (go_at_call 11; (with_reducible refine (hwk.out _).mono ?_); rintro e w15 ⟨rfl, hb15⟩))
    go_ret
    exact ⟨rfl, hbl.out w7 w15 hbw7 hsz7 ((h13.old hb14).old hb15)⟩
  · have hdec : decide (b % 2 = 0) = false := by simp [hev]
    rw [hdec, if_neg hev] at hgr
    have hmod : (b : Int).tmod 2 = 1 := by rw [Int.tmod_eq_emod_of_nonneg (by omega)]; omega
    clear hev hdec
    go_wp2_with (first
      | (go_at_call 8; (with_reducible refine hn1.out.mono ?_); rintro e w3 ⟨t1, rfl, hA3, hB3, hC3⟩)
      | (go_at_call 12; (with_reducible refine (hrd1.out _ _ hA3 hB3 hC3).mono ?_); rintro e w4 ⟨rb, rfl, h4⟩)
      | (go_at_call 12; (with_reducible refine (hrd2.out _ _ _ h4).mono ?_); rintro e w5 ⟨qb, rfl, h5, hq5, hn5, hl5⟩)
      | (go_at_call 13; (with_reducible refine (hgq.out _ _ _ _ h5 hq5 hn5 hl5).mono ?_); rintro e w6 ⟨rfl, h6⟩)
      | (go_at_call 13; (with_reducible refine (hgr.out _ _ _ h6).mono ?_); rintro e w7 ⟨rfl, hT0', hT1', hbw7, hsz7, hR7⟩)
      | (go_at_call 14; (with_reducible refine (hnw.out _).mono ?_); rintro e w8 ⟨rfl, h8⟩)
      | (go_at_call 15; (with_reducible refine (hp1.out _ _ _ hT1' (by assumption)).mono ?_); rintro e w9 ⟨rfl, h9⟩)
      | (go_at_call 15; (with_reducible refine (hp2.out _ _ _ hT1' (by assumption)).mono ?_); rintro e w10 ⟨rfl, h10⟩)
      | (go_at_call 15; (with_reducible refine (hp3.out _ _ hT0' (by assumption)).mono ?_); rintro e w11 ⟨rfl, h11⟩)
      | (go_at_call 18; (with_reducible refine (hby.out _ _ (by assumption)).mono ?_); rintro e w13 ⟨v13, rfl, ho13, hb13, h13⟩)
      | (go_at_call 17; (with_reducible refine (hsame.out _ _ (lies_n rfl ho13)).mono ?_); rintro e w14 ⟨rfl, hb14⟩)
      | (go_at_call 11; (with_reducible refine (hwk.out _).mono ?_); rintro e w15 ⟨rfl, hb15⟩))
    go_ret
    exact ⟨rfl, hbl.out w7 w15 hbw7 hsz7 ((h13.old hb14).old hb15)⟩

theorem one_any (w : World) (n z : Int) (hz : 0 ≤ z ∧ z < 256) :
    Calls Try.prog 4 #[.int .i64 n, .int .u8 z] w fun e w' => e = .returned (.bool true) ∧ Below w.heap.size w w' := by
  obtain ⟨b, rfl⟩ := Int.eq_ofNat_of_zero_le hz.1
  exact one_law w n b (by omega)
end Go.Proofs.Ythkkahpfbgopjaa
