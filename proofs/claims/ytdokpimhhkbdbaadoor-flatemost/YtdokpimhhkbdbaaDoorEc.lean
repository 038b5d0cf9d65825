/-
  The document's Pack; FlatePacks: its walk.
-/
import Derived.Test.YtdokpimhhkbdbaaDoorEb
import Derived.Test.YtdokpimhhkbdbaaDoorDz
import Derived.Test.YtdokpimhhkbdbaaDoorYc
import Derived.Test.YtdokpimhhkbdbaaDoorLe
set_option linter.unusedSimpArgs false
set_option linter.unusedVariables false
namespace Go.Proofs.YtdokpimhhkbdbaaDoor
open Go.RowKit

theorem val_inj {x y : List Nat} (hx : Small x) (hy : Small y) (hl : x.length = y.length) (hv : val x = val y) : x = y := by
  apply List.ext_getElem hl
  intro i h1 h2
  have e := val_byte hx i
  rw [hv, val_byte hy i] at e
  simpa [h1, h2] using e.symm

theorem fixd_one {b x y : List Nat} (hx : Fixd b x) (hy : Fixd b y) : x = y :=
  val_inj hx.1 hy.1 (by rw [hx.2.2, hy.2.2]) (by rw [hx.2.1, hy.2.1])

/-- The shorter one; of two that are as long the stored one. -/
def Packs (b x : List Nat) : Prop := (((fixE b).2 + 7) / 8 < (stoL b).length ∧ Fixd b x) ∨ (¬ ((fixE b).2 + 7) / 8 < (stoL b).length ∧ x = stoL b)

theorem packs_one {b x y : List Nat} (hx : Packs b x) (hy : Packs b y) : x = y := by
  rcases hx with ⟨h1, h2⟩ | ⟨h1, h2⟩ <;> rcases hy with ⟨k1, k2⟩ | ⟨k1, k2⟩
  · exact fixd_one h2 k2
  · exact absurd h1 k1
  · exact absurd k1 h1
  · rw [h2, k2]

set_option maxRecDepth 100000 in
theorem packs24 (w : World) (v : Value) (b : List Nat) (hv : Lies w v b) (hs : Small b) (hb : b.length ≤ 19000) :
    Calls Tryd.prog 24 #[v] w fun e w' => ∃ v' x, e = .returned v' ∧ Hid (w'.ownsRow w.heap.size 5 1 v' x.length (x.map byteV)) ∧ Hid (Packs b x) ∧ Hid (Below w.heap.size w w') := by
  obtain ⟨N1, hN1⟩ : ∃ N1, N1 = (stoL b).length := ⟨_, rfl⟩
  obtain ⟨N2, hN2⟩ : ∃ N2, N2 = ((fixE b).2 + 7) / 8 := ⟨_, rfl⟩
  have h21 : Hid (Calls Tryd.prog 21 #[v] w fun e w' => ∃ ao cap, e = .returned (.slice ao N1 cap) ∧ Hid (w'.ownsRow w.heap.size 5 1 (.slice ao N1 cap) (stoL b).length ((stoL b).map byteV)) ∧ Hid (Below w.heap.size w w')) := by
    refine (stored21 w v b hv (by omega)).mono ?_
    rintro e w' ⟨v', rfl, h1, h2⟩
    obtain ⟨ao, cap, rfl⟩ := own_slc h1.out
    rw [← hN1] at *
    exact ⟨ao, cap, rfl, h1, h2⟩
  have h26 : Hid (∀ wx, Hid (Below w.heap.size w wx) → Calls Tryd.prog 26 #[v] wx fun e w' => ∃ ao cap x, e = .returned (.slice ao N2 cap) ∧ Hid (w'.ownsRow w.heap.size 5 1 (.slice ao N2 cap) x.length (x.map byteV)) ∧ Hid (Fixd b x) ∧ Hid (Below wx.heap.size wx w')) := by
    intro wx hx
    refine (fixed26 wx v b (hv.old hx.out) hs hb).mono ?_
    rintro e w' ⟨v', x, rfl, h1, h2, h3, h4, h5⟩
    obtain ⟨ao, cap, rfl⟩ := own_slc h1
    have e : x.length = N2 := by rw [h4, hN2]
    refine ⟨ao, cap, x, by rw [e], ?_, ⟨h2, h3, h4⟩, h5⟩
    show World.ownsRow _ _ _ _ _ _ _
    rw [← e]
    exact owns_base h1 hx.out.size
  have hS : (stoL b).length = b.length + 5 := by simp [stoL, Q.headL]
  have hF := fix_small b hs hb
  have b1 : N1 ≤ 100000 := by omega
  have b2 : N2 ≤ 100000 := by omega
  have HN1 := Q.mkHid hN1
  have HN2 := Q.mkHid hN2
  clear hv hs hb hN1 hN2 hS hF
  by_cases hlt : N2 < N1
  · go_enter Tryd.func24, Tryd.ntmps24
    go_wp2_with (first
      | (go_at_call 21; (with_reducible refine h21.out.mono ?_); rintro e w1 ⟨ao, cap, rfl, HO, HB⟩)
      | (go_at_call 26; (with_reducible refine (h26.out _ HB).mono ?_); rintro e w2 ⟨ao2, cap2, x, rfl, HO2, HX, HB2⟩))
    go_ret
    refine ⟨_, x, rfl, HO2, .inl ⟨by have := HN1.out; have := HN2.out; omega, HX.out⟩, HB.out.trans (HB2.out.mono HB.out.size)⟩
  · go_enter Tryd.func24, Tryd.ntmps24
    go_wp2_with (first
      | (go_at_call 21; (with_reducible refine h21.out.mono ?_); rintro e w1 ⟨ao, cap, rfl, HO, HB⟩)
      | (go_at_call 26; (with_reducible refine (h26.out _ HB).mono ?_); rintro e w2 ⟨ao2, cap2, x, rfl, HO2, HX, HB2⟩))
    go_ret
    refine ⟨_, stoL b, rfl, Lz.owns_below HO.out HB2.out, .inr ⟨by have := HN1.out; have := HN2.out; omega, rfl⟩, HB.out.trans (HB2.out.mono HB.out.size)⟩

set_option maxRecDepth 100000 in
theorem dpack25 (w : World) (v : Value) (b : List Nat) (hv : Lies w v b) (hs : Small b) (hb : b.length ≤ 19000) :
    Calls Tryd.prog 25 #[v] w fun e w' => ∃ v' x, e = .returned v' ∧ Hid (Lies w' v' x) ∧ Hid (Packs b x) ∧ Hid (Below w.heap.size w w') := by
  obtain ⟨N1, hN1⟩ : ∃ N1, N1 = (stoL b).length := ⟨_, rfl⟩
  obtain ⟨N2, hN2⟩ : ∃ N2, N2 = ((fixE b).2 + 7) / 8 := ⟨_, rfl⟩
  have h27 : Hid (Calls Tryd.prog 27 #[v] w fun e w' => ∃ ao cap x, e = .returned (.slice ao N2 cap) ∧ Hid (Lies w' (.slice ao N2 cap) x) ∧ Hid (Fixd b x) ∧ Hid (Below w.heap.size w w')) := by
    refine (docblock w v b hv hs hb).mono ?_
    rintro e w' ⟨v', x, rfl, h1, h2, h3⟩
    obtain ⟨ao, cap, rfl, h, _⟩ := Q.lies_form N2 (by rw [h2.2.2, hN2]) h1
    exact ⟨ao, cap, x, rfl, h, h2, h3⟩
  have h28 : Hid (∀ wx, Hid (Below w.heap.size w wx) → Calls Tryd.prog 28 #[v] wx fun e w' => ∃ ao cap, e = .returned (.slice ao N1 cap) ∧ Hid (Lies w' (.slice ao N1 cap) (stoL b)) ∧ Hid (Below wx.heap.size wx w')) := by
    intro wx hx
    refine (dstored1 wx v b (hv.old hx.out) (by omega)).mono ?_
    rintro e w' ⟨v', rfl, h1, h2⟩
    obtain ⟨ao, cap, rfl, h, _⟩ := Q.lies_form N1 hN1 (lies_own h1.out)
    exact ⟨ao, cap, rfl, h, h2⟩
  have hS : (stoL b).length = b.length + 5 := by simp [stoL, Q.headL]
  have hF := fix_small b hs hb
  have b1 : N1 ≤ 100000 := by omega
  have b2 : N2 ≤ 100000 := by omega
  have HN1 := Q.mkHid hN1
  have HN2 := Q.mkHid hN2
  clear hv hs hb hN1 hN2 hS hF
  by_cases hlt : N2 < N1
  · go_enter Tryd.func25, Tryd.ntmps25
    go_wp2_with (first
      | (go_at_call 27; (with_reducible refine h27.out.mono ?_); rintro e w1 ⟨ao, cap, x, rfl, HO, HX, HB⟩)
      | (go_at_call 28; (with_reducible refine (h28.out _ HB).mono ?_); rintro e w2 ⟨ao2, cap2, rfl, HO2, HB2⟩))
    go_ret
    exact ⟨_, x, rfl, HO.out.old HB2.out, .inl ⟨by have := HN1.out; have := HN2.out; omega, HX.out⟩, HB.out.trans (HB2.out.mono HB.out.size)⟩
  · go_enter Tryd.func25, Tryd.ntmps25
    go_wp2_with (first
      | (go_at_call 27; (with_reducible refine h27.out.mono ?_); rintro e w1 ⟨ao, cap, x, rfl, HO, HX, HB⟩)
      | (go_at_call 28; (with_reducible refine (h28.out _ HB).mono ?_); rintro e w2 ⟨ao2, cap2, rfl, HO2, HB2⟩))
    go_ret
    exact ⟨_, stoL b, rfl, HO2, .inr ⟨by have := HN1.out; have := HN2.out; omega, rfl⟩, HB.out.trans (HB2.out.mono HB.out.size)⟩

end Go.Proofs.YtdokpimhhkbdbaaDoor
