/-
  Stored of at most 65535 bytes; Pack.
-/
import Derived.Test.YtdokpimhhkbdbaaDoorXe
import Derived.Test.YtdokpimhhkbdbaaDoorVb
set_option linter.unusedSimpArgs false
set_option linter.unusedVariables false
namespace Go.Proofs.YtdokpimhhkbdbaaDoor
open Go.RowKit

/-- Stored, of bytes that one block holds. -/
def stoL (b : List Nat) : List Nat := Q.headL b.length true ++ b

theorem stored21 (w : World) (v : Value) (b : List Nat) (hv : Lies w v b) (hn : b.length ≤ 65535) :
    Calls Tryd.prog 21 #[v] w fun e w' => ∃ v', e = .returned v' ∧ Hid (w'.ownsRow w.heap.size 5 1 v' (stoL b).length ((stoL b).map byteV)) ∧ Hid (Below w.heap.size w w') := by
  have h : Hid (Calls Tryd.prog 37 #[.slice none 0 0, v, .bool true] w fun e w' => ∃ v', e = .returned v' ∧ w'.ownsRow w.heap.size 5 1 v' (stoL b).length ((stoL b).map byteV) ∧ Below w.heap.size w w') :=
    Q.appendStored_walk w w.heap.size (.slice none 0 0) v [] b true (World.ownsRow_nil _ _ _ _) hv (Nat.le_refl _) hn (by decide) (fun w1 w2 hg hl _ => hl.old ⟨hg.os, hg.tape, hg.output, hg.size, fun k hk => hg.block k hk (by simp [Value.ownBlock])⟩)
  obtain ⟨ao, cap, rfl, -, -, -⟩ := hv
  generalize stoL b = Z at h ⊢
  generalize b.length = n at h hn ⊢
  have hni : (n : Int) ≤ 65535 := by omega
  go_enter Tryd.func21, Tryd.ntmps21
  go_wp2
  refine wp_loop_rounds 1 ?_
  rw [rounds_succ]
  go_wp2_with (first
    | (go_at_call 37; (with_reducible refine h.out.mono ?_); rintro e w1 ⟨v1, rfl, ho, hb⟩
       have HO := Q.mkHid ho
       have HB := Q.mkHid hb
       clear ho hb))
  go_ret
  exact ⟨_, rfl, HO.out, HB.out⟩

/-- The bytes x are what Fixed writes of b. -/
def Fixd (b x : List Nat) : Prop := Small x ∧ val x = (fixE b).1 ∧ x.length = ((fixE b).2 + 7) / 8
/-- The bytes x are what Pack answers. -/
def Packd (b x : List Nat) : Prop := (x = stoL b ∨ Fixd b x) ∧ x.length ≤ (stoL b).length ∧ x.length ≤ ((fixE b).2 + 7) / 8

theorem own_slc {w : World} {B e sz : Nat} {v : Value} {n : Nat} {xs : List Value} (h : w.ownsRow B e sz v n xs) : ∃ ao cap, v = .slice ao n cap := by
  rcases h.2 with ⟨rfl, hn⟩ | ⟨g, cap, cur, rfl, _⟩
  · exact ⟨none, 0, by rw [hn]⟩
  · exact ⟨_, _, rfl⟩

theorem fix_small (b : List Nat) (hs : Small b) (hb : b.length ≤ 19000) : ((fixE b).2 + 7) / 8 ≤ 100000 := by
  have h1 := putAll_len (Lz.splitL b) fixS (split_ok b hs hb)
  have h2 := split_len b
  have h3 : (sigP litsL 256).2 = 7 := lits_256.1
  have h4 : fixS.2 = 3 := rfl
  simp only [fixE, wadd, h3]
  omega

set_option maxRecDepth 100000 in
theorem pack24 (w : World) (v : Value) (b : List Nat) (hv : Lies w v b) (hs : Small b) (hb : b.length ≤ 19000) :
    Calls Tryd.prog 24 #[v] w fun e w' => ∃ v' x, e = .returned v' ∧ Hid (w'.ownsRow w.heap.size 5 1 v' x.length (x.map byteV)) ∧ Hid (Packd b x) ∧ Hid (Below w.heap.size w w') := by
  obtain ⟨N1, hN1⟩ : ∃ N1, N1 = (stoL b).length := ⟨_, rfl⟩
  obtain ⟨N2, hN2⟩ : ∃ N2, N2 = ((fixE b).2 + 7) / 8 := ⟨_, rfl⟩
  have h21 : Hid (Calls Tryd.prog 21 #[v] w fun e w' => ∃ ao cap, e = .returned (.slice ao N1 cap) ∧ Hid (w'.ownsRow w.heap.size 5 1 (.slice ao N1 cap) (stoL b).length ((stoL b).map byteV)) ∧ Hid (Below w.heap.size w w')) := by
    refine (stored21 w v b hv (by omega)).mono ?_
    rintro e w' ⟨v', rfl, h1, h2⟩
    obtain ⟨ao, cap, rfl⟩ := own_slc h1.out
    rw [← hN1] at *
    exact ⟨ao, cap, rfl, h1, h2⟩
  have h26 : Hid (∀ wx, Hid (Below w.heap.size w wx) → Calls Tryd.prog 26 #[v] wx fun e w' => ∃ ao cap x, e = .returned (.slice ao N2 cap) ∧ Hid (w'.ownsRow w.heap.size 5 1 (.slice ao N2 cap) x.length (x.map byteV)) ∧ Hid (Fixd b x) ∧ Hid (Below wx.heap.size wx w')) := by
    intro wx hx
    refine (fixed26 wx v b (hv.old hx.out) hs hb).mono ?_
    rintro e w' ⟨v', x, rfl, h1, h2, h3, h4, h5⟩
    obtain ⟨ao, cap, rfl⟩ := own_slc h1
    have e : x.length = N2 := by rw [h4, hN2]
    refine ⟨ao, cap, x, by rw [e], ?_, ⟨h2, h3, h4⟩, h5⟩
    show World.ownsRow _ _ _ _ _ _ _
    rw [← e]
    exact owns_base h1 hx.out.size
  have hS : (stoL b).length = b.length + 5 := by simp [stoL, Q.headL]
  have hF := fix_small b hs hb
  have b1 : N1 ≤ 100000 := by omega
  have b2 : N2 ≤ 100000 := by omega
  have HN1 := Q.mkHid hN1
  have HN2 := Q.mkHid hN2
  clear hv hs hb hN1 hN2 hS hF
  by_cases hlt : N2 < N1
  · go_enter Tryd.func24, Tryd.ntmps24
    go_wp2_with (first
      | (go_at_call 21; (with_reducible refine h21.out.mono ?_); rintro e w1 ⟨ao, cap, rfl, HO, HB⟩)
      | (go_at_call 26; (with_reducible refine (h26.out _ HB).mono ?_); rintro e w2 ⟨ao2, cap2, x, rfl, HO2, HX, HB2⟩))
    go_ret
    refine ⟨_, x, rfl, HO2, ⟨.inr HX.out, ?_, ?_⟩, HB.out.trans (HB2.out.mono HB.out.size)⟩
    · have := HX.out.2.2; have := HN1.out; have := HN2.out; omega
    · have := HX.out.2.2; omega
  · go_enter Tryd.func24, Tryd.ntmps24
    go_wp2_with (first
      | (go_at_call 21; (with_reducible refine h21.out.mono ?_); rintro e w1 ⟨ao, cap, rfl, HO, HB⟩)
      | (go_at_call 26; (with_reducible refine (h26.out _ HB).mono ?_); rintro e w2 ⟨ao2, cap2, x, rfl, HO2, HX, HB2⟩))
    go_ret
    refine ⟨_, stoL b, rfl, Lz.owns_below HO.out HB2.out, ⟨.inl rfl, Nat.le_refl _, ?_⟩, HB.out.trans (HB2.out.mono HB.out.size)⟩
    have := HN1.out; have := HN2.out; omega

end Go.Proofs.YtdokpimhhkbdbaaDoor
