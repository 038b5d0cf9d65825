/-
  huff.Table.Get: the sign whose code is next, or that there is none.
-/
import Derived.Test.YtdokpimhhkbdbaaDoorNb
set_option linter.unusedSimpArgs false
set_option linter.unusedVariables false
namespace Go.Proofs.YtdokpimhhkbdbaaDoor
open Go.RowKit

theorem far_cell {w w' : World} {x : Nat} (hg : w.grownBy w' (some x)) {a : Addr} (ha : a.block ≠ x) {u : Value} (h : w.cell? a = some u) : w'.cell? a = some u := by
  have e := hg.block a.block (cell_lt h) (by simpa using ha)
  unfold World.cell? at h ⊢
  rw [e]
  exact h

theorem cn_pos {l : List Nat} {i : Nat} (hi : i < l.length) (h0 : 0 < nth l i) : 0 < cn l (nth l i) := by
  have := rank_lt hi rfl
  have h : nth l i ≠ 0 := by omega
  simp only [cn, h, ↓reduceIte]
  omega

/-- The digits that are next. -/
def nx (bs : List Nat) (pos k : Nat) : Nat := val bs / 2 ^ (pos + k) % 2

theorem nx_lt (bs : List Nat) (pos k : Nat) : nx bs pos k < 2 := by unfold nx; omega

/-- What Get answers. -/
def Got (l bs : List Nat) (pos : Nat) (w : World) (T : TypeId) (rb : Nat) (e : Ending) (w' : World) : Prop :=
  w.grownBy w' (some rb) ∧
  ((∃ i, Hit l (nx bs pos) (8 * bs.length - pos) i ∧ e = .returned (.tuple #[.int .i64 (i : Nat), .bool true]) ∧ Rd T w' rb bs (pos + nth l i) false) ∨
   ((∀ i, ¬ Hit l (nx bs pos) (8 * bs.length - pos) i) ∧ e = .returned (.tuple #[.int .i64 0, .bool false]) ∧ ∃ pos' bad', Rd T w' rb bs pos' bad'))

theorem no_more {l : List Nat} (h15 : ∀ x ∈ l, x ≤ 15) {f : Nat → Nat} {L av : Nat} (hp : Past l f L) (hs : sho l 16 ≤ sho l L) (i : Nat) : ¬ Hit l f av i := by
  intro hh
  have h1 := past_not hp hh
  obtain ⟨a, b, c, d⟩ := hh
  have h2 := nth_le15 h15 i
  have h3 := cn_pos a b
  have h4 := sho_mono (l := l) h1
  have h5 := sho_mono (l := l) (show nth l i + 1 ≤ 16 by omega)
  have h6 : sho l (nth l i + 1) = sho l (nth l i) + cn l (nth l i) := rfl
  omega

set_option maxRecDepth 100000 in
set_option maxHeartbeats 2000000 in
theorem get_walk (w : World) (tb rb : Nat) (l bs : List Nat) (pos : Nat) (h : Tab w tb l) (hr : Rd 79 w rb bs pos false) :
    Calls Tryd.prog 84 #[.pointer (some ⟨tb, 0, none⟩), .pointer (some ⟨rb, 0, none⟩)] w fun e w' => Got l bs pos w 79 rb e w' := by
  obtain ⟨⟨cb, v, c, h1, h2, h3, h4⟩, r1, r2, r3⟩ := h
  obtain ⟨rc, hrc⟩ := hr.type
  have htr : tb ≠ rb := blocks_ne h1 hrc (by decide)
  have hvr : v.ownBlock ≠ some rb := owns_ne3 h4 hrc (by decide)
  have C1 : w.cell? ⟨tb, 1, none⟩ = some v := by rw [cell_of_row _ _ 1 _ _ _ h1, at1]
  have CC : Hid (∀ k, k < 16 → w.cell? ⟨tb, 2 + k, none⟩ = some (.int .i64 (cn l k : Nat))) := fun k hk => by
    rw [cell_of_row _ _ _ _ _ _ h1, at2, cells16_get _ _ hk]; rfl
  rw [ord_length] at h4
  have hM16 := sho_le r1 16
  have hform : ∃ ao cp, v = .slice ao (sho l 16) cp ∧ Hid (∀ idx, idx < sho l 16 → ∃ g, ao = some ⟨g, 0, none⟩ ∧ g ≠ rb ∧ w.cell? ⟨g, idx, none⟩ = some (.int .i64 ((ord l 16).getD idx 0 : Nat))) := by
    have h40 := h4
    rcases h4.2 with ⟨rfl, h0⟩ | ⟨g, cap, cur, rfl, _, hg, hn, _⟩
    · exact ⟨none, 0, by rw [h0], fun idx hi => by omega⟩
    · refine ⟨_, cap, rfl, fun idx hi => ⟨g, rfl, fun e => hvr (by rw [e]; rfl), ?_⟩⟩
      rw [h40.cellAt idx (by omega)]
      have : idx < (ord l 16).length := by rw [ord_length]; exact hi
      simp [this, natV]
  obtain ⟨ao, cp, rfl, CS⟩ := hform
  have H15 : Hid (∀ x ∈ l, x ≤ 15) := r2
  have HF : Hid (Fits l) := r3
  obtain ⟨M, hM⟩ : ∃ M, M = sho l 16 := ⟨_, rfl⟩
  rw [← hM] at C1 CS hM16
  have HM : Hid (M = sho l 16) := hM
  clear h1 h2 h3 h4 hrc r2 r3 hM hvr
  obtain ⟨av, hav⟩ : ∃ av, av = 8 * bs.length - pos := ⟨_, rfl⟩
  have HAV : Hid (av = 8 * bs.length - pos) := hav
  have hle := hr.le
  have hbl := hr.len
  clear hav
  go_enter Tryd.func84, Tryd.ntmps84
  go_wp2
  go_loopw [6, 7, 8, 9] (fun d f s n wr => ∃ k D F S : Nat, k ≤ 15 ∧ k ≤ av ∧ n = .int .i64 ((k + 1 : Nat) : Int) ∧ d = .int .i64 (D : Int) ∧ f = .int .i64 (F : Int) ∧ s = .int .i64 (S : Int) ∧ Hid (D = top (nx bs pos) k) ∧ Hid (F = base l (k + 1)) ∧ Hid (S = sho l (k + 1)) ∧ Hid (Past l (nx bs pos) (k + 1)) ∧ Rd 79 wr rb bs (pos + k) false ∧ w.grownBy wr (some rb)) (fun _ _ _ n _ => 17 - (intOf n).toNat)
  case atStart => exact ⟨0, 0, 0, 0, by omega, by omega, rfl, rfl, rfl, rfl, rfl, rfl, rfl, fun m h1 h2 => by omega, hr, ⟨rfl, rfl, rfl, Nat.le_refl _, fun _ _ _ => rfl⟩⟩
  case round =>
    obtain ⟨k, D, F, S, hk, hkav, rfl, rfl, rfl, rfl, HD, HF1, HS, HP, hR, hg⟩ := hrel
    obtain ⟨L, hL⟩ : ∃ L, L = k + 1 := ⟨_, rfl⟩
    rw [← hL] at HF1 HS HP ⊢
    have c1 := far_cell hg (a := ⟨tb, 1, none⟩) htr C1
    have hSM : S ≤ M := by rw [HS.out, HM.out]; exact sho_mono (by omega)
    by_cases hs : S < M
    · have hL15 : L ≤ 15 := by
        rcases Nat.lt_or_ge 15 L with h | h
        · have : L = 16 := by omega
          subst this
          have := HS.out
          have := HM.out
          omega
        · exact h
      have hbad : Hid (Calls Tryd.prog 64 #[.pointer (some ⟨rb, 0, none⟩)] wr fun e w' => e = .returned (.bool false) ∧ w' = wr) := bad_walk wr rb bs (pos + k) false hR
      have hleft : Hid (Calls Tryd.prog 68 #[.pointer (some ⟨rb, 0, none⟩)] wr fun e w' => e = .returned (.int .i64 ((av : Int) - k)) ∧ ∃ q, w' = wr.drewN q) := by
        refine (left_walk wr rb bs (pos + k) false hR).mono ?_
        rintro e w' ⟨rfl, hq⟩
        refine ⟨ret_int ?_, hq⟩
        have := HAV.out
        have := hR.le
        omega
      by_cases hka : k < av
      · have hne0 : (((av : Int) - k) == 0) = false := by simp; omega
        have hbit : Hid (∀ q, Calls Tryd.prog 87 #[.pointer (some ⟨rb, 0, none⟩)] (wr.drewN q) fun e w' => e = .returned (.int .i64 ((nx bs pos k : Nat) : Int)) ∧ Rd 79 w' rb bs (pos + L) false ∧ w.grownBy w' (some rb)) := fun q => by
          have := HAV.out
          refine (bit_has (wr.drewN q) rb bs (pos + k) (hR.drewN q) (by omega)).mono ?_
          rintro e w' ⟨rfl, e2, e3⟩
          rw [hL]
          exact ⟨rfl, e2, grown_trans (grown_trans hg (grown_drewN wr q _)) e3⟩
        have htop : Hid (2 * D + nx bs pos k = top (nx bs pos) L) := by show _ = _; rw [HD.out, hL]; rfl
        have hx2 := nx_lt bs pos k
        have hDl : D < 32768 := by
          rw [HD.out]
          exact Nat.lt_of_lt_of_le (top_lt (nx_lt bs pos) k) (pow_le15 hk)
        obtain ⟨x, hx⟩ : ∃ x, x = nx bs pos k := ⟨_, rfl⟩
        rw [← hx] at hbit htop hx2
        have hFc := base_le HF.out (n := L) hL15
        have hp15 := pow_le15 hL15
        obtain ⟨cL, hcL⟩ : ∃ cL, cL = cn l L := ⟨_, rfl⟩
        rw [← HF1.out, ← hcL] at hFc
        have HCL : Hid (cL = cn l L) := hcL
        have hFl : F + cL ≤ 32768 := by omega
        have hFD : F ≤ 2 * D := by
          have := past_base HP.out (by omega)
          rw [HF1.out, HD.out]
          rwa [hL, Nat.add_sub_cancel, ← hL] at this
        have hix : 0 ≤ (L : Int) ∧ (L : Int) ≤ 15 := by omega
        have HK : Hid (L = k + 1) := hL
        clear hFc hp15 hcL hx hL
        have hL0 : 0 < L := by have := HK.out; omega
        have hlt : Hid (∀ w2, w.grownBy w2 (some rb) → w2.cell? ⟨tb, 2 + L, none⟩ = some (.int .i64 (cL : Int))) := fun w2 hg2 => by
          rw [HCL.out]
          exact far_cell hg2 (a := ⟨tb, 2 + L, none⟩) htr (CC.out L (by omega))
        have hlt1 : Hid (∀ w2, w.grownBy w2 (some rb) → w2.cell? ⟨tb, 1, none⟩ = some (.slice ao M cp)) := fun w2 hg2 => far_cell hg2 (a := ⟨tb, 1, none⟩) htr C1
        by_cases hhit : 2 * D + x < F + cL
        · obtain ⟨g, rfl, hgr, hcg⟩ := CS.out (S + (2 * D + x) - F) (by
            have h1 := HS.out
            have h2 := HM.out
            have h3 := sho_mono (l := l) (show L + 1 ≤ 16 by omega)
            have h6 : sho l (L + 1) = sho l L + cn l L := rfl
            rw [← HCL.out] at h6
            omega)
          have hsg : Hid (∀ w2, w.grownBy w2 (some rb) → w2.cell? ⟨g, S + (2 * D + x) - F, none⟩ = some (.int .i64 ((ord l 16).getD (S + (2 * D + x) - F) 0 : Nat))) := fun w2 hg2 => far_cell hg2 (a := ⟨g, _, none⟩) hgr hcg
          clear hcg
          have hH := hit_ord (l := l) (f := nx bs pos) (n := L) (av := av) hL0 hL15 (by have := HK.out; omega) (by rw [← htop.out, ← HF1.out]; omega) (by rw [← htop.out, ← HF1.out, ← HCL.out]; exact hhit)
          rw [← htop.out, ← HF1.out, ← HS.out] at hH
          have HH : Hid (Hit l (nx bs pos) av ((ord l 16).getD (S + (2 * D + x) - F) 0) ∧ nth l ((ord l 16).getD (S + (2 * D + x) - F) 0) = L) := hH
          obtain ⟨sg, hsge⟩ : ∃ sg, sg = (ord l 16).getD (S + (2 * D + x) - F) 0 := ⟨_, rfl⟩
          rw [← hsge] at HH hsg
          clear hH hsge
          obtain ⟨ix, hixe⟩ : ∃ ix, ix = S + (2 * D + x) - F := ⟨_, rfl⟩
          rw [← hixe] at hsg
          have hixI : (S : Int) + ((D : Int) * 2 + x) - F = (ix : Int) := by omega
          have hixM : ix < M := by
            have h1 := HS.out
            have h2 := HM.out
            have h3 := sho_mono (l := l) (show L + 1 ≤ 16 by omega)
            have h6 : sho l (L + 1) = sho l L + cn l L := rfl
            rw [← HCL.out] at h6
            omega
          clear hixe
          go_wp2_with (first
            | (go_at_call 64; (with_reducible refine hbad.out.mono ?_); rintro e wx ⟨rfl, hx⟩; have hx := hx.symm; subst hx)
            | (go_at_call 68; (with_reducible refine hleft.out.mono ?_); rintro e wx ⟨rfl, q, hx⟩; have hx := hx.symm; subst hx)
            | (go_at_call 87; (with_reducible refine (hbit.out _).mono ?_); rintro e w2 ⟨rfl, hR2, hg2⟩; have y1 := hlt.out _ hg2; have y2 := hlt1.out _ hg2; have y3 := hsg.out _ hg2))
          go_ret2
          refine ⟨hg2, .inl ⟨sg, by rw [← HAV.out]; exact HH.out.1, rfl, by rw [HH.out.2]; exact hR2⟩⟩
        · have hno : Hid (Past l (nx bs pos) (L + 1)) := past_next HP.out (by rw [← htop.out, ← HF1.out, ← HCL.out]; omega)
          have hSs : Hid (sho l (L + 1) = S + cL) := by show _ = _; rw [HS.out, HCL.out]; rfl
          have hFs : Hid (base l (L + 1) = 2 * (F + cL)) := by show _ = _; rw [HF1.out, HCL.out]; rfl
          have hcl2 : cL ≤ 320 := by rw [HCL.out]; have := cn_le (l := l) L; omega
          go_wp2_with (first
            | (go_at_call 64; (with_reducible refine hbad.out.mono ?_); rintro e wx ⟨rfl, hx⟩; have hx := hx.symm; subst hx)
            | (go_at_call 68; (with_reducible refine hleft.out.mono ?_); rintro e wx ⟨rfl, q, hx⟩; have hx := hx.symm; subst hx)
            | (go_at_call 87; (with_reducible refine (hbit.out _).mono ?_); rintro e w2 ⟨rfl, hR2, hg2⟩; have y1 := hlt.out _ hg2; have y2 := hlt1.out _ hg2))
          go_roundw
          case rel =>
            have hk1 := HK.out
            refine ⟨L, 2 * D + x, 2 * (F + cL), S + cL, by omega, by omega, by go_num, by push_cast; congr 1; omega, by push_cast; congr 1; omega, by push_cast; rfl, htop.out, ?_, ?_, ?_, ?_, hg2⟩
            · show _ = _; rw [hFs.out]
            · show _ = _; rw [hSs.out]
            · exact hno.out
            · exact hR2
          case measure => simp [intOf]; omega
      · have hka0 : (av : Int) - k = 0 := by omega
        rw [hka0] at hleft
        have hno : Hid (∀ i, ¬ Hit l (nx bs pos) av i) := fun i hh => by
          have h1 := past_not HP.out hh
          have h2 := hh.2.2.1
          omega
        clear hL
        go_wp2_with (first
          | (go_at_call 64; (with_reducible refine hbad.out.mono ?_); rintro e wx ⟨rfl, hx⟩; have hx := hx.symm; subst hx)
          | (go_at_call 68; (with_reducible refine hleft.out.mono ?_); rintro e wx ⟨rfl, q, hx⟩; have hx := hx.symm; subst hx))
        go_ret2
        exact ⟨grown_trans hg (grown_drewN wr q _), .inr ⟨by rw [← HAV.out]; exact hno.out, rfl, _, _, hR.drewN q⟩⟩
    · have hno : Hid (∀ i, ¬ Hit l (nx bs pos) av i) := fun i => no_more H15.out HP.out (by rw [← HS.out, ← HM.out]; omega) i
      clear hL
      go_wp2
      go_ret2
      exact ⟨hg, .inr ⟨by rw [← HAV.out]; exact hno.out, rfl, _, _, hR⟩⟩
end Go.Proofs.YtdokpimhhkbdbaaDoor
