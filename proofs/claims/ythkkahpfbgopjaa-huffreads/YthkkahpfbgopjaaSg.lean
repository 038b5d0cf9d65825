/-
  The document's reading of a sign (florilegiumref01.sign, Sign).
-/
import Derived.Test.YthkkahpfbgopjaaCoa
set_option linter.unusedSimpArgs false
set_option linter.unusedVariables false
namespace Go.Proofs.Ythkkahpfbgopjaa
open Go.RowKit

/-- What sign answers. -/
def Saw (l bs : List Nat) (pos : Nat) (w : World) (rb : Nat) (e : Ending) (w' : World) : Prop :=
  w.grownBy w' (some rb) ∧
  ((∃ i, Hit l (nx bs pos) (8 * bs.length - pos) i ∧ e = .returned (.int .i64 (i : Nat)) ∧ Rd 53 w' rb bs (pos + nth l i) false) ∨
   ((∀ i, ¬ Hit l (nx bs pos) (8 * bs.length - pos) i) ∧ e = .returned (.int .i64 (-1)) ∧ ∃ pos' bad', Rd 53 w' rb bs pos' bad'))

theorem rd_cell2 {T : TypeId} {w : World} {rb : Nat} {bs : List Nat} {pos : Nat} {bad : Bool} (h : Rd T w rb bs pos bad) : w.cell? ⟨rb, 2, none⟩ = some (.bool bad) := by
  obtain ⟨⟨v, hp, _⟩, _⟩ := h
  exact cell3_2 hp

set_option maxRecDepth 100000 in
set_option maxHeartbeats 4000000 in
theorem sign_walk (w : World) (xb : Nat) (l bs : List Nat) (pos B B' lg lcap cg ccap n : Nat) (hn : l.length = n) (hn0 : 0 < n) (hn320 : n ≤ 320) (h15 : ∀ x ∈ l, x ≤ 15) (hr : Rd 53 w xb bs pos false)
    (hl : w.ownsRow B 3 1 (.slice (some ⟨lg, 0, none⟩) n lcap) n (l.map natV)) (hc : w.ownsRow B' 3 1 (.slice (some ⟨cg, 0, none⟩) n ccap) n ((codesOf l).map natV)) :
    Calls Try.prog 34 #[.pointer (some ⟨xb, 0, none⟩), .slice (some ⟨lg, 0, none⟩) n lcap, .slice (some ⟨cg, 0, none⟩) n ccap] w fun e w' => Saw l bs pos w xb e w' := by
  obtain ⟨rc, hrc⟩ := hr.type
  have hlx : lg ≠ xb := fun e => owns_ne3 hl hrc (by decide) (by rw [e]; rfl)
  have hcx : cg ≠ xb := fun e => owns_ne3 hc hrc (by decide) (by rw [e]; rfl)
  have HL : Hid (∀ wx j, w.grownBy wx (some xb) → j < n → wx.cell? ⟨lg, j, none⟩ = some (.int .i64 (nth l j : Nat))) := fun wx j hg hj => far_cell hg (a := ⟨lg, j, none⟩) hlx (nat_at hn hl j hj)
  have HC : Hid (∀ wx j, w.grownBy wx (some xb) → j < n → wx.cell? ⟨cg, j, none⟩ = some (.int .i64 (nth (codesOf l) j : Nat))) := fun wx j hg hj => far_cell hg (a := ⟨cg, j, none⟩) hcx (nat_at (by rw [codesOf, upto_length, hn]) hc j hj)
  have H15 : Hid (∀ x ∈ l, x ≤ 15) := h15
  have HN : Hid (l.length = n) := hn
  obtain ⟨av, hav⟩ : ∃ av, av = 8 * bs.length - pos := ⟨_, rfl⟩
  have HAV : Hid (av = 8 * bs.length - pos) := hav
  have hle := hr.le
  clear hl hc hrc hlx hcx h15 hn hav
  go_enter Try.func34, Try.ntmps34
  go_wp2
  go_loopw [7, 8] (fun d m wr => ∃ k D : Nat, k ≤ 15 ∧ k ≤ av ∧ m = .int .i64 ((k + 1 : Nat) : Int) ∧ d = .int .i64 (D : Int) ∧ D < 32768 ∧ Hid (D = top (nx bs pos) k) ∧ Hid (∀ i, Hit l (nx bs pos) av i → k + 1 ≤ nth l i) ∧ Rd 53 wr xb bs (pos + k) false ∧ w.grownBy wr (some xb)) (fun _ m _ => 17 - (intOf m).toNat)
  case atStart => exact ⟨0, 0, by omega, by omega, rfl, rfl, by omega, rfl, fun i hi => by have := hi.2.1; omega, hr, ⟨rfl, rfl, rfl, Nat.le_refl _, fun _ _ _ => rfl⟩⟩
  case round =>
    obtain ⟨k, D, hk, hkav, rfl, rfl, hD, HD, HP, hR, hg⟩ := hrel
    obtain ⟨L, hL⟩ : ∃ L, L = k + 1 := ⟨_, rfl⟩
    rw [← hL] at HP ⊢
    by_cases hL15 : L ≤ 15
    · have hdL : decide ((L : Int) ≤ 15) = true := by simp; omega
      by_cases hka : k < av
      · have hget : Hid (Calls Try.prog 41 #[.pointer (some ⟨xb, 0, none⟩), .int .i64 1] wr fun e w' => e = .returned (.int .i64 ((nx bs pos k : Nat) : Int)) ∧ Rd 53 w' xb bs (pos + L) false ∧ w.grownBy w' (some xb)) := by
          have h1 := xget_has wr xb bs (pos + k) 1 hR (by decide) (by have := HAV.out; omega)
          refine h1.mono ?_
          rintro e w' ⟨rfl, e2, e3⟩
          rw [hL]
          exact ⟨by rw [Nat.pow_one]; rfl, e2, grown_trans hg e3⟩
        have htop : Hid (2 * D + nx bs pos k = top (nx bs pos) L) := by show _ = _; rw [HD.out, hL]; rfl
        have hx2 := nx_lt bs pos k
        obtain ⟨x, hx⟩ : ∃ x, x = nx bs pos k := ⟨_, rfl⟩
        rw [← hx] at hget htop hx2
        obtain ⟨D2, hD2⟩ : ∃ D2, D2 = 2 * D + x := ⟨_, rfl⟩
        have hDI : (2 : Int) * (D : Int) + (x : Int) = (D2 : Int) := by omega
        rw [← hD2] at htop
        have HD2 : Hid (D2 < 32768) := by
          show _ < _
          rw [htop.out]
          exact Nat.lt_of_lt_of_le (top_lt (nx_lt bs pos) L) (pow_le15 hL15)
        have HKL : Hid (L = k + 1) := hL
        clear hx hD2 hL
        go_wp2_with (first
          | (go_at_call 41; (with_reducible refine hget.out.mono ?_); rintro e w2 ⟨rfl, hR2, hg2⟩; have cb := rd_cell2 hR2))
        try rw [hdL]
        clear hdL
        go_loopw [26] (fun i wz => ∃ j : Nat, j ≤ n ∧ i = .int .i64 (j : Int) ∧ Hid (∀ q, q < j → ¬ (nth l q = L ∧ nth (codesOf l) q = D2)) ∧ wz = w2) (fun i _ => n - (intOf i).toNat)
        case atStart => exact ⟨0, by omega, rfl, fun q hq => by omega, rfl⟩
        case round =>
          obtain ⟨j, hj, rfl, HQ, rfl⟩ := hrel
          by_cases hjn : j < n
          · have c1 := HL.out _ j hg2 hjn
            have c2 := HC.out _ j hg2 hjn
            have hcg := codesOf_get l H15.out j (by rw [HN.out]; exact hjn)
            obtain ⟨y, hy⟩ : ∃ y, y = nth l j := ⟨_, rfl⟩
            obtain ⟨z, hz⟩ : ∃ z, z = nth (codesOf l) j := ⟨_, rfl⟩
            rw [← hy] at c1
            rw [← hz] at c2
            have HY : Hid (y = nth l j) := hy
            have HZ : Hid (z = nth (codesOf l) j) := hz
            have HCG : Hid (nth (codesOf l) j = if 0 < nth l j then code l j else 0) := hcg
            clear hy hz hcg
            by_cases hyL : y = L
            · have g1 : ((y : Int) == (L : Int)) = true := by simp; omega
              by_cases hzD : z = D2
              · have g2 : ((z : Int) == (D2 : Int)) = true := by simp; omega
                have HH : Hid (Hit l (nx bs pos) av j) := by
                  have h1 := HY.out
                  have h2 := HZ.out
                  have h3 := HCG.out
                  have h4 := HKL.out
                  refine ⟨by rw [HN.out]; exact hjn, by omega, by omega, ?_⟩
                  rw [if_pos (by omega)] at h3
                  rw [← h3, ← h2, hzD, ← h1, hyL, htop.out]
                have HYL : Hid (nth l j = L) := by show _ = _; rw [← HY.out]; exact hyL
                clear hyL hzD
                go_wp2
                go_ret
                exact ⟨hg2, .inl ⟨j, by rw [← HAV.out]; exact HH.out, rfl, by rw [HYL.out]; exact hR2⟩⟩
              · have g2 : ((z : Int) == (D2 : Int)) = false := by simp; omega
                have HNZ : Hid (¬ (nth l j = L ∧ nth (codesOf l) j = D2)) := fun h => hzD (by rw [HZ.out]; exact h.2)
                clear hyL hzD
                go_wp2
                go_roundw
                case rel =>
                  refine ⟨j + 1, by omega, by go_num, fun q hq => ?_, by first | rfl | trivial⟩
                  rcases (show q < j ∨ q = j by omega) with h | rfl
                  · exact HQ.out q h
                  · exact HNZ.out
                case measure => simp [intOf]; omega
            · have g1 : ((y : Int) == (L : Int)) = false := by simp; omega
              have HNY : Hid (¬ (nth l j = L ∧ nth (codesOf l) j = D2)) := fun h => hyL (by rw [HY.out]; exact h.1)
              clear hyL
              go_wp2
              go_roundw
              case rel =>
                refine ⟨j + 1, by omega, by go_num, fun q hq => ?_, by first | rfl | trivial⟩
                rcases (show q < j ∨ q = j by omega) with h | rfl
                · exact HQ.out q h
                · exact HNY.out
              case measure => simp [intOf]; omega
          · have hjj : j = n := by omega
            have HP2 : Hid (∀ i, Hit l (nx bs pos) av i → L + 1 ≤ nth l i) := fun i hi => by
              have h1 := HP.out i hi
              rcases Nat.lt_or_ge L (nth l i) with h | h
              · exact h
              · exfalso
                have hLi : nth l i = L := by omega
                have hin : i < n := by rw [← HN.out]; exact hi.1
                refine HQ.out i (by omega) ⟨hLi, ?_⟩
                rw [codesOf_get l H15.out i hi.1, if_pos hi.2.1, ← hi.2.2.2, hLi, htop.out]
            have hd2 := HD2.out
            clear hjj
            go_wp2
            go_roundw
            case rel => exact ⟨L, D2, by omega, by have := HKL.out; omega, by go_num, rfl, hd2, htop.out, HP2.out, hR2, hg2⟩
            case measure => simp [intOf]; omega
      · have hno : Hid (∀ i, ¬ Hit l (nx bs pos) av i) := fun i hi => by
          have h1 := HP.out i hi
          have h2 := hi.2.2.1
          omega
        have hget : Hid (Calls Try.prog 41 #[.pointer (some ⟨xb, 0, none⟩), .int .i64 1] wr fun e w' => e = .returned (.int .i64 0) ∧ Rd 53 w' xb bs (pos + k) true ∧ w.grownBy w' (some xb)) := by
          refine (xget_not wr xb bs (pos + k) false 1 hR (fun h => ?_)).mono fun e w' ⟨e1, e2, e3⟩ => ⟨e1, e2, grown_trans hg e3⟩
          have h4 := h.2.2.2
          have h5 := HAV.out
          omega
        clear hL
        go_wp2_with (first
          | (go_at_call 41; (with_reducible refine hget.out.mono ?_); rintro e w2 ⟨rfl, hR2, hg2⟩; have cb := rd_cell2 hR2))
        go_ret
        exact ⟨hg2, .inr ⟨by rw [← HAV.out]; exact hno.out, rfl, _, _, hR2⟩⟩
    · have hno : Hid (∀ i, ¬ Hit l (nx bs pos) av i) := fun i hi => by
        have h1 := HP.out i hi
        have h2 := nth_le15 H15.out i
        omega
      clear hL
      go_wp2
      go_ret
      exact ⟨hg, .inr ⟨by rw [← HAV.out]; exact hno.out, rfl, _, _, hR⟩⟩

set_option maxRecDepth 100000 in
theorem docsign_walk (w : World) (xb : Nat) (l bs : List Nat) (pos B lg lcap n : Nat) (hn : l.length = n) (hn0 : 0 < n) (hok : OK (castL l)) (hr : Rd 53 w xb bs pos false)
    (hl : w.ownsRow B 3 1 (.slice (some ⟨lg, 0, none⟩) n lcap) n (l.map natV)) :
    Calls Try.prog 23 #[.pointer (some ⟨xb, 0, none⟩), .slice (some ⟨lg, 0, none⟩) n lcap] w fun e w' => Got l bs pos w 53 xb e w' := by
  have h320 : n ≤ 320 := by have := hok.1; rw [castL_length] at this; omega
  have h15 : ∀ x ∈ l, x ≤ 15 := fun x hx => by
    have := hok.2.1 (x : Int) (by unfold castL; exact List.mem_map.2 ⟨x, hx, rfl⟩)
    omega
  have hI : Ints w (.slice (some ⟨lg, 0, none⟩) n lcap) (castL l) := by
    subst hn
    exact ints_nat hl
  have hcod : Hid (Calls Try.prog 20 #[.slice (some ⟨lg, 0, none⟩) n lcap] w fun e w3 => ∃ cg ccap, e = .returned (.tuple #[.slice (some ⟨cg, 0, none⟩) n ccap, .bool true]) ∧ Below w.heap.size w w3 ∧ w3.ownsRow w.heap.size 3 1 (.slice (some ⟨cg, 0, none⟩) n ccap) n ((codesOf l).map natV)) := by
    refine (codes_any w _ (castL l) hI (by rw [castL_length]; omega)).mono ?_
    rintro e w3 ⟨hb, ⟨_, cv, rfl, ho⟩ | ⟨h', _⟩⟩
    · rw [castL_length, castL_toNat, hn] at ho
      obtain ⟨cg, ccap, rfl, -⟩ := ho.form (by omega)
      exact ⟨cg, ccap, rfl, hb, ho⟩
    · exact absurd hok h'
  have hsig : Hid (∀ w3 cg ccap, Below w.heap.size w w3 → w3.ownsRow w.heap.size 3 1 (.slice (some ⟨cg, 0, none⟩) n ccap) n ((codesOf l).map natV) → Calls Try.prog 34 #[.pointer (some ⟨xb, 0, none⟩), .slice (some ⟨lg, 0, none⟩) n lcap, .slice (some ⟨cg, 0, none⟩) n ccap] w3 fun e w' => ∃ i : Int, e = .returned (.int .i64 i) ∧ Hid (w.grownBy w' (some xb) ∧ ((∃ k : Nat, i = (k : Int) ∧ Hit l (nx bs pos) (8 * bs.length - pos) k ∧ Rd 53 w' xb bs (pos + nth l k) false) ∨ (i = -1 ∧ (∀ k, ¬ Hit l (nx bs pos) (8 * bs.length - pos) k) ∧ ∃ pos' bad', Rd 53 w' xb bs pos' bad')))) := by
    intro w3 cg ccap hb ho
    refine (sign_walk w3 xb l bs pos B w.heap.size lg lcap cg ccap n hn hn0 h320 h15 (hr.old hb) (owns_old3 hl hb) ho).mono ?_
    have hg0 : w.grownBy w3 (some xb) := ⟨hb.os, hb.tape, hb.output, hb.size, fun k hk _ => hb.block k hk⟩
    rintro e w' ⟨hg, ⟨k, hk, rfl, hR⟩ | ⟨hno, rfl, hR⟩⟩
    · exact ⟨_, rfl, grown_trans hg0 hg, .inl ⟨k, rfl, hk, hR⟩⟩
    · exact ⟨_, rfl, grown_trans hg0 hg, .inr ⟨rfl, hno, hR⟩⟩
  have hmax : ∀ (i : Int) (wx : World), (Builtin.max_ #[3, 3] 3 #[.int .i64 i, .int .i64 0]).run Try.prog wx = .ok (.int .i64 (max i 0)) wx := by
    intro i wx
    have e : (if (0 : Int) > i then (0 : Int) else i) = max i 0 := by split <;> omega
    rw [run_max_int2, e]
  clear hI hl hr
  go_enter Try.func23, Try.ntmps23
  go_wp2_with (first
    | (go_at_call 20; (with_reducible refine hcod.out.mono ?_); rintro e w3 ⟨cg, ccap, rfl, hb3, ho3⟩)
    | (go_at_call 34; (with_reducible refine (hsig.out _ _ _ hb3 ho3).mono ?_); rintro e w4 ⟨i, rfl, h4⟩))
  go_ret2
  obtain ⟨hg, hcase⟩ := h4.out
  rcases hcase with ⟨k, rfl, hk, hR⟩ | ⟨rfl, hno, hR⟩
  · refine ⟨hg, .inl ⟨k, hk, ?_, hR⟩⟩
    have e1 : max (k : Int) 0 = (k : Int) := by omega
    have e2 : decide (0 ≤ (k : Int)) = true := by simp
    show Ending.returned (.tuple #[.int .i64 (max (k : Int) 0), .bool (decide (0 ≤ (k : Int)))]) = _
    rw [e1, e2]
  · exact ⟨hg, .inr ⟨hno, rfl, hR⟩⟩
end Go.Proofs.Ythkkahpfbgopjaa
