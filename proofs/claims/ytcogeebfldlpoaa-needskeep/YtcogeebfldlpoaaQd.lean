/-
  container/heap's down walked over the queue.
-/
import Derived.Test.YtcogeebfldlpoaaQc
set_option linter.unusedSimpArgs false
set_option linter.unusedVariables false
namespace Go.Proofs.Ytcogeebfldlpoaa
open Go.RowKit Go.Proofs.NeedsHeap

/-- What down leaves: the same things, a heap over the first n; behind them all is as it was. -/
def DnP (B : Nat) (w : World) (q : Nat) (v : Value) (xs : List Txt) (n : Nat) (e : Ending) (w' : World) : Prop :=
  ∃ b ys, e = .returned (.bool b) ∧ QuTo B w q v w' v ys ∧ ys.Perm xs ∧ HeapTo ys n ∧ ∀ k, n ≤ k → g ys k = g xs k

theorem g_sw_far {xs : List Txt} {i j n : Nat} (hi : i < xs.length) (hj : j < xs.length) (h1 : i < n) (h2 : j < n) : ∀ k, n ≤ k → g (sw xs i j) k = g xs k := fun k hk => by
  rw [g_sw hi hj, if_neg (by omega), if_neg (by omega)]

def DnS (B : Nat) (w : World) (q : Nat) (v : Value) (xs : List Txt) (n : Nat) (wr : World) (k : Nat) (ys : List Txt) : Prop :=
  QuTo B w q v wr v ys ∧ ys.Perm xs ∧ DnI ys n k ∧ ∀ k, n ≤ k → g ys k = g xs k

theorem DnS.step {B : Nat} {w : World} {q : Nat} {v : Value} {xs : List Txt} {n : Nat} {wr w2 : World} {k : Nat} {ys : List Txt} {m J : Nat} (h : DnS B w q v xs n wr k ys) (hn : n < ys.length) (hJ : Lesser ys n k J) (hl : g ys J < g ys k) (hw : QuTo B (wr.drewN m) q v w2 v (sw ys k J)) :
    DnS B w q v xs n w2 J (sw ys k J) := by
  obtain ⟨s1, s2, s3, s4⟩ := h
  obtain ⟨j1, j2, j3, j4⟩ := hJ
  refine ⟨(s1.drewN m).trans hw, (sw_perm (by omega) (by omega)).trans s2, dn_step (by omega) s3 ⟨j1, j2, j3, j4⟩ hl, fun i hi => ?_⟩
  rw [g_sw_far (by omega) (by omega) (n := n) (by omega) j1 i hi]
  exact s4 i hi

theorem DnS.done {B : Nat} {w : World} {q : Nat} {v : Value} {xs : List Txt} {n : Nat} {wr : World} {k : Nat} {ys : List Txt} {m : Nat} (h : DnS B w q v xs n wr k ys) (hh : HeapTo ys n) (b : Bool) : DnP B w q v xs n (.returned (.bool b)) (wr.drewN m) :=
  ⟨b, ys, rfl, h.1.drewN m, h.2.1, hh, h.2.2.2⟩

theorem drew_two (w : World) (a b : Nat) : (w.drewN a).drewN b = w.drewN (a + b) := by
  simp [World.drewN, Nat.add_assoc]

set_option maxHeartbeats 8000000 in
theorem down_walk (B : Nat) (w : World) (q : Nat) (v : Value) (xs : List Txt) (h : Qu B w q v xs) (n : Nat) (hn : n < xs.length) (hl : xs.length ≤ 1000000) (hu : DnI xs n 0) :
    Calls Try.prog 34 #[.iface 48 (.pointer (some ⟨q, 0, none⟩)), .int .i64 0, .int .i64 (n : Int)] w (DnP B w q v xs n) := by
  have HN := mkHid hn
  have HL := mkHid hl
  have HQ := mkHid h
  have HU := mkHid hu
  clear hn hl h hu
  go_enter Try.func34, Try.ntmps34
  go_wp2
  go_loopw [7] (fun i wr => ∃ k : Nat, i = .int .i64 (k : Int) ∧ (k = 0 ∨ k < n) ∧ Hid (∃ ys, DnS B w q v xs n wr k ys)) (fun i _ => n - (intOf i).toNat)
  case atStart => exact ⟨0, rfl, .inl rfl, mkHid ⟨xs, QuTo.refl HQ.out, .refl _, HU.out, fun _ _ => rfl⟩⟩
  case round =>
    obtain ⟨k, rfl, hk0, HS⟩ := hrel
    obtain ⟨ys, s⟩ := HS.out
    have hys : ys.length ≤ 1000000 := by rw [s.2.1.length_eq]; exact HL.out
    have hny : n < ys.length := by rw [s.2.1.length_eq]; exact HN.out
    have hnI : (n : Int) ≤ 1000000 := by omega
    have hkI : (k : Int) ≤ 1000000 := by omega
    obtain ⟨j1, e1⟩ : ∃ j1, j1 = 2 * k + 1 := ⟨_, rfl⟩
    have hi1 : 2 * (k : Int) + 1 = (j1 : Int) := by omega
    have S := mkHid s
    by_cases hleaf : n ≤ j1
    · have hq1 : (n : Int) ≤ (j1 : Int) := by omega
      have EL := mkHid (show n ≤ 2 * k + 1 by omega)
      clear e1 hleaf hk0 hny hys
      go_wp2
      go_ret
      exact S.out.done (m := 0) (dn_leaf S.out.2.2.1 EL.out) _
    · have hq1 : (j1 : Int) < (n : Int) := by omega
      have hq0 : ¬ (j1 : Int) < 0 := by omega
      obtain ⟨j2, e2⟩ : ∃ j2, j2 = j1 + 1 := ⟨_, rfl⟩
      have hi2 : (j1 : Int) + 1 = (j2 : Int) := by omega
      have qu := s.1.qu
      have ML : ∀ n, (method 208 48 (.pointer (some ⟨q, 0, none⟩)) "Less").run Try.prog (wr.drewN n) = .ok (75, v) (wr.drewN n) := fun n => meth_less (qu.drewN n).cell
      have ML0 : (method 208 48 (.pointer (some ⟨q, 0, none⟩)) "Less").run Try.prog wr = .ok (75, v) wr := meth_less qu.cell
      have MS : ∀ n, (method 208 48 (.pointer (some ⟨q, 0, none⟩)) "Swap").run Try.prog (wr.drewN n) = .ok (79, v) (wr.drewN n) := fun n => meth_swap (qu.drewN n).cell
      by_cases h2 : j2 < n
      · have hq2 : (j2 : Int) < (n : Int) := by omega
        obtain ⟨c, hc⟩ : ∃ c, c = decide (ys.getD j2 [] < ys.getD j1 []) := ⟨_, rfl⟩
        have C1 := mkHid (less_walk wr v ys qu.lies hys j2 j1 (by omega) (by omega))
        rw [← hc] at C1
        cases c
        · have LJ : Hid (Lesser ys n k j1) := by
            subst e1
            exact lesser_one (by omega) (fun _ => by
              have := hc
              subst e2
              simpa [g] using this.symm)
          clear hc
          obtain ⟨d, hd⟩ : ∃ d, d = decide (ys.getD j1 [] < ys.getD k []) := ⟨_, rfl⟩
          have C2 := mkHid (fun m => less_walk (wr.drewN m) v ys (qu.drewN m).lies hys j1 k (by omega) (by omega))
          rw [← hd] at C2
          have HD := mkHid hd
          have CS := mkHid (fun m => swap_qu B (wr.drewN m) q v ys (qu.drewN m) k j1 (by omega) (by omega) hys)
          have HNY := mkHid hny
          have HKJ := mkHid (show j1 < n ∧ k < j1 by omega)
          clear hd hny hys hk0 hleaf e1 e2 h2 qu s HS
          cases d
          · go_wp2_with (first | (go_at_call 75; (with_reducible refine C1.out.mono ?_); rintro e w1 ⟨rfl, a, rfl⟩) | (go_at_call 75; (with_reducible refine (C2.out a).mono ?_); rintro e w3 ⟨rfl, b, rfl⟩))
            go_ret
            try rw [drew_two]
            exact S.out.done (dn_done S.out.2.2.1 LJ.out (by have := HD.out; simpa [g] using this.symm)) _
          · go_wp2_with (first | (go_at_call 75; (with_reducible refine C1.out.mono ?_); rintro e w1 ⟨rfl, a, rfl⟩) | (go_at_call 75; (with_reducible refine (C2.out a).mono ?_); rintro e w3 ⟨rfl, b, rfl⟩) | (go_at_call 79; (with_reducible refine (CS.out (a + b)).mono ?_); rintro e w2 ⟨rfl, hw2⟩; have HW := mkHid hw2; clear hw2))
            go_roundw
            case rel =>
              refine ⟨j1, rfl, .inr HKJ.out.1, mkHid ⟨_, S.out.step HNY.out LJ.out (by have := HD.out; simpa [g] using this.symm) HW.out⟩⟩
            case measure =>
              show n - (intOf (.int .i64 _)).toNat < n - (intOf (.int .i64 _)).toNat
              show n - (j1 : Int).toNat < n - (k : Int).toNat
              have := HKJ.out
              omega
        · have LJ : Hid (Lesser ys n k j2) := by
            subst e2
            subst e1
            exact lesser_two (by omega) (by
              have := hc
              simpa [g] using this.symm)
          clear hc
          obtain ⟨d, hd⟩ : ∃ d, d = decide (ys.getD j2 [] < ys.getD k []) := ⟨_, rfl⟩
          have C2 := mkHid (fun m => less_walk (wr.drewN m) v ys (qu.drewN m).lies hys j2 k (by omega) (by omega))
          rw [← hd] at C2
          have HD := mkHid hd
          have CS := mkHid (fun m => swap_qu B (wr.drewN m) q v ys (qu.drewN m) k j2 (by omega) (by omega) hys)
          have HNY := mkHid hny
          have HKJ := mkHid (show j2 < n ∧ k < j2 by omega)
          clear hd hny hys hk0 hleaf e1 e2 h2 qu s HS
          cases d
          · go_wp2_with (first | (go_at_call 75; (with_reducible refine C1.out.mono ?_); rintro e w1 ⟨rfl, a, rfl⟩) | (go_at_call 75; (with_reducible refine (C2.out a).mono ?_); rintro e w3 ⟨rfl, b, rfl⟩))
            go_ret
            try rw [drew_two]
            exact S.out.done (dn_done S.out.2.2.1 LJ.out (by have := HD.out; simpa [g] using this.symm)) _
          · go_wp2_with (first | (go_at_call 75; (with_reducible refine C1.out.mono ?_); rintro e w1 ⟨rfl, a, rfl⟩) | (go_at_call 75; (with_reducible refine (C2.out a).mono ?_); rintro e w3 ⟨rfl, b, rfl⟩) | (go_at_call 79; (with_reducible refine (CS.out (a + b)).mono ?_); rintro e w2 ⟨rfl, hw2⟩; have HW := mkHid hw2; clear hw2))
            go_roundw
            case rel =>
              refine ⟨j2, rfl, .inr HKJ.out.1, mkHid ⟨_, S.out.step HNY.out LJ.out (by have := HD.out; simpa [g] using this.symm) HW.out⟩⟩
            case measure =>
              show n - (intOf (.int .i64 _)).toNat < n - (intOf (.int .i64 _)).toNat
              show n - (j2 : Int).toNat < n - (k : Int).toNat
              have := HKJ.out
              omega
      · have hq2 : (n : Int) ≤ (j2 : Int) := by omega
        have LJ : Hid (Lesser ys n k j1) := by
          subst e1
          exact lesser_one (by omega) (fun _ => by omega)
        obtain ⟨d, hd⟩ : ∃ d, d = decide (ys.getD j1 [] < ys.getD k []) := ⟨_, rfl⟩
        have C2 := mkHid (less_walk wr v ys qu.lies hys j1 k (by omega) (by omega))
        rw [← hd] at C2
        have HD := mkHid hd
        have CS := mkHid (fun m => swap_qu B (wr.drewN m) q v ys (qu.drewN m) k j1 (by omega) (by omega) hys)
        have HNY := mkHid hny
        have HKJ := mkHid (show j1 < n ∧ k < j1 by omega)
        clear hd hny hys hk0 hleaf e1 e2 h2 qu s HS
        cases d
        · go_wp2_with (first | (go_at_call 75; (with_reducible refine C2.out.mono ?_); rintro e w3 ⟨rfl, b, rfl⟩))
          go_ret
          try rw [drew_two]
          exact S.out.done (dn_done S.out.2.2.1 LJ.out (by have := HD.out; simpa [g] using this.symm)) _
        · go_wp2_with (first | (go_at_call 75; (with_reducible refine C2.out.mono ?_); rintro e w3 ⟨rfl, b, rfl⟩) | (go_at_call 79; (with_reducible refine (CS.out b).mono ?_); rintro e w2 ⟨rfl, hw2⟩; have HW := mkHid hw2; clear hw2))
          go_roundw
          case rel =>
            refine ⟨j1, rfl, .inr HKJ.out.1, mkHid ⟨_, S.out.step HNY.out LJ.out (by have := HD.out; simpa [g] using this.symm) HW.out⟩⟩
          case measure =>
            show n - (intOf (.int .i64 _)).toNat < n - (intOf (.int .i64 _)).toNat
            show n - (j1 : Int).toNat < n - (k : Int).toNat
            have := HKJ.out
            omega
end Go.Proofs.Ytcogeebfldlpoaa
