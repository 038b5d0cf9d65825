/-
  The walk of the statement on the order of any three floats.
-/
import Derived.Test.YtghalbecgiepmaaDoorWkj
import Derived.Test.YtghalbecgiepmaaDoorWke
import Derived.Deep.RegionHeld3
import Derived.Deep.DeepCutAuto
namespace Go.Proofs.YtghalbecgiepmaaDoor.wk
open Go.Proofs.YtghalbecgiepmaaDoor.flo Go.RowKit
set_option linter.unusedSimpArgs false
set_option linter.unusedVariables false

@[go_sem] theorem run_store_float {P : Program} {w : World} {a : Addr} {m : Mode} (k : FloatKind) (b : Nat) : (store a (.float k b) m).run P w = stored P w a (.float k b) m := run_store P w a _ m rfl

/-- a slice of whole numbers that came in: none, or its cells -/
def Row (w : World) (p : Option Addr) (n : Nat) (A : Nat → Int) : Prop :=
  n = 0 ∨ ∃ b off, p = some ⟨b, off, none⟩ ∧ b < w.heap.size ∧ ∀ i, i < n → w.cell? ⟨b, off + i, none⟩ = some (.int .i64 (A i))

theorem Row.at {w : World} {p : Option Addr} {n : Nat} {A : Nat → Int} (h : Row w p n A) {i : Nat} (hi : i < n) :
    ∃ b off, p = some ⟨b, off, none⟩ ∧ b < w.heap.size ∧ w.cell? ⟨b, off + i, none⟩ = some (.int .i64 (A i)) := by
  rcases h with h | ⟨b, off, h1, h2, h3⟩
  · omega
  · exact ⟨b, off, h1, h2, h3 i hi⟩

/-- three floats in a block of the call's own -/
structure Three (w : World) (L : Nat) (f : Nat → Nat) : Prop where
  lt : ∀ j, f j < 18446744073709551616
  cell : ∀ j, j < 3 → w.cell? ⟨L, j, none⟩ = some (.float .f64 (f j))
  frozen : ∀ j, w.frozen? ⟨L, j, none⟩ = false

theorem three_put {wr w2 : World} {L k yv : Nat} {f : Nat → Nat} (h : Three wr L f) (hy : yv < 18446744073709551616)
    (hc : ∀ j, w2.cell? ⟨L, j, none⟩ = wr.drew.cell? ⟨L, j, none⟩) (hz : ∀ j, w2.frozen? ⟨L, j, none⟩ = wr.drew.frozen? ⟨L, j, none⟩) (hk : k < 3) :
    Three (w2.setCell ⟨L, k, none⟩ (.float .f64 yv)) L (fun j => if j = k then yv else f j) := by
  refine ⟨fun j => ?_, fun j hj => ?_, fun j => ?_⟩
  · have := h.lt j
    split <;> assumption
  · by_cases e : j = k
    · subst e
      have : (w2.cell? ⟨L, j, none⟩).isSome = true := by rw [hc]; simp [h.cell j hj]
      simp only [if_true]
      exact World.cell?_setCell_same' _ _ _ this
    · simp only [e, if_false]
      rw [World.cell?_setCell_other _ _ _ _ (fun h => e (by simpa using (congrArg Addr.off h).symm)), hc]
      simpa using h.cell j hj
  · rw [World.frozen?_setCell, hz]
    simpa using h.frozen j

theorem key_le (x : Nat) : key x ≤ 9223372036854775808 := by
  have := rung_lt x
  unfold key
  split
  · omega
  · split <;> omega
theorem key_nan (x : Nat) : nan x = decide (key x = 9223372036854775808) := by
  have := rung_lt x
  unfold key
  cases h : nan x
  · have := not_nan h
    symm
    rw [decide_eq_false_iff_not]
    simp only [Bool.false_eq_true, if_false]
    split <;> omega
  · simp
theorem three_new {w : World} {x y z : Nat} (hx : x < 18446744073709551616) (hy : y < 18446744073709551616) (hz : z < 18446744073709551616) :
    Three (w.alloc (.cells #[.float .f64 x, .float .f64 y, .float .f64 z] 23)) w.heap.size (fun j => if j = 0 then x else if j = 1 then y else z) := by
  refine ⟨fun j => ?_, fun j hj => ?_, fun j => ?_⟩
  · split
    · exact hx
    · split
      · exact hy
      · exact hz
  · have hj' : j = 0 ∨ j = 1 ∨ j = 2 := by omega
    rcases hj' with rfl | rfl | rfl <;> simp
  · rw [frozen?_alloc_cells]
    unfold World.frozen?
    rw [Array.getElem?_eq_none (Nat.le_refl _)]
/-- how many of three are told so far -/
def cnt (t0 t1 t2 : Bool) : Nat → Nat
  | 0 => 0
  | 1 => t0.toNat
  | 2 => t0.toNat + t1.toNat
  | _ => t0.toNat + t1.toNat + t2.toNat
/-- two that are no numbers -/
def nones (_ : Nat) : Nat := 9221120237041090561
theorem nones_cell (w : World) (o : Obj) (i : Nat) (hi : i < 2) : ((w.alloc o).alloc (.cells #[.float .f64 9221120237041090561, .float .f64 9221120237041090561] 23)).cell? ⟨w.heap.size + 1, i, none⟩ = some (.float .f64 (nones i)) := by
  have hi' : i = 0 ∨ i = 1 := by omega
  rcases hi' with rfl | rfl <;> simp [nones]
theorem nones_walk (w : World) (o : Obj) : Calls Tryd.prog 13 #[.slice (some ⟨w.heap.size + 1, 0, none⟩) 2 2] ((w.alloc o).alloc (.cells #[.float .f64 9221120237041090561, .float .f64 9221120237041090561] 23)) fun e w' => e = .returned (.int .i64 (-1)) ∧ w' = (w.alloc o).alloc (.cells #[.float .f64 9221120237041090561, .float .f64 9221120237041090561] 23) := by
  have := best_walk (w.heap.size + 1) 2 2 nones _ (by decide) (fun i _ => by unfold nones; decide) (nones_cell w o)
  rw [show best nones 2 = -1 from by decide +kernel] at this
  exact this
theorem share00_walk (w : World) : Calls Tryd.prog 9 #[.int .i64 0, .int .i64 0] w fun e w' => e = .returned (.float .f64 9221120237041090561) ∧ w' = w := by
  have := share_any 0 0 w
  rw [show share 0 0 = 9221120237041090561 from by decide +kernel] at this
  exact this

set_option maxRecDepth 20000 in
set_option maxHeartbeats 8000000 in
theorem order_walk (pa pb ph : Option Addr) (na nb nh ca cb ch : Nat) (A B H : Nat → Int) (x y z : Nat) (w : World)
    (hx : x < 18446744073709551616) (hy : y < 18446744073709551616) (hz : z < 18446744073709551616)
    (la : na ≤ 9223372036854775807) (lb : nb ≤ 9223372036854775807) (lh : nh ≤ 9223372036854775807)
    (hA : Row w pa na A) (hB : Row w pb nb B) (hH : Row w ph nh H) (htab : Tab w) :
    Calls Tryd.prog 7 #[.slice pa na ca, .slice pb nb cb, .slice ph nh ch, .float .f64 x, .float .f64 y, .float .f64 z] w fun e w' => e = .returned (.bool true) ∧ Below w.heap.size w w' := by
  have HA : Hid (Row w pa na A) := hA
  have HB : Hid (Row w pb nb B) := hB
  have HH : Hid (Row w ph nh H) := hH
  clear hA hB hH
  go_enter Tryd.func7, Tryd.ntmps7
  go_upto_region 1 with fail
  iterate 20 go_step
  go_cut [] (fun wc => ∃ f : Nat → Nat, Below w.heap.size w wc ∧ w.heap.size < wc.heap.size ∧ Hid (Three wc w.heap.size f))
  case first =>
    go_wp2_with fail
    go_loopw [14] (fun i wr => ∃ (k : Nat) (f : Nat → Nat), k ≤ 3 ∧ i = .int .i64 k ∧ Below w.heap.size w wr ∧ w.heap.size < wr.heap.size ∧ Hid (Three wr w.heap.size f)) (fun i _ => 3 - (intOf i).toNat)
    case atStart =>
      refine ⟨0, fun j => if j = 0 then x else if j = 1 then y else z, by decide, rfl, (Below.refl _ _).alloc (Nat.le_refl _) _, by simp, ?_⟩
      exact three_new hx hy hz
    case round =>
      obtain ⟨k, f, hk, rfl, hb, hsz, HT⟩ := hrel
      by_cases hgo : k < 3 ∧ k < na ∧ k < nb ∧ k < nh
      · obtain ⟨h3, hka, hkb, hkh⟩ := hgo
        obtain ⟨ba, oa, rfl, bla, hca⟩ := HA.out.at hka
        obtain ⟨bb, ob, rfl, blb, hcb⟩ := HB.out.at hkb
        obtain ⟨bh, oh, rfl, blh, hch⟩ := HH.out.at hkh
        rw [← hb.cell (p := ⟨ba, oa + k, none⟩) bla] at hca
        rw [← hb.cell (p := ⟨bb, ob + k, none⟩) blb] at hcb
        rw [← hb.cell (p := ⟨bh, oh + k, none⟩) blh] at hch
        have hcl := HT.out.cell k h3
        have hfz := HT.out.frozen k
        have hfl := HT.out.lt k
        have i1 : (0 : Int) ≤ (k : Int) := by omega
        have i2 : (k : Int) < 3 := by omega
        have i3 : (k : Int) < (na : Int) := by omega
        have i4 : (k : Int) < (nb : Int) := by omega
        have i5 : (k : Int) < (nh : Int) := by omega
        generalize A k = av at hca
        generalize B k = bv at hcb
        generalize H k = hv at hch
        generalize f k = fv at hcl hfl
        have HX : Hid (∀ W, wr.heap.size ≤ W.heap.size → W.cell? ⟨ba, oa + k, none⟩ = some (.int .i64 av) → W.cell? ⟨bb, ob + k, none⟩ = some (.int .i64 bv) → W.cell? ⟨bh, oh + k, none⟩ = some (.int .i64 hv) → W.cell? ⟨w.heap.size, k, none⟩ = some (.float .f64 fv) → W.frozen? ⟨w.heap.size, k, none⟩ = false → Calls Tryd.prog 15 #[.int .i64 av, .int .i64 bv, .int .i64 hv, .float .f64 fv] W fun e w' => ∃ y, e = .returned (.float .f64 y) ∧ Hid (y < 18446744073709551616) ∧ w'.cell? ⟨ba, oa + k, none⟩ = some (.int .i64 av) ∧ w'.cell? ⟨bb, ob + k, none⟩ = some (.int .i64 bv) ∧ w'.cell? ⟨bh, oh + k, none⟩ = some (.int .i64 hv) ∧ w'.cell? ⟨w.heap.size, k, none⟩ = some (.float .f64 fv) ∧ w'.frozen? ⟨w.heap.size, k, none⟩ = false ∧ Hid (Below W.heap.size W w')) := fun W h1 h2 h3 h4 h5 h6 => (x_walk av bv hv fv W hfl).mono fun e w' ⟨y, e1, e2, e3⟩ => ⟨y, e1, e2, by rw [e3.cell (by simp; omega)]; exact h2, by rw [e3.cell (by simp; omega)]; exact h3, by rw [e3.cell (by simp; omega)]; exact h4, by rw [e3.cell (by simp; omega)]; exact h5, by rw [e3.frozen (by simp; omega)]; exact h6, e3⟩
        have n1 : ba ≠ w.heap.size := by omega
        have n2 : bb ≠ w.heap.size := by omega
        have n3 : bh ≠ w.heap.size := by omega
        have n4 : w.heap.size ≠ ba := by omega
        have n5 : w.heap.size ≠ bb := by omega
        have n6 : w.heap.size ≠ bh := by omega
        go_wp2_with fail
        clear hfl hx hy hz la lb lh
        go_region_with (first | (go_at_call 15; refine (HX.out _ ?_ ?_ ?_ ?_ ?_ ?_).mono ?_; (simp); (simpa using hca); (simpa using hcb); (simpa using hch); (simpa using hcl); (simpa using hfz); rintro e w2 ⟨yv, rfl, hyv, q3, q4, q5, q1, q2, b2⟩))
        all_goals
          go_wp2_with fail
          go_roundw
          case rel =>
            have b2 := b2.out
            have hb2 : Below w.heap.size w w2 := hb.trans (Below.trans ((Below.refl _ _).drew) (b2.mono (by simp; omega)))
            have hs2 : wr.heap.size ≤ w2.heap.size := by have := b2.size; simpa using this
            refine ⟨k + 1, fun j => if j = k then yv else f j, by omega, by go_num, hb2.setCell (by simp) _, by simp [World.setCell]; omega, ?_⟩
            exact three_put HT.out hyv.out (fun j => b2.cell (p := ⟨w.heap.size, j, none⟩) (by simpa using hsz)) (fun j => b2.frozen (p := ⟨w.heap.size, j, none⟩) (by simpa using hsz)) h3
          case measure => simp [intOf]; omega
      · have hcases : ¬ k < 3 ∨ (k < 3 ∧ ¬ k < na) ∨ (k < 3 ∧ k < na ∧ ¬ k < nb) ∨ (k < 3 ∧ k < na ∧ k < nb ∧ ¬ k < nh) := by omega
        rcases hcases with h | ⟨h1, h2⟩ | ⟨h1, h2, h3⟩ | ⟨h1, h2, h3, h4⟩
        all_goals
          clear hgo
          go_wp2_with fail
          go_meet
          exact ⟨f, hb, hsz, HT⟩
  case rest =>
  obtain ⟨f, hb, hsz, HT⟩ := hcut
  have c0 := HT.out.cell 0 (by decide)
  have c1 := HT.out.cell 1 (by decide)
  have c2 := HT.out.cell 2 (by decide)
  have l0 := HT.out.lt 0
  have l1 := HT.out.lt 1
  have l2 := HT.out.lt 2
  have htabr := tab_below htab hb
  generalize f 0 = a at c0 l0
  generalize f 1 = b at c1 l1
  generalize f 2 = c at c2 l2
  clear hx hy hz HA HB HH la lb lh
  go_wp2_with fail
  go_quiet (fail)
  have hbq : Below wc.heap.size wc (wc.drewN nq) := ⟨rfl, rfl, rfl, Nat.le_refl _, fun _ _ => rfl⟩
  have hbQ : Below w.heap.size w (wc.drewN nq) := hb.trans (hbq.mono (by omega))
  have htabQ := tab_below htabr hbq
  have hszQ : (wc.drewN nq).heap.size = wc.heap.size := rfl
  clear hszQ
  generalize wc.drewN nq = W at hbQ htabQ ⊢
  clear HT hbq htabr c0 c1 c2
  have kab := less_key l0 l1
  have kba := less_key l1 l0
  have kaa := less_key l0 l0
  have kbc := less_key l1 l2
  have kac := less_key l0 l2
  have kan := less_key l0 (show 9221120237041090561 < 18446744073709551616 by decide)
  have kna := less_key (show 9221120237041090561 < 18446744073709551616 by decide) l0
  have kn : key 9221120237041090561 = 9223372036854775808 := by decide
  have hka := key_le a
  have hnn : nan a = decide (key a = 9223372036854775808) := key_nan a
  rw [kn] at kan kna
  have hself : (FloatKind.f64.format.order a a != some .eq) = nan a := by rw [bne, show (FloatKind.f64.format.order a a == some .eq) = !nan a from order_self l0, Bool.not_not]
  have LAB : Hid (∀ w, Calls Tryd.prog 10 #[.float .f64 a, .float .f64 b] w fun e w' => e = .returned (.bool (less a b)) ∧ w' = w) := fun w => less_walk a b w l0 l1
  have LBA : Hid (∀ w, Calls Tryd.prog 10 #[.float .f64 b, .float .f64 a] w fun e w' => e = .returned (.bool (less b a)) ∧ w' = w) := fun w => less_walk b a w l1 l0
  have LAA : Hid (∀ w, Calls Tryd.prog 10 #[.float .f64 a, .float .f64 a] w fun e w' => e = .returned (.bool (less a a)) ∧ w' = w) := fun w => less_walk a a w l0 l0
  have LBC : Hid (∀ w, Calls Tryd.prog 10 #[.float .f64 b, .float .f64 c] w fun e w' => e = .returned (.bool (less b c)) ∧ w' = w) := fun w => less_walk b c w l1 l2
  have LAC : Hid (∀ w, Calls Tryd.prog 10 #[.float .f64 a, .float .f64 c] w fun e w' => e = .returned (.bool (less a c)) ∧ w' = w) := fun w => less_walk a c w l0 l2
  have LAN : Hid (∀ w, Calls Tryd.prog 10 #[.float .f64 a, .float .f64 9221120237041090561] w fun e w' => e = .returned (.bool (less a 9221120237041090561)) ∧ w' = w) := fun w => less_walk a _ w l0 (by decide)
  have LNA : Hid (∀ w, Calls Tryd.prog 10 #[.float .f64 9221120237041090561, .float .f64 a] w fun e w' => e = .returned (.bool (less 9221120237041090561 a)) ∧ w' = w) := fun w => less_walk _ a w (by decide) l0
  have SAB : Hid (∀ w, Calls Tryd.prog 11 #[.float .f64 a, .float .f64 b] w fun e w' => e = .returned (.bool (!less a b && !less b a)) ∧ w' = w) := fun w => same_walk a b w l0 l1
  have SAA : Hid (∀ w, Calls Tryd.prog 11 #[.float .f64 a, .float .f64 a] w fun e w' => e = .returned (.bool (!less a a && !less a a)) ∧ w' = w) := fun w => same_walk a a w l0 l0
  have eaa : less a a = false := by rw [kaa, decide_eq_false_iff_not]; omega
  have ena : less 9221120237041090561 a = false := by rw [kna, decide_eq_false_iff_not]; omega
  have ean : less a 9221120237041090561 = !nan a := by
    rw [kan, hnn, Bool.eq_iff_iff]; simp only [Bool.not_eq_true', decide_eq_true_eq, decide_eq_false_iff_not]; omega
  rw [← hnn] at *
  rw [eaa] at LAA SAA
  rw [ena] at LNA
  rw [ean] at LAN
  clear kaa kan kna kn
  generalize nan a = na' at LAN hself
  generalize less a b = tab at kab LAB SAB
  generalize less b a = tba at kba LBA SAB
  generalize less b c = tbc at kbc LBC
  generalize less a c = tac at kac LAC
  generalize key a = ka at *
  generalize key b = kb at *
  generalize key c = kc at *
  clear hnn eaa ena ean hka
  rcases Int.lt_trichotomy ka kb with h | h | h
  · obtain rfl : tab = true := by rw [kab, decide_eq_true_eq]; omega
    obtain rfl : tba = false := by rw [kba, decide_eq_false_iff_not]; omega
    have hbc : (tbc = true ↔ kb < kc) := by rw [kbc]; simp
    have hac : (tac = true ↔ ka < kc) := by rw [kac]; simp
    clear kab kba kbc kac
    cases tbc <;> cases tac <;> simp at hbc hac <;> first | (exfalso; omega) | skip
    all_goals
      clear hbc hac h
      go_wp2_with (first
        | (go_at_call 10; with_reducible refine (LAB.out _).mono ?_; rintro e w' ⟨rfl, rfl⟩)
        | (go_at_call 10; with_reducible refine (LBA.out _).mono ?_; rintro e w' ⟨rfl, rfl⟩)
        | (go_at_call 11; with_reducible refine (SAB.out _).mono ?_; rintro e w' ⟨rfl, rfl⟩))
      have hbR : Below w.heap.size w (w'.alloc (Obj.cells #[.bool true, .bool false, .bool false] 4)) := hbQ.alloc hbQ.size _
      have htabR := tab_below htabQ ((Below.refl w'.heap.size w').alloc (Nat.le_refl _) (Obj.cells #[.bool true, .bool false, .bool false] 4))
      go_loop [18, 88] (fun nn i => ∃ k : Nat, k ≤ 3 ∧ i = .int .i64 k ∧ nn = .int .i64 (cnt true false false k)) (fun _ i => 3 - (intOf i).toNat)
      case atStart => exact ⟨0, by decide, rfl, rfl⟩
      case round =>
        obtain ⟨k, hk, rfl, rfl⟩ := hrel
        have hk' : k = 0 ∨ k = 1 ∨ k = 2 ∨ k = 3 := by omega
        rcases hk' with rfl | rfl | rfl | rfl
        · go_wp2
          go_round
          case rel => first | exact ⟨1, by decide, rfl, rfl⟩ | exact ⟨1, by decide, rfl, congrArg (Value.int .i64) (by unfold wrap64; decide)⟩
          case measure => simp [intOf]
        · go_wp2
          go_round
          case rel => first | exact ⟨2, by decide, rfl, rfl⟩ | exact ⟨2, by decide, rfl, congrArg (Value.int .i64) (by unfold wrap64; decide)⟩
          case measure => simp [intOf]
        · go_wp2
          go_round
          case rel => first | exact ⟨3, by decide, rfl, rfl⟩ | exact ⟨3, by decide, rfl, congrArg (Value.int .i64) (by unfold wrap64; decide)⟩
          case measure => simp [intOf]
        · go_wp2_with (first
            | (go_at_call 10; with_reducible refine (LAA.out _).mono ?_; rintro e w' ⟨rfl, rfl⟩)
            | (go_at_call 11; with_reducible refine (SAA.out _).mono ?_; rintro e w' ⟨rfl, rfl⟩)
            | (go_at_call 10; with_reducible refine (LAB.out _).mono ?_; rintro e w' ⟨rfl, rfl⟩)
            | (go_at_call 10; with_reducible refine (LBC.out _).mono ?_; rintro e w' ⟨rfl, rfl⟩)
            | (go_at_call 10; with_reducible refine (LAC.out _).mono ?_; rintro e w' ⟨rfl, rfl⟩)
            | (go_at_call 11; with_reducible refine (SAB.out _).mono ?_; rintro e w' ⟨rfl, rfl⟩)
            | (go_at_call 10; with_reducible refine (LAN.out _).mono ?_; rintro e w' ⟨rfl, rfl⟩)
            | (go_at_call 10; with_reducible refine (LNA.out _).mono ?_; rintro e w' ⟨rfl, rfl⟩)
            | (go_at_call 9; with_reducible refine (share00_walk _).mono ?_; rintro e w' ⟨rfl, rfl⟩)
            | (go_at_call 13; with_reducible refine (nones_walk _ _).mono ?_; rintro e w' ⟨rfl, rfl⟩)
            | (go_at_call 13; with_reducible refine (best_none_walk _).mono ?_; rintro e w' ⟨rfl, rfl⟩))
          go_wp2_with (go_at_call 14; refine (wakes_walk _ (tab_below htabR ((Below.refl _ _).alloc (Nat.le_refl _) _))).mono ?_; rintro e w9 ⟨rfl, hb9⟩)
          go_ret
          have hbS := hbR.alloc hbR.size (Obj.cells #[.float .f64 9221120237041090561, .float .f64 9221120237041090561] 23)
          exact ⟨rfl, hbS.trans (hb9.mono hbS.size)⟩
  · obtain rfl : tab = false := by rw [kab, decide_eq_false_iff_not]; omega
    obtain rfl : tba = false := by rw [kba, decide_eq_false_iff_not]; omega
    have hbc : (tbc = true ↔ kb < kc) := by rw [kbc]; simp
    have hac : (tac = true ↔ ka < kc) := by rw [kac]; simp
    clear kab kba kbc kac
    cases tbc <;> cases tac <;> simp at hbc hac <;> first | (exfalso; omega) | skip
    all_goals
      clear hbc hac h
      go_wp2_with (first
        | (go_at_call 10; with_reducible refine (LAB.out _).mono ?_; rintro e w' ⟨rfl, rfl⟩)
        | (go_at_call 10; with_reducible refine (LBA.out _).mono ?_; rintro e w' ⟨rfl, rfl⟩)
        | (go_at_call 11; with_reducible refine (SAB.out _).mono ?_; rintro e w' ⟨rfl, rfl⟩))
      have hbR : Below w.heap.size w (w'.alloc (Obj.cells #[.bool false, .bool false, .bool true] 4)) := hbQ.alloc hbQ.size _
      have htabR := tab_below htabQ ((Below.refl w'.heap.size w').alloc (Nat.le_refl _) (Obj.cells #[.bool false, .bool false, .bool true] 4))
      go_loop [18, 88] (fun nn i => ∃ k : Nat, k ≤ 3 ∧ i = .int .i64 k ∧ nn = .int .i64 (cnt false false true k)) (fun _ i => 3 - (intOf i).toNat)
      case atStart => exact ⟨0, by decide, rfl, rfl⟩
      case round =>
        obtain ⟨k, hk, rfl, rfl⟩ := hrel
        have hk' : k = 0 ∨ k = 1 ∨ k = 2 ∨ k = 3 := by omega
        rcases hk' with rfl | rfl | rfl | rfl
        · go_wp2
          go_round
          case rel => first | exact ⟨1, by decide, rfl, rfl⟩ | exact ⟨1, by decide, rfl, congrArg (Value.int .i64) (by unfold wrap64; decide)⟩
          case measure => simp [intOf]
        · go_wp2
          go_round
          case rel => first | exact ⟨2, by decide, rfl, rfl⟩ | exact ⟨2, by decide, rfl, congrArg (Value.int .i64) (by unfold wrap64; decide)⟩
          case measure => simp [intOf]
        · go_wp2
          go_round
          case rel => first | exact ⟨3, by decide, rfl, rfl⟩ | exact ⟨3, by decide, rfl, congrArg (Value.int .i64) (by unfold wrap64; decide)⟩
          case measure => simp [intOf]
        · go_wp2_with (first
            | (go_at_call 10; with_reducible refine (LAA.out _).mono ?_; rintro e w' ⟨rfl, rfl⟩)
            | (go_at_call 11; with_reducible refine (SAA.out _).mono ?_; rintro e w' ⟨rfl, rfl⟩)
            | (go_at_call 10; with_reducible refine (LAB.out _).mono ?_; rintro e w' ⟨rfl, rfl⟩)
            | (go_at_call 10; with_reducible refine (LBC.out _).mono ?_; rintro e w' ⟨rfl, rfl⟩)
            | (go_at_call 10; with_reducible refine (LAC.out _).mono ?_; rintro e w' ⟨rfl, rfl⟩)
            | (go_at_call 11; with_reducible refine (SAB.out _).mono ?_; rintro e w' ⟨rfl, rfl⟩)
            | (go_at_call 10; with_reducible refine (LAN.out _).mono ?_; rintro e w' ⟨rfl, rfl⟩)
            | (go_at_call 10; with_reducible refine (LNA.out _).mono ?_; rintro e w' ⟨rfl, rfl⟩)
            | (go_at_call 9; with_reducible refine (share00_walk _).mono ?_; rintro e w' ⟨rfl, rfl⟩)
            | (go_at_call 13; with_reducible refine (nones_walk _ _).mono ?_; rintro e w' ⟨rfl, rfl⟩)
            | (go_at_call 13; with_reducible refine (best_none_walk _).mono ?_; rintro e w' ⟨rfl, rfl⟩))
          go_wp2_with (go_at_call 14; refine (wakes_walk _ (tab_below htabR ((Below.refl _ _).alloc (Nat.le_refl _) _))).mono ?_; rintro e w9 ⟨rfl, hb9⟩)
          go_ret
          have hbS := hbR.alloc hbR.size (Obj.cells #[.float .f64 9221120237041090561, .float .f64 9221120237041090561] 23)
          exact ⟨rfl, hbS.trans (hb9.mono hbS.size)⟩
  · obtain rfl : tab = false := by rw [kab, decide_eq_false_iff_not]; omega
    obtain rfl : tba = true := by rw [kba, decide_eq_true_eq]; omega
    have hbc : (tbc = true ↔ kb < kc) := by rw [kbc]; simp
    have hac : (tac = true ↔ ka < kc) := by rw [kac]; simp
    clear kab kba kbc kac
    cases tbc <;> cases tac <;> simp at hbc hac <;> first | (exfalso; omega) | skip
    all_goals
      clear hbc hac h
      go_wp2_with (first
        | (go_at_call 10; with_reducible refine (LAB.out _).mono ?_; rintro e w' ⟨rfl, rfl⟩)
        | (go_at_call 10; with_reducible refine (LBA.out _).mono ?_; rintro e w' ⟨rfl, rfl⟩)
        | (go_at_call 11; with_reducible refine (SAB.out _).mono ?_; rintro e w' ⟨rfl, rfl⟩))
      have hbR : Below w.heap.size w (w'.alloc (Obj.cells #[.bool false, .bool true, .bool false] 4)) := hbQ.alloc hbQ.size _
      have htabR := tab_below htabQ ((Below.refl w'.heap.size w').alloc (Nat.le_refl _) (Obj.cells #[.bool false, .bool true, .bool false] 4))
      go_loop [18, 88] (fun nn i => ∃ k : Nat, k ≤ 3 ∧ i = .int .i64 k ∧ nn = .int .i64 (cnt false true false k)) (fun _ i => 3 - (intOf i).toNat)
      case atStart => exact ⟨0, by decide, rfl, rfl⟩
      case round =>
        obtain ⟨k, hk, rfl, rfl⟩ := hrel
        have hk' : k = 0 ∨ k = 1 ∨ k = 2 ∨ k = 3 := by omega
        rcases hk' with rfl | rfl | rfl | rfl
        · go_wp2
          go_round
          case rel => first | exact ⟨1, by decide, rfl, rfl⟩ | exact ⟨1, by decide, rfl, congrArg (Value.int .i64) (by unfold wrap64; decide)⟩
          case measure => simp [intOf]
        · go_wp2
          go_round
          case rel => first | exact ⟨2, by decide, rfl, rfl⟩ | exact ⟨2, by decide, rfl, congrArg (Value.int .i64) (by unfold wrap64; decide)⟩
          case measure => simp [intOf]
        · go_wp2
          go_round
          case rel => first | exact ⟨3, by decide, rfl, rfl⟩ | exact ⟨3, by decide, rfl, congrArg (Value.int .i64) (by unfold wrap64; decide)⟩
          case measure => simp [intOf]
        · go_wp2_with (first
            | (go_at_call 10; with_reducible refine (LAA.out _).mono ?_; rintro e w' ⟨rfl, rfl⟩)
            | (go_at_call 11; with_reducible refine (SAA.out _).mono ?_; rintro e w' ⟨rfl, rfl⟩)
            | (go_at_call 10; with_reducible refine (LAB.out _).mono ?_; rintro e w' ⟨rfl, rfl⟩)
            | (go_at_call 10; with_reducible refine (LBC.out _).mono ?_; rintro e w' ⟨rfl, rfl⟩)
            | (go_at_call 10; with_reducible refine (LAC.out _).mono ?_; rintro e w' ⟨rfl, rfl⟩)
            | (go_at_call 11; with_reducible refine (SAB.out _).mono ?_; rintro e w' ⟨rfl, rfl⟩)
            | (go_at_call 10; with_reducible refine (LAN.out _).mono ?_; rintro e w' ⟨rfl, rfl⟩)
            | (go_at_call 10; with_reducible refine (LNA.out _).mono ?_; rintro e w' ⟨rfl, rfl⟩)
            | (go_at_call 9; with_reducible refine (share00_walk _).mono ?_; rintro e w' ⟨rfl, rfl⟩)
            | (go_at_call 13; with_reducible refine (nones_walk _ _).mono ?_; rintro e w' ⟨rfl, rfl⟩)
            | (go_at_call 13; with_reducible refine (best_none_walk _).mono ?_; rintro e w' ⟨rfl, rfl⟩))
          go_wp2_with (go_at_call 14; refine (wakes_walk _ (tab_below htabR ((Below.refl _ _).alloc (Nat.le_refl _) _))).mono ?_; rintro e w9 ⟨rfl, hb9⟩)
          go_ret
          have hbS := hbR.alloc hbR.size (Obj.cells #[.float .f64 9221120237041090561, .float .f64 9221120237041090561] 23)
          exact ⟨rfl, hbS.trans (hb9.mono hbS.size)⟩
end Go.Proofs.YtghalbecgiepmaaDoor.wk
