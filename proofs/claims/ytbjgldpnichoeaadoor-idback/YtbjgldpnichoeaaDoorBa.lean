/-
  IdBack: the law's walk.
-/
import Derived.Test.YtbjgldpnichoeaaDoorBb
set_option linter.unusedSimpArgs false
set_option linter.unusedVariables false
namespace Go.Proofs.YtbjgldpnichoeaaDoor
open Go.RowKit Go.Sort

def badTexts : List (List UInt8) := [[], [97], [97, 46], [46, 49], [97, 46, 48], [97, 46, 48, 49], [97, 46, 52, 49], [65, 46, 49], [97, 46, 49, 46, 49], [97, 46, 45, 49], [45, 45], [97, 98, 99, 100, 101, 102, 103, 104, 105, 46, 49], [32, 97, 46, 49]]

def outB (s : List UInt8) : Bool := match Lib.atoiAll (cutD s) with
  | .ok v => decide (v < 1) || decide (40 < v) || !rightL (cutP s) || !decide (cutP s ++ [46] ++ Lib.decDigits v.toNat = s)
  | _ => true

theorem bad_out : ∀ k : Fin 13, outB (badTexts.getD k.val []) = true ∧ badTexts.getD k.val [] ≠ [45] ∧ (badTexts.getD k.val []).length ≤ 20 := by decide +kernel

theorem parse_none (s : ByteArray) (l : List UInt8) (hl : s.data.toList = l) (h20 : l.length ≤ 20) (h : outB l = true) (hne : l ≠ [45]) :
    Hid (∀ w, Env w → Calls Tryd.prog 11 #[.string s] w fun e w' => e = .returned (.tuple #[.agg #[.string ⟨#[]⟩, .int .i64 0], .bool false]) ∧ Below w.heap.size w w') := by
  intro w hE
  subst hl
  have hs : s.size < 4294967281 := by
    have : s.data.toList.length = s.size := by simp
    omega
  unfold outB at h
  cases hx : Lib.atoiAll (cutD s.data.toList) with
  | «syntax» => exact parse_bad w s hs hE hne (fun v e => by rw [hx] at e; cases e)
  | range => exact parse_bad w s hs hE hne (fun v e => by rw [hx] at e; cases e)
  | ok v =>
    rw [hx] at h
    simp only [Bool.or_eq_true, decide_eq_true_eq, Bool.not_eq_true', decide_eq_false_iff_not] at h
    by_cases ho : v < 1 ∨ 40 < v ∨ rightL (cutP s.data.toList) = false
    · exact parse_out w s hs hE hne v hx ho
    · have h1 : 1 ≤ v ∧ v ≤ 40 := ⟨by omega, by omega⟩
      have h2 : rightL (cutP s.data.toList) = true := by
        cases hr : rightL (cutP s.data.toList) with
        | true => rfl
        | false => exact absurd (.inr (.inr hr)) ho
      have h3 : ¬ cutP s.data.toList ++ [46] ++ Lib.decDigits v.toNat = s.data.toList := by
        rcases h with ((h | h) | h) | h
        · omega
        · omega
        · rw [h2] at h; cases h
        · exact h
      have hv : v = ((v.toNat : Nat) : Int) := by omega
      have := parse_in w s hs hE hne v.toNat (by rw [hx, ← hv]) ⟨by omega, by omega⟩ h2 false (decide_eq_false h3).symm
      rw [if_neg (by decide)] at this
      exact this

def badB (k : Nat) : ByteArray := ⟨(badTexts.getD k []).toArray⟩

theorem bad_cells (w : World) (cs : Array Value) (hcs : cs = (badTexts.map encStr).toArray) (k : Nat) (hk : k < 13) : (w.alloc (.cells cs 9)).cell? ⟨w.heap.size, k, none⟩ = some (.string (badB k)) := by
  subst hcs
  rw [cell_of_row _ _ k _ 9 (0, 0) (heap_alloc_new w _)]
  have hl : badTexts.length = 13 := rfl
  simp [badB, encStr, show k < badTexts.length by omega]

theorem meas13 {k : Nat} (h : k < 13) : 13 - (intOf (.int .i64 ((k : Int) + 1))).toNat < 13 - (intOf (.int .i64 (k : Int))).toNat := by
  simp [intOf]; omega

theorem measJ {j n : Nat} (h : j + 1 < n) : n - (intOf (.int .i64 ((j : Int) + 1 + 1))).toNat < n - (intOf (.int .i64 ((j + 1 : Nat) : Int))).toNat := by
  simp [intOf]; omega

theorem LiesS.form2 {w : World} {ao : Option Addr} {m cap : Nat} {ss : List (List UInt8)} (h : LiesS w (.slice ao m cap) ss) (hn : 0 < ss.length) : ∃ b off, ao = some ⟨b, off, none⟩ ∧ ∀ k, k < ss.length → w.cell? ⟨b, off + k, none⟩ = some (encStr (ss.getD k [])) := by
  obtain ⟨b, off, c, e, _, hc⟩ := h.form hn
  cases e
  exact ⟨b, off, rfl, hc⟩

theorem in_self {ss : List (List UInt8)} {k : Nat} (hk : k < ss.length) (y : ByteArray) (hy : y = ⟨(ss.getD k []).toArray⟩) : y.data.toList ∈ ss := by
  subst hy
  have : ss.getD k [] = ss[k] := by simp [hk]
  rw [this]
  exact List.getElem_mem hk

theorem cell3_0 {w : World} {b : Nat} {x y z : Value} {t : TypeId} (h : w.heap[b]? = some (.cells #[x, y, z] t (0, 0))) : w.cell? ⟨b, 0, none⟩ = some x := by simp [World.cell?, h]
theorem cell3_1 {w : World} {b : Nat} {x y z : Value} {t : TypeId} (h : w.heap[b]? = some (.cells #[x, y, z] t (0, 0))) : w.cell? ⟨b, 1, none⟩ = some y := by simp [World.cell?, h]
theorem cell3_2 {w : World} {b : Nat} {x y z : Value} {t : TypeId} (h : w.heap[b]? = some (.cells #[x, y, z] t (0, 0))) : w.cell? ⟨b, 2, none⟩ = some z := by simp [World.cell?, h]

theorem eight_old {w w' : World} {a b c d a' b' c' d' : Addr} {x y z u x' y' z' u' : Value} (hb : Below w.heap.size w w') (h : w.cell? a = some x ∧ w.cell? b = some y ∧ w.cell? c = some z ∧ w.cell? d = some u ∧ w.cell? a' = some x' ∧ w.cell? b' = some y' ∧ w.cell? c' = some z' ∧ w.cell? d' = some u') :
    w'.cell? a = some x ∧ w'.cell? b = some y ∧ w'.cell? c = some z ∧ w'.cell? d = some u ∧ w'.cell? a' = some x' ∧ w'.cell? b' = some y' ∧ w'.cell? c' = some z' ∧ w'.cell? d' = some u' :=
  ⟨cell_old hb h.1, cell_old hb h.2.1, cell_old hb h.2.2.1, cell_old hb h.2.2.2.1, cell_old hb h.2.2.2.2.1, cell_old hb h.2.2.2.2.2.1, cell_old hb h.2.2.2.2.2.2.1, cell_old hb h.2.2.2.2.2.2.2⟩

set_option maxRecDepth 100000 in
set_option maxHeartbeats 16000000 in
theorem back_walk (w : World) (n m : Int) (v : Value) (L : List (List UInt8)) (hE : Env w) (hv : LiesS w v L) (hl : L.length ≤ 8796093022208) :
    Calls Tryd.prog 4 #[.int .i64 n, .int .i64 m, v] w fun e w' => e = .returned (.bool true) ∧ Below w.heap.size w w' := by
  obtain ⟨nl, hnl⟩ : ∃ nl, nl = L.length := ⟨_, rfl⟩
  obtain ⟨ao, cap, rfl, hv'⟩ := hv.slice nl hnl
  obtain ⟨a, ha, kA'⟩ := within_nat2 n 3 (by decide) (by decide)
  obtain ⟨i, hi, kI'⟩ := within_nat2 (IntKind.i64.wrap (n.tdiv 3)) 40 (by decide) (by decide)
  obtain ⟨b, hb, kB'⟩ := within_nat2 m 3 (by decide) (by decide)
  obtain ⟨j, hj, kJ'⟩ := within_nat2 (IntKind.i64.wrap (m.tdiv 3)) 40 (by decide) (by decide)
  have kA : Hid (∀ w, Calls Tryd.prog 6 #[.int .i64 n, .int .i64 3] w fun e w' => e = .returned (.int .i64 (a : Int)) ∧ w' = w) := kA'
  have kI : Hid (∀ w, Calls Tryd.prog 6 #[.int .i64 (IntKind.i64.wrap (n.tdiv 3)), .int .i64 40] w fun e w' => e = .returned (.int .i64 (i : Int)) ∧ w' = w) := kI'
  have kB : Hid (∀ w, Calls Tryd.prog 6 #[.int .i64 m, .int .i64 3] w fun e w' => e = .returned (.int .i64 (b : Int)) ∧ w' = w) := kB'
  have kJ : Hid (∀ w, Calls Tryd.prog 6 #[.int .i64 (IntKind.i64.wrap (m.tdiv 3)), .int .i64 40] w fun e w' => e = .returned (.int .i64 (j : Int)) ∧ w' = w) := kJ'
  clear kA' kI' kB' kJ'
  have ai : (a : Int) < 3 := by omega
  have bi : (b : Int) < 3 := by omega
  have wi : wrap64 (1 + (i : Int)) = 1 + (i : Int) := by unfold wrap64; omega
  have wj : wrap64 (1 + (j : Int)) = 1 + (j : Int) := by unfold wrap64; omega
  have wi' : IntKind.i64.wrap (1 + (i : Int)) = 1 + (i : Int) := by rw [IntKind.wrap_i64]; omega
  have wj' : IntKind.i64.wrap (1 + (j : Int)) = 1 + (j : Int) := by rw [IntKind.wrap_i64]; omega
  have hn1 := names_cells w a ha
  have hn2 := names_cells w b hb
  have hn3 := names_two w a ha
  have hn4 := names_snd w b hb
  have hn5 := names_two w b hb
  go_enter Tryd.func4, Tryd.ntmps4
  go_upto_region 1 with (fail)
  go_cut [7, 8] (fun x y wx => ∃ b1 b2, x = .pointer (some ⟨b1, 0, none⟩) ∧ y = .pointer (some ⟨b2, 0, none⟩) ∧ Hid (wx.heap[b1]? = some (.cells #[.string (nm a), .int .i64 (1 + (i : Int))] 27 (0, 0))) ∧ Hid (wx.heap[b2]? = some (.cells #[.string (nm b), .int .i64 (1 + (j : Int))] 27 (0, 0))) ∧ Hid (Below w.heap.size w wx))
  case first =>
    refine Rg.wp_region_inv2 (by kernel_rfl) (by kernel_rfl) (by kernel_rfl) (J1 w n m a i b j (nm a) (nm b)) ?_ ?_ ?_
    · exact J1.start
    · intro f w1 k o A hJ ho hf hdep ev ev0
      have hk : k < 24 := (Array.getElem?_eq_some_iff.1 ho).1
      rcases (show k = 0 ∨ k = 1 ∨ k = 2 ∨ k = 3 ∨ k = 4 ∨ k = 5 ∨ k = 6 ∨ k = 7 ∨ k = 8 ∨ k = 9 ∨ k = 10 ∨ k = 11 ∨ k = 12 ∨ k = 13 ∨ k = 14 ∨ k = 15 ∨ k = 16 ∨ k = 17 ∨ k = 18 ∨ k = 19 ∨ k = 20 ∨ k = 21 ∨ k = 22 ∨ k = 23 by omega) with rfl | rfl | rfl | rfl | rfl | rfl | rfl | rfl | rfl | rfl | rfl | rfl | rfl | rfl | rfl | rfl | rfl | rfl | rfl | rfl | rfl | rfl | rfl | rfl
      · have ho := Option.some.inj ho
        subst ho
        exact st_row rfl ((hJ.grow ((Below.refl _ w1).alloc (Nat.le_refl _) _)).next 0 _ (by decide) (by decide) (fun u hu => by cases hu) (fun _ => ⟨_, rfl, heap_alloc_new w1 _⟩) (fun e => absurd e (by decide)) (fun e => absurd e (by decide)) (fun e => absurd e (by decide)) (fun e => absurd e (by decide)))
      · have ho := Option.some.inj ho
        subst ho
        exact st_move (.tmp 0) _ rfl (ev0 0 (by kernel_rfl)) (hJ.pure 1 _ rfl)
      · have ho := Option.some.inj ho
        subst ho
        exact st_within (.tmp 26) (.const (.int .i64 3)) _ _ _ _ rfl (ev 1 _ 26 _ rfl rfl (by show _ < 162; decide) (hJ.at (hdep { on := 1, ground := .data } (by simp) rfl) rfl)) rfl (kA.out _) (hJ.pure 2 _ rfl)
      · have ho := Option.some.inj ho
        subst ho
        obtain ⟨v0, h0⟩ := Option.isSome_iff_exists.1 (hdep { on := 0, ground := .data } (by simp) rfl)
        obtain ⟨g, rfl, hg⟩ := hJ.s0 v0 h0
        exact st_index (.tmp 25) (.tmp 27) g a 3 3 rfl (ev 0 _ 25 _ rfl rfl (by show _ < 162; decide) h0) (ev 2 _ 27 _ rfl rfl (by show _ < 162; decide) (hJ.at (hdep { on := 2, ground := .data } (by simp) rfl) rfl)) ha (hJ.next 3 _ (by decide) (by decide) (fun u hu => by cases hu) (fun e => e.elim (fun e => absurd e (by decide)) (fun e => absurd e (by decide))) (fun _ => ⟨g, rfl, hg⟩) (fun e => absurd e (by decide)) (fun e => absurd e (by decide)) (fun e => absurd e (by decide)))
      · have ho := Option.some.inj ho
        subst ho
        obtain ⟨v0, h0⟩ := Option.isSome_iff_exists.1 (hdep { on := 3, ground := .data } (by simp) rfl)
        obtain ⟨g, rfl, hg⟩ := hJ.q0 v0 h0
        exact st_load (.tmp 28) _ _ rfl (ev 3 _ 28 _ rfl rfl (by show _ < 162; decide) h0) (three_at hg ha) (hJ.pure 4 _ rfl)
      · have ho := Option.some.inj ho
        subst ho
        exact st_move (.tmp 0) _ rfl (ev0 0 (by kernel_rfl)) (hJ.pure 5 _ rfl)
      · have ho := Option.some.inj ho
        subst ho
        exact st_quo (.tmp 30) _ n rfl (ev 5 _ 30 _ rfl rfl (by show _ < 162; decide) (hJ.at (hdep { on := 5, ground := .data } (by simp) rfl) rfl)) rfl (hJ.pure 6 _ rfl)
      · have ho := Option.some.inj ho
        subst ho
        exact st_within (.tmp 31) (.const (.int .i64 40)) _ _ _ _ rfl (ev 6 _ 31 _ rfl rfl (by show _ < 162; decide) (hJ.at (hdep { on := 6, ground := .data } (by simp) rfl) rfl)) rfl (kI.out _) (hJ.pure 7 _ rfl)
      · have ho := Option.some.inj ho
        subst ho
        exact st_add _ (.tmp 32) _ rfl rfl (ev 7 _ 32 _ rfl rfl (by show _ < 162; decide) (hJ.at (hdep { on := 7, ground := .data } (by simp) rfl) rfl)) wi' (hJ.pure 8 _ rfl)
      · have ho := Option.some.inj ho
        subst ho
        exact st_build (.tmp 29) (.tmp 33) _ _ rfl (ev 4 _ 29 _ rfl rfl (by show _ < 162; decide) (hJ.at (hdep { on := 4, ground := .data } (by simp) rfl) rfl)) (ev 8 _ 33 _ rfl rfl (by show _ < 162; decide) (hJ.at (hdep { on := 8, ground := .data } (by simp) rfl) rfl)) (hJ.pure 9 _ rfl)
      · have ho := Option.some.inj ho
        subst ho
        exact st_row rfl ((hJ.grow ((Below.refl _ w1).alloc (Nat.le_refl _) _)).next 10 _ (by decide) (by decide) (fun u hu => by cases hu) (fun _ => ⟨_, rfl, heap_alloc_new w1 _⟩) (fun e => absurd e (by decide)) (fun e => absurd e (by decide)) (fun e => absurd e (by decide)) (fun e => absurd e (by decide)))
      · have ho := Option.some.inj ho
        subst ho
        exact st_move (.tmp 1) _ rfl (ev0 1 (by kernel_rfl)) (hJ.pure 11 _ rfl)
      · have ho := Option.some.inj ho
        subst ho
        exact st_within (.tmp 36) (.const (.int .i64 3)) _ _ _ _ rfl (ev 11 _ 36 _ rfl rfl (by show _ < 162; decide) (hJ.at (hdep { on := 11, ground := .data } (by simp) rfl) rfl)) rfl (kB.out _) (hJ.pure 12 _ rfl)
      · have ho := Option.some.inj ho
        subst ho
        obtain ⟨v0, h0⟩ := Option.isSome_iff_exists.1 (hdep { on := 10, ground := .data } (by simp) rfl)
        obtain ⟨g, rfl, hg⟩ := hJ.s1 v0 h0
        exact st_index (.tmp 35) (.tmp 37) g b 3 3 rfl (ev 10 _ 35 _ rfl rfl (by show _ < 162; decide) h0) (ev 12 _ 37 _ rfl rfl (by show _ < 162; decide) (hJ.at (hdep { on := 12, ground := .data } (by simp) rfl) rfl)) hb (hJ.next 13 _ (by decide) (by decide) (fun u hu => by cases hu) (fun e => e.elim (fun e => absurd e (by decide)) (fun e => absurd e (by decide))) (fun e => absurd e (by decide)) (fun _ => ⟨g, rfl, hg⟩) (fun e => absurd e (by decide)) (fun e => absurd e (by decide)))
      · have ho := Option.some.inj ho
        subst ho
        obtain ⟨v0, h0⟩ := Option.isSome_iff_exists.1 (hdep { on := 13, ground := .data } (by simp) rfl)
        obtain ⟨g, rfl, hg⟩ := hJ.q1 v0 h0
        exact st_load (.tmp 38) _ _ rfl (ev 13 _ 38 _ rfl rfl (by show _ < 162; decide) h0) (three_at hg hb) (hJ.pure 14 _ rfl)
      · have ho := Option.some.inj ho
        subst ho
        exact st_move (.tmp 1) _ rfl (ev0 1 (by kernel_rfl)) (hJ.pure 15 _ rfl)
      · have ho := Option.some.inj ho
        subst ho
        exact st_quo (.tmp 40) _ m rfl (ev 15 _ 40 _ rfl rfl (by show _ < 162; decide) (hJ.at (hdep { on := 15, ground := .data } (by simp) rfl) rfl)) rfl (hJ.pure 16 _ rfl)
      · have ho := Option.some.inj ho
        subst ho
        exact st_within (.tmp 41) (.const (.int .i64 40)) _ _ _ _ rfl (ev 16 _ 41 _ rfl rfl (by show _ < 162; decide) (hJ.at (hdep { on := 16, ground := .data } (by simp) rfl) rfl)) rfl (kJ.out _) (hJ.pure 17 _ rfl)
      · have ho := Option.some.inj ho
        subst ho
        exact st_add _ (.tmp 42) _ rfl rfl (ev 17 _ 42 _ rfl rfl (by show _ < 162; decide) (hJ.at (hdep { on := 17, ground := .data } (by simp) rfl) rfl)) wj' (hJ.pure 18 _ rfl)
      · have ho := Option.some.inj ho
        subst ho
        exact st_build (.tmp 39) (.tmp 43) _ _ rfl (ev 14 _ 39 _ rfl rfl (by show _ < 162; decide) (hJ.at (hdep { on := 14, ground := .data } (by simp) rfl) rfl)) (ev 18 _ 43 _ rfl rfl (by show _ < 162; decide) (hJ.at (hdep { on := 18, ground := .data } (by simp) rfl) rfl)) (hJ.pure 19 _ rfl)
      · have ho := Option.some.inj ho
        subst ho
        have hz : (f 22).isSome = false := by
          cases hx : (f 22).isSome with
          | false => rfl
          | true => have := hJ.d22 hx; rw [hf] at this; cases this
        exact st_alloc rfl ((hJ.grow ((Below.refl _ w1).alloc (Nat.le_refl _) _)).next 20 _ (by decide) (by decide) (fun u hu => by cases hu) (fun e => e.elim (fun e => absurd e (by decide)) (fun e => absurd e (by decide))) (fun e => absurd e (by decide)) (fun e => absurd e (by decide)) (fun _ => ⟨w1.heap.size, rfl, hJ.old.size, by rw [hz]; exact heap_alloc_new w1 _, fun g' hg' => by
          obtain ⟨g2, e2, _, h2⟩ := hJ.a1 _ hg'
          cases e2
          have := (Array.getElem?_eq_some_iff.1 h2).1
          omega⟩) (fun e => absurd e (by decide)))
      · have ho := Option.some.inj ho
        subst ho
        have hz : (f 23).isSome = false := by
          cases hx : (f 23).isSome with
          | false => rfl
          | true => have := hJ.d23 hx; rw [hf] at this; cases this
        exact st_alloc rfl ((hJ.grow ((Below.refl _ w1).alloc (Nat.le_refl _) _)).next 21 _ (by decide) (by decide) (fun u hu => by cases hu) (fun e => e.elim (fun e => absurd e (by decide)) (fun e => absurd e (by decide))) (fun e => absurd e (by decide)) (fun e => absurd e (by decide)) (fun e => absurd e (by decide)) (fun _ => ⟨w1.heap.size, rfl, hJ.old.size, by rw [hz]; exact heap_alloc_new w1 _, fun g' hg' => by
          obtain ⟨g2, e2, _, h2⟩ := hJ.a0 _ hg'
          cases e2
          have := (Array.getElem?_eq_some_iff.1 h2).1
          omega⟩))
      · have ho := Option.some.inj ho
        subst ho
        obtain ⟨v0, h0⟩ := Option.isSome_iff_exists.1 (hdep { on := 20, ground := .data } (by simp) rfl)
        obtain ⟨g, rfl, hw, hg⟩ := hJ.a0 v0 h0
        exact st_store (.tmp 7) (.tmp 34) g _ _ rfl (ev 20 _ 7 _ rfl rfl (by show _ < 162; decide) h0) (ev 9 _ 34 _ rfl rfl (by show _ < 162; decide) (hJ.at (hdep { on := 9, ground := .data } (by simp) rfl) rfl)) hg rfl (rowOf_size _ _ _) (two_one _ _) (hJ.store0 h0 hw hg _)
      · have ho := Option.some.inj ho
        subst ho
        obtain ⟨v0, h0⟩ := Option.isSome_iff_exists.1 (hdep { on := 21, ground := .data } (by simp) rfl)
        obtain ⟨g, rfl, hw, hg⟩ := hJ.a1 v0 h0
        exact st_store (.tmp 8) (.tmp 44) g _ _ rfl (ev 21 _ 8 _ rfl rfl (by show _ < 162; decide) h0) (ev 19 _ 44 _ rfl rfl (by show _ < 162; decide) (hJ.at (hdep { on := 19, ground := .data } (by simp) rfl) rfl)) hg rfl (rowOf_size _ _ _) (two_one _ _) (hJ.store1 h0 hw hg _)
    · intro f w1 hJ hall
      obtain ⟨v0, h0⟩ := Option.isSome_iff_exists.1 (hall 0 (by decide))
      obtain ⟨v1, h1⟩ := Option.isSome_iff_exists.1 (hall 1 (by decide))
      obtain ⟨v2, h2⟩ := Option.isSome_iff_exists.1 (hall 2 (by decide))
      obtain ⟨v3, h3⟩ := Option.isSome_iff_exists.1 (hall 3 (by decide))
      obtain ⟨v4, h4⟩ := Option.isSome_iff_exists.1 (hall 4 (by decide))
      obtain ⟨v5, h5⟩ := Option.isSome_iff_exists.1 (hall 5 (by decide))
      obtain ⟨v6, h6⟩ := Option.isSome_iff_exists.1 (hall 6 (by decide))
      obtain ⟨v7, h7⟩ := Option.isSome_iff_exists.1 (hall 7 (by decide))
      obtain ⟨v8, h8⟩ := Option.isSome_iff_exists.1 (hall 8 (by decide))
      obtain ⟨v9, h9⟩ := Option.isSome_iff_exists.1 (hall 9 (by decide))
      obtain ⟨v10, h10⟩ := Option.isSome_iff_exists.1 (hall 10 (by decide))
      obtain ⟨v11, h11⟩ := Option.isSome_iff_exists.1 (hall 11 (by decide))
      obtain ⟨v12, h12⟩ := Option.isSome_iff_exists.1 (hall 12 (by decide))
      obtain ⟨v13, h13⟩ := Option.isSome_iff_exists.1 (hall 13 (by decide))
      obtain ⟨v14, h14⟩ := Option.isSome_iff_exists.1 (hall 14 (by decide))
      obtain ⟨v15, h15⟩ := Option.isSome_iff_exists.1 (hall 15 (by decide))
      obtain ⟨v16, h16⟩ := Option.isSome_iff_exists.1 (hall 16 (by decide))
      obtain ⟨v17, h17⟩ := Option.isSome_iff_exists.1 (hall 17 (by decide))
      obtain ⟨v18, h18⟩ := Option.isSome_iff_exists.1 (hall 18 (by decide))
      obtain ⟨v19, h19⟩ := Option.isSome_iff_exists.1 (hall 19 (by decide))
      obtain ⟨v20, h20⟩ := Option.isSome_iff_exists.1 (hall 20 (by decide))
      obtain ⟨v21, h21⟩ := Option.isSome_iff_exists.1 (hall 21 (by decide))
      obtain ⟨v22, h22⟩ := Option.isSome_iff_exists.1 (hall 22 (by decide))
      obtain ⟨v23, h23⟩ := Option.isSome_iff_exists.1 (hall 23 (by decide))
      obtain ⟨g, rfl, _, hg⟩ := hJ.a0 v20 h20
      obtain ⟨g', rfl, _, hg'⟩ := hJ.a1 v21 h21
      have hold := hJ.old
      rw [h22] at hg
      rw [h23] at hg'
      have HG := mkHid hg
      have HG' := mkHid hg'
      have HO := mkHid hold
      clear hg hg' hold hJ hall
      simp only [Rg.fillF, h0, h1, h2, h3, h4, h5, h6, h7, h8, h9, h10, h11, h12, h13, h14, h15, h16, h17, h18, h19, h20, h21, h22, h23]
      clear h0 h1 h2 h3 h4 h5 h6 h7 h8 h9 h10 h11 h12 h13 h14 h15 h16 h17 h18 h19 h20 h21 h22 h23
      clear hnl hv hv' hl
      go_simp
      go_wp2
      go_meet
      case rel => exact ⟨g, g', rfl, rfl, HG, HG', HO⟩
  case rest =>
    obtain ⟨b1, b2, rfl, rfl, H1, H2, HB⟩ := hcut
    clear kA kI kB kJ wi wj wi' wj' hn1 hn2 hn3 hn4 hn5 ai bi
    obtain ⟨p1, hp1⟩ : ∃ p, p = nm a := ⟨_, rfl⟩
    obtain ⟨p2, hp2⟩ : ∃ p, p = nm b := ⟨_, rfl⟩
    obtain ⟨q1, hq1⟩ : ∃ q, q = idB a i := ⟨_, rfl⟩
    obtain ⟨q2, hq2⟩ : ∃ q, q = idB b j := ⟨_, rfl⟩
    obtain ⟨x1, hx1⟩ : ∃ x : Int, x = 1 + (i : Int) := ⟨_, rfl⟩
    obtain ⟨x2, hx2⟩ : ∃ x : Int, x = 1 + (j : Int) := ⟨_, rfl⟩
    have kP1 := print_id a i ha hi p1 q1 x1 hp1 hq1 hx1
    have kP2 := print_id b j hb hj p2 q2 x2 hp2 hq2 hx2
    have kR1 := parse_id a i ha hi p1 q1 x1 hp1 hq1 hx1
    rw [← hp1, ← hx1] at H1
    rw [← hp2, ← hx2] at H2
    have HQ : Hid (q1 = q2 ↔ (p1 = p2 ∧ x1 = x2)) := by
      show _ ↔ _
      constructor
      · intro h
        rw [hq1, hq2] at h
        obtain ⟨e1, e2⟩ := id_inj ha hi hb hj h
        exact ⟨by rw [hp1, hp2, e1], by rw [hx1, hx2, e2]⟩
      · rintro ⟨e1, e2⟩
        have e3 : i = j := by omega
        rw [hq1, hq2]
        unfold idB
        rw [← hp1, ← hp2, e1, e3]
    have HE := mkHid hE
    have HV := mkHid hv'
    have HL := mkHid hl
    have HNL := mkHid hnl
    have HEc := mkHid (hE.old HB.out)
    have c1 := cell2_0 H1.out
    have c2 := cell2_1 H1.out
    clear hp1 hp2 hq1 hq2 hx1 hx2 ha hi hb hj hE hv hv' hl hnl
    go_upto_region 5 with (first
      | (go_at_call 9; (with_reducible refine (kP1.out _).mono ?_); rintro e w2 ⟨rfl, hb2⟩
         have HE2 := mkHid (HEc.out.old hb2)
         have H12 := mkHid (block_old hb2 H1.out)
         have H22 := mkHid (block_old hb2 H2.out)
         have HB2 := mkHid (below_then HB.out hb2)
         clear hb2)
      | (go_at_call 11; (with_reducible refine (kR1.out _ HE2.out).mono ?_); rintro e w3 ⟨rfl, hb3⟩
         have HE3 := mkHid ((HE2.out.old hb3).old ((Below.refl _ w3).alloc (Nat.le_refl _) (.cells #[.string p1, .int .i64 x1] 27)))
         have H13 := mkHid (block_old ((Below.refl _ w3).alloc (Nat.le_refl _) (.cells #[.string p1, .int .i64 x1] 27)) (block_old hb3 H12.out))
         have H23 := mkHid (block_old ((Below.refl _ w3).alloc (Nat.le_refl _) (.cells #[.string p1, .int .i64 x1] 27)) (block_old hb3 H22.out))
         have H93 : Hid ((w3.alloc (.cells #[.string p1, .int .i64 x1] 27)).heap[w3.heap.size]? = _) := heap_alloc_new w3 _
         have HB3 := mkHid ((below_then HB2.out hb3).alloc (below_then HB2.out hb3).size (.cells #[.string p1, .int .i64 x1] 27))
         clear hb3)
      | (refine wpList_store_row rfl 27 (.tmp 9) (.tmp 49) rfl w3.heap.size #[.string p1, .int .i64 x1] rfl rfl 27 _ (heap_alloc_new w3 _) size27 rfl (two_one _ _) ?_
         rw [World.setRow_alloc_new])
      | (go_at_call 11; (with_reducible refine (parse_dash _).mono ?_); rintro e w4 ⟨rfl, hb4⟩
         have HE4 := mkHid ((HE3.out.old hb4).old ((Below.refl _ w4).alloc (Nat.le_refl _) (.cells #[.string ⟨#[]⟩, .int .i64 0] 27)))
         have H14 := mkHid (block_old ((Below.refl _ w4).alloc (Nat.le_refl _) (.cells #[.string ⟨#[]⟩, .int .i64 0] 27)) (block_old hb4 H13.out))
         have H24 := mkHid (block_old ((Below.refl _ w4).alloc (Nat.le_refl _) (.cells #[.string ⟨#[]⟩, .int .i64 0] 27)) (block_old hb4 H23.out))
         have H94 := mkHid (block_old ((Below.refl _ w4).alloc (Nat.le_refl _) (.cells #[.string ⟨#[]⟩, .int .i64 0] 27)) (block_old hb4 H93.out))
         have H114 : Hid ((w4.alloc (.cells #[.string ⟨#[]⟩, .int .i64 0] 27)).heap[w4.heap.size]? = _) := heap_alloc_new w4 _
         have HB4 := mkHid ((below_then HB3.out hb4).alloc (below_then HB3.out hb4).size (.cells #[.string ⟨#[]⟩, .int .i64 0] 27))
         clear hb4)
      | (refine wpList_store_row rfl 27 (.tmp 11) (.tmp 53) rfl w4.heap.size #[.string ⟨#[]⟩, .int .i64 0] rfl rfl 27 _ (heap_alloc_new w4 _) size27 rfl (two_one _ _) ?_
         rw [World.setRow_alloc_new]))
    obtain ⟨W, hW⟩ : ∃ W, W = w4.alloc (.cells #[.string ⟨#[]⟩, .int .i64 0] 27) := ⟨_, rfl⟩
    rw [← hW] at HE4 H14 H24 H94 H114 HB4 ⊢
    clear hW HE3 H13 H23 H93 HB3 HE2 H12 H22 HB2 c1 c2 kR1 H1 H2 HB HEc HE
    generalize w3.heap.size = b9 at *
    generalize w4.heap.size = b11 at *
    obtain ⟨l1, hl1⟩ : ∃ l, l = lessB p1 p2 x1 x2 := ⟨_, rfl⟩
    obtain ⟨l2, hl2⟩ : ∃ l, l = lessB p2 p1 x2 x1 := ⟨_, rfl⟩
    have kL1 := less_hid p1 p2 x1 x2 l1 hl1
    have kL2 := less_hid p2 p1 x2 x1 l2 hl2
    have HT := mkHid (less_three p1 p2 x1 x2)
    rw [← hl1, ← hl2] at HT
    clear hl1 hl2
    obtain ⟨q, hq⟩ : ∃ q, q = decide (p1 = p2 ∧ x1 = x2) := ⟨_, rfl⟩
    have HQQ := mkHid hq
    clear hq
    have c10 := cell2_0 H14.out
    have c11 := cell2_1 H14.out
    have c20 := cell2_0 H24.out
    have c21 := cell2_1 H24.out
    go_cut [64, 65, 66] (fun x y z wx => ∃ g, x = .slice (some ⟨g, 0, none⟩) 3 3 ∧ y = .int .i64 3 ∧ z = .int .i64 0 ∧ Hid (wx.heap[g]? = some (.cells #[.bool l1, .bool l2, .bool q] 4 (0, 0))) ∧ Hid (Below W.heap.size W wx))
    case first =>
      clear HV HL HNL HQ kP1 kP2 HE4 H14 H24 H94 H114 HB4
      by_cases he : p1.toList = p2.toList
      · have hpp : p1 = p2 := by
          rw [ByteArray.toList_eq, ByteArray.toList_eq] at he
          exact ByteArray.ext (Array.toList_inj.1 he)
        by_cases hx : x1 = x2
        · have hq : q = true := by rw [HQQ.out]; simp [hpp, hx]
          have h12 : l1 = false ∧ l2 = false := by
            rcases HT.out with ⟨_, _, h⟩ | ⟨_, _, h⟩ | ⟨h1, h2, _⟩
            · exact absurd ⟨hpp, hx⟩ h
            · exact absurd ⟨hpp, hx⟩ h
            · exact ⟨h1, h2⟩
          obtain ⟨rfl, rfl⟩ := h12
          subst hpp
          subst hx
          clear he
          go_region_held3 (fun w' => w'.cell? ⟨b1, 0, none⟩ = some (.string p1) ∧ w'.cell? ⟨b1, 1, none⟩ = some (.int .i64 x1) ∧ w'.cell? ⟨b2, 0, none⟩ = some (.string p1) ∧ w'.cell? ⟨b2, 1, none⟩ = some (.int .i64 x1))
            (first | go_keep | exact four_old b6 (by assumption) | exact four_old b5 ⟨c10, c11, c20, c21⟩)
            (first
              | (go_at_call 12; (with_reducible refine (kL1.out W.drew).mono ?_); rintro e w5 ⟨rfl, b5⟩)
              | (go_at_call 12; (with_reducible refine (kL2.out _).mono ?_); rintro e w6 ⟨rfl, b6⟩))
          go_wp2
          go_meet
          case rel => exact ⟨w6.heap.size, rfl, rfl, rfl, by rw [hq]; exact heap_alloc_new _ _, (below_then (undrew b5) b6).alloc (below_then (undrew b5) b6).size _⟩
        · have hq : q = false := by rw [HQQ.out]; simp [hx]
          clear hpp
          go_region_held3 (fun w' => w'.cell? ⟨b1, 0, none⟩ = some (.string p1) ∧ w'.cell? ⟨b1, 1, none⟩ = some (.int .i64 x1) ∧ w'.cell? ⟨b2, 0, none⟩ = some (.string p2) ∧ w'.cell? ⟨b2, 1, none⟩ = some (.int .i64 x2))
            (first | go_keep | exact four_old b6 (by assumption) | exact four_old b5 ⟨c10, c11, c20, c21⟩)
            (first
              | (go_at_call 12; (with_reducible refine (kL1.out _).mono ?_); rintro e w5 ⟨rfl, b5⟩)
              | (go_at_call 12; (with_reducible refine (kL2.out _).mono ?_); rintro e w6 ⟨rfl, b6⟩))
          go_wp2
          go_meet
          case rel => exact ⟨w6.heap.size, rfl, rfl, rfl, by rw [hq]; exact heap_alloc_new _ _, (below_then (undrew b5) b6).alloc (below_then (undrew b5) b6).size _⟩
      · have hq : q = false := by
          rw [HQQ.out]
          have : ¬ p1 = p2 := fun e => he (by rw [e])
          simp [this]
        go_region_held3 (fun w' => w'.cell? ⟨b1, 0, none⟩ = some (.string p1) ∧ w'.cell? ⟨b1, 1, none⟩ = some (.int .i64 x1) ∧ w'.cell? ⟨b2, 0, none⟩ = some (.string p2) ∧ w'.cell? ⟨b2, 1, none⟩ = some (.int .i64 x2))
          (first | go_keep | exact four_old b6 (by assumption) | exact four_old b5 ⟨c10, c11, c20, c21⟩)
          (first
            | (go_at_call 12; (with_reducible refine (kL1.out _).mono ?_); rintro e w5 ⟨rfl, b5⟩)
            | (go_at_call 12; (with_reducible refine (kL2.out _).mono ?_); rintro e w6 ⟨rfl, b6⟩))
        go_wp2
        go_meet
        case rel => exact ⟨w6.heap.size, rfl, rfl, rfl, by rw [hq]; exact heap_alloc_new _ _, (below_then (undrew b5) b6).alloc (below_then (undrew b5) b6).size _⟩
    case rest =>
      obtain ⟨g, rfl, rfl, rfl, HG, HBW⟩ := hcut
      have hT3 : (l1 = true ∧ l2 = false ∧ q = false) ∨ (l1 = false ∧ l2 = true ∧ q = false) ∨ (l1 = false ∧ l2 = false ∧ q = true) := by
        rcases HT.out with ⟨h1, h2, h3⟩ | ⟨h1, h2, h3⟩ | ⟨h1, h2, h3⟩
        · exact .inl ⟨h1, h2, by rw [HQQ.out]; simp [h3]⟩
        · exact .inr (.inl ⟨h1, h2, by rw [HQQ.out]; simp [h3]⟩)
        · exact .inr (.inr ⟨h1, h2, by rw [HQQ.out]; simp [h3]⟩)
      have g0 := cell3_0 HG.out
      have g1 := cell3_1 HG.out
      have g2 := cell3_2 HG.out
      clear kL1 kL2 HT c10 c11 c20 c21
      iterate 1 go_step
      go_cut [13] (fun kv wx => kv = .int .i64 1 ∧ wx = wc)
      case first =>
        clear HV HL HNL HQ kP1 kP2 HE4 H14 H24 H94 H114 HB4 HG HQQ
        rcases hT3 with ⟨rfl, rfl, rfl⟩ | ⟨rfl, rfl, rfl⟩ | ⟨rfl, rfl, rfl⟩
        all_goals
          go_wp2
          refine wp_loop_rounds 4 ?_
          rw [rounds_succ]
          go_wp2
          rw [rounds_succ]
          go_wp2
          rw [rounds_succ]
          go_wp2
          rw [rounds_succ]
          go_wp2
          go_meet
          case rel => exact ⟨rfl, rfl⟩
      case rest =>
        obtain ⟨rfl, rfl⟩ := hcut
        have hB9 := HBW.out
        have c10 := cell2_0 (block_old hB9 H14.out)
        have c11 := cell2_1 (block_old hB9 H14.out)
        have c20 := cell2_0 (block_old hB9 H24.out)
        have c21 := cell2_1 (block_old hB9 H24.out)
        have c90 := cell2_0 (block_old hB9 H94.out)
        have c91 := cell2_1 (block_old hB9 H94.out)
        have c110 := cell2_0 (block_old hB9 H114.out)
        have c111 := cell2_1 (block_old hB9 H114.out)
        have HEW := mkHid (HE4.out.old hB9)
        have HB5 := mkHid (below_then HB4.out hB9)
        clear hB9 g0 g1 g2 HG HBW H14 H24 H94 H114 HE4 HB4 hT3 HQQ
        go_upto_region 11 with (fail)
        go_cut [104] (fun r wx => r = .bool false ∧ Below wc.heap.size wc wx)
        case first =>
          clear HV HL HNL HEW HB5
          by_cases he : p1.toList = p2.toList
          · have hpp : p1 = p2 := by
              rw [ByteArray.toList_eq, ByteArray.toList_eq] at he
              exact ByteArray.ext (Array.toList_inj.1 he)
            by_cases hx : x1 = x2
            · have hqq : q1 = q2 := HQ.out.2 ⟨hpp, hx⟩
              subst hpp
              subst hx
              subst hqq
              clear he HQ
              go_region_held3 (fun w' => w'.cell? ⟨b1, 0, none⟩ = some (.string p1) ∧ w'.cell? ⟨b1, 1, none⟩ = some (.int .i64 x1) ∧ w'.cell? ⟨b2, 0, none⟩ = some (.string p1) ∧ w'.cell? ⟨b2, 1, none⟩ = some (.int .i64 x1) ∧ w'.cell? ⟨b9, 0, none⟩ = some (.string p1) ∧ w'.cell? ⟨b9, 1, none⟩ = some (.int .i64 x1) ∧ w'.cell? ⟨b11, 0, none⟩ = some (.string ⟨#[]⟩) ∧ w'.cell? ⟨b11, 1, none⟩ = some (.int .i64 0))
                (first | go_keep | exact eight_old b6 (by assumption) | exact eight_old b5 ⟨c10, c11, c20, c21, c90, c91, c110, c111⟩)
                (first
                  | (go_at_call 9; (with_reducible refine (kP1.out wc.drew).mono ?_); rintro e w5 ⟨rfl, b5⟩)
                  | (go_at_call 9; (with_reducible refine (kP2.out _).mono ?_); rintro e w6 ⟨rfl, b6⟩))
              go_wp2
              go_meet
              case rel => exact ⟨rfl, below_then (undrew b5) b6⟩
            · have hqq : ¬ q1.toList = q2.toList := list_ne (fun e => hx (HQ.out.1 e).2)
              clear hpp HQ
              go_region_held3 (fun w' => w'.cell? ⟨b1, 0, none⟩ = some (.string p1) ∧ w'.cell? ⟨b1, 1, none⟩ = some (.int .i64 x1) ∧ w'.cell? ⟨b2, 0, none⟩ = some (.string p2) ∧ w'.cell? ⟨b2, 1, none⟩ = some (.int .i64 x2) ∧ w'.cell? ⟨b9, 0, none⟩ = some (.string p1) ∧ w'.cell? ⟨b9, 1, none⟩ = some (.int .i64 x1) ∧ w'.cell? ⟨b11, 0, none⟩ = some (.string ⟨#[]⟩) ∧ w'.cell? ⟨b11, 1, none⟩ = some (.int .i64 0))
                (first | go_keep | exact eight_old b6 (by assumption) | exact eight_old b5 ⟨c10, c11, c20, c21, c90, c91, c110, c111⟩)
                (first
                  | (go_at_call 9; (with_reducible refine (kP1.out wc.drew).mono ?_); rintro e w5 ⟨rfl, b5⟩)
                  | (go_at_call 9; (with_reducible refine (kP2.out _).mono ?_); rintro e w6 ⟨rfl, b6⟩))
              go_wp2
              go_meet
              case rel => exact ⟨congrArg Value.bool (by simpa using hqq), below_then (undrew b5) b6⟩
          · have hqq : ¬ q1.toList = q2.toList := list_ne (fun e => he (by rw [(HQ.out.1 e).1]))
            clear HQ
            go_region_held3 (fun w' => w'.cell? ⟨b1, 0, none⟩ = some (.string p1) ∧ w'.cell? ⟨b1, 1, none⟩ = some (.int .i64 x1) ∧ w'.cell? ⟨b2, 0, none⟩ = some (.string p2) ∧ w'.cell? ⟨b2, 1, none⟩ = some (.int .i64 x2) ∧ w'.cell? ⟨b9, 0, none⟩ = some (.string p1) ∧ w'.cell? ⟨b9, 1, none⟩ = some (.int .i64 x1) ∧ w'.cell? ⟨b11, 0, none⟩ = some (.string ⟨#[]⟩) ∧ w'.cell? ⟨b11, 1, none⟩ = some (.int .i64 0))
              (first | go_keep | exact eight_old b6 (by assumption) | exact eight_old b5 ⟨c10, c11, c20, c21, c90, c91, c110, c111⟩)
              (first
                | (go_at_call 9; (with_reducible refine (kP1.out wc.drew).mono ?_); rintro e w5 ⟨rfl, b5⟩)
                | (go_at_call 9; (with_reducible refine (kP2.out _).mono ?_); rintro e w6 ⟨rfl, b6⟩))
            go_wp2
            go_meet
            case rel => exact ⟨congrArg Value.bool (by simpa using hqq), below_then (undrew b5) b6⟩
        case rest =>
          obtain ⟨rfl, hB6⟩ := hcut
          have HE6 := mkHid (HEW.out.old hB6)
          have HB6 := mkHid (below_then HB5.out hB6)
          clear hB6 HEW HB5 c10 c11 c20 c21 c90 c91 c110 c111 kP1 kP2 HQ
          go_wp2
          obtain ⟨W2, hW2⟩ : ∃ W2, W2 = wc.alloc (.cells #[.string ⟨#[]⟩, .string ⟨#[97]⟩, .string ⟨#[97, 46]⟩, .string ⟨#[46, 49]⟩, .string ⟨#[97, 46, 48]⟩, .string ⟨#[97, 46, 48, 49]⟩, .string ⟨#[97, 46, 52, 49]⟩, .string ⟨#[65, 46, 49]⟩, .string ⟨#[97, 46, 49, 46, 49]⟩, .string ⟨#[97, 46, 45, 49]⟩, .string ⟨#[45, 45]⟩, .string ⟨#[97, 98, 99, 100, 101, 102, 103, 104, 105, 46, 49]⟩, .string ⟨#[32, 97, 46, 49]⟩] 9) := ⟨_, rfl⟩
          have hcb : ∀ k, k < 13 → W2.cell? ⟨wc.heap.size, k, none⟩ = some (.string (badB k)) := fun k hk => by rw [hW2]; exact bad_cells wc _ rfl k hk
          have HCB := mkHid hcb
          have hbw : Below wc.heap.size wc W2 := by rw [hW2]; exact (Below.refl _ wc).alloc (Nat.le_refl _) _
          have HEV := mkHid (HE6.out.old hbw)
          have HB7 := mkHid (below_then HB6.out hbw)
          rw [← hW2]
          clear hW2 hcb hbw HE6 HB6
          generalize wc.heap.size = gb at *
          go_loopw [107] (fun i wr => ∃ k : Nat, k ≤ 13 ∧ i = .int .i64 k ∧ Hid (Below W2.heap.size W2 wr)) (fun i _ => 13 - (intOf i).toNat)
          case atStart => exact ⟨0, by omega, rfl, Below.refl _ _⟩
          case round =>
            obtain ⟨k, hk, rfl, HBr⟩ := hrel
            by_cases hk2 : k < 13
            · have c1 := cell_old HBr.out (HCB.out k hk2)
              obtain ⟨tb, htb⟩ : ∃ tb, tb = badB k := ⟨_, rfl⟩
              rw [← htb] at c1
              obtain ⟨hb1, hb2, hb3⟩ := bad_out ⟨k, hk2⟩
              have kBad := parse_none tb (badTexts.getD k []) (by rw [htb]; rfl) hb3 hb1 hb2
              have HEr := mkHid (HEV.out.old HBr.out)
              clear hb1 hb2 hb3 htb HV HL HNL
              have d1 : (k : Int) < 13 := by omega
              go_wp2_with (first
                | (go_at_call 11; (with_reducible refine (kBad.out _ HEr.out).mono ?_); rintro e w5 ⟨rfl, b5⟩
                   have HBs := mkHid ((HBr.out.trans (b5.mono HBr.out.size)).alloc (Nat.le_trans HBr.out.size b5.size) (.cells #[.string ⟨#[]⟩, .int .i64 0] 27)))
                | (refine wpList_store_row rfl 27 (.tmp 18) (.tmp 114) rfl w5.heap.size #[.string ⟨#[]⟩, .int .i64 0] rfl rfl 27 _ (heap_alloc_new w5 _) size27 rfl (two_one _ _) ?_
                   rw [World.setRow_alloc_new]))
              go_roundw
              case rel => exact ⟨k + 1, by omega, by go_num, HBs⟩
              case measure => exact meas13 hk2
            · obtain rfl : k = 13 := by omega
              rw [show (((13 : Nat) : Int)) = 13 from rfl]
              obtain ⟨S, hS⟩ : ∃ S, S = setL L := ⟨_, rfl⟩
              obtain ⟨ms, hms⟩ : ∃ ms, ms = S.length := ⟨_, rfl⟩
              have kset := set_hid L S ms hS hms (by have := HL.out; omega)
              have hms2 : ms ≤ 8796093022208 := by
                rw [hms, hS]
                have h1 := compact_le (L.mergeSort fun x y => decide (x ≤ y))
                rw [List.length_mergeSort] at h1
                have := HL.out
                exact Nat.le_trans h1 this
              have hnl2 : nl ≤ 8796093022208 := by have := HL.out; have := HNL.out; omega
              have HVr := mkHid (HV.out.old (below_then HB7.out HBr.out))
              have HBa := mkHid (below_then HB7.out HBr.out)
              have HS := mkHid hS
              have HMS := mkHid hms
              clear hS hms HCB HEV HB7 HBr HV
              go_wp2_with (go_at_call 13; (with_reducible refine (kset.out _ _ HVr.out).mono ?_); rintro e w7 ⟨ao7, cap7, rfl, hl7, hb7⟩
                           have HL7 := mkHid hl7
                           have HV7 := mkHid (HVr.out.old hb7)
                           have HB8 := mkHid (below_then HBa.out hb7)
                           clear hl7 hb7)
              clear kset HVr HBa
              go_loop [127] (fun i => ∃ k : Nat, k ≤ ms ∧ i = .int .i64 k) (fun i => ms - (intOf i).toNat)
              case atStart => exact ⟨0, by omega, rfl⟩
              case round =>
                obtain ⟨k, hk, rfl⟩ := hrel
                by_cases hk2 : k < ms
                · obtain ⟨bs, os, rfl, hcs⟩ := HL7.out.form2 (by have := HMS.out; omega)
                  have hks : k < S.length := by rw [← HMS.out]; exact hk2
                  have c1 := hcs k hks
                  unfold encStr at c1
                  obtain ⟨y, hy⟩ : ∃ y : ByteArray, y = ⟨(S.getD k []).toArray⟩ := ⟨_, rfl⟩
                  rw [← hy] at c1
                  have kin := in_hid L y true (by
                    have h := (setL_mem L y.data.toList).1 (by rw [← HS.out]; exact in_self hks y hy)
                    simp [h]) (by have := HL.out; omega)
                  by_cases hk0 : k = 0
                  · have d0 : ¬ (0 : Int) < (k : Int) := by omega
                    have d1 : (k : Int) < (ms : Int) := by omega
                    clear hcs hy hk0
                    go_wp2_with (go_at_call 14; (with_reducible refine (kin.out _ _ HV7.out).mono ?_); rintro e w8 ⟨rfl, rfl⟩)
                    go_round
                    case rel => exact ⟨k + 1, by omega, by go_num⟩
                    case measure => exact meas hk2
                  · obtain ⟨x, hx⟩ : ∃ x : ByteArray, x = ⟨(S.getD (k - 1) []).toArray⟩ := ⟨_, rfl⟩
                    have c2 := hcs (k - 1) (by omega)
                    unfold encStr at c2
                    rw [← hx] at c2
                    have hlt : Op.bytesLess x.toList y.toList = true := by
                      rw [bytesLess_eq, decide_eq_true_eq, ByteArray.toList_eq, ByteArray.toList_eq, hx, hy]
                      have h := HS.out
                      have e1 : S.getD (k - 1) [] = S[k - 1]'(by omega) := by simp [show k - 1 < S.length by omega]
                      have e2 : S.getD k [] = S[k] := by simp [hks]
                      rw [e1, e2]
                      have hr := setL_lt L
                      rw [← h] at hr
                      exact List.pairwise_iff_getElem.1 hr (k - 1) k (by omega) hks (by omega)
                    obtain ⟨j', rfl⟩ : ∃ j', k = j' + 1 := ⟨k - 1, by omega⟩
                    rw [Nat.add_sub_cancel] at c2
                    have d0 : (0 : Int) < (j' : Int) + 1 := by omega
                    have d1 : (j' : Int) + 1 < (ms : Int) := by omega
                    have d2 : (j' : Int) < (ms : Int) := by omega
                    have hz : wrap64 ((j' : Int) + 1 - 1) = (j' : Int) := by unfold wrap64; omega
                    clear hcs hy hx
                    go_wp2_with (go_at_call 14; (with_reducible refine (kin.out _ _ HV7.out).mono ?_); rintro e w8 ⟨rfl, rfl⟩)
                    exact ⟨⟨j' + 1 + 1, by omega, by go_num⟩, measJ hk2⟩
                · obtain rfl : k = ms := by omega
                  go_wp2
                  go_loop [152] (fun i => ∃ k' : Nat, k' ≤ nl ∧ i = .int .i64 k') (fun i => nl - (intOf i).toNat)
                  case atStart => exact ⟨0, by omega, rfl⟩
                  case round =>
                    obtain ⟨k', hk', rfl⟩ := hrel
                    by_cases hk3 : k' < nl
                    · obtain ⟨bs, os, rfl, hcs⟩ := HV7.out.form2 (by have := HNL.out; omega)
                      have hks : k' < L.length := by rw [← HNL.out]; exact hk3
                      have c1 := hcs k' hks
                      unfold encStr at c1
                      obtain ⟨y, hy⟩ : ∃ y : ByteArray, y = ⟨(L.getD k' []).toArray⟩ := ⟨_, rfl⟩
                      rw [← hy] at c1
                      have kin := in_hid S y true (by
                        have h : y.data.toList ∈ S := by rw [HS.out]; exact (setL_mem L y.data.toList).2 (in_self hks y hy)
                        simp [h]) (by have := HMS.out; omega)
                      have d1 : (k' : Int) < (nl : Int) := by omega
                      clear hcs hy
                      go_wp2_with (go_at_call 14; (with_reducible refine (kin.out _ _ HL7.out).mono ?_); rintro e w8 ⟨rfl, rfl⟩)
                      go_round
                      case rel => exact ⟨k' + 1, by omega, by go_num⟩
                      case measure => exact meas hk3
                    · obtain rfl : k' = nl := by omega
                      go_wp2_with (go_at_call 10; (with_reducible refine (wakes_walk _).mono ?_); rintro e w9 ⟨rfl, hb9⟩)
                      go_ret
                      exact ⟨rfl, below_then HB8.out hb9⟩

end Go.Proofs.YtbjgldpnichoeaaDoor
