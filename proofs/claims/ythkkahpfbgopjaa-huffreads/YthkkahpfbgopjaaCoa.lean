/-
  HuffCodes: the walk.
-/
import Derived.Test.YthkkahpfbgopjaaLe
import Derived.Test.YthkkahpfbgopjaaCo
set_option linter.unusedSimpArgs false
set_option linter.unusedVariables false
namespace Go.Proofs.Ythkkahpfbgopjaa
open Go.RowKit

theorem codes_long (w : World) (v : Value) (zs : List Int) (hv : Ints w v zs) (hl : 320 < zs.length) (hl2 : zs.length ≤ 140737488355328) :
    Calls Try.prog 20 #[v] w fun e w' => e = .returned (.tuple #[.slice none 0 0, .bool false]) ∧ w' = w := by
  obtain ⟨ao, cap, rfl, h2, h3, h4⟩ := hv
  clear h3 h4
  have hgt : (320 : Int) < (zs.length : Int) := by omega
  go_enter Try.func20, Try.ntmps20
  go_wp2
  go_ret2
  exact ⟨rfl, rfl⟩

theorem codes_any (w : World) (v : Value) (zs : List Int) (hv : Ints w v zs) (hl : zs.length ≤ 140737488355328) :
    Calls Try.prog 20 #[v] w fun e w' => Below w.heap.size w w' ∧ ((OK zs ∧ ∃ cv, e = .returned (.tuple #[cv, .bool true]) ∧ w'.ownsRow w.heap.size 3 1 cv zs.length ((codesOf (zs.map Int.toNat)).map natV)) ∨ (¬ OK zs ∧ e = .returned (.tuple #[.slice none 0 0, .bool false]))) := by
  by_cases h : zs.length ≤ 320
  · exact codes_walk w v zs hv h
  · refine (codes_long w v zs hv (by omega) hl).mono ?_
    rintro e w' ⟨rfl, rfl⟩
    exact ⟨Below.refl _ _, .inr ⟨fun h' => h h'.1, rfl⟩⟩

set_option maxRecDepth 100000 in
set_option maxHeartbeats 4000000 in
theorem codes_law (w : World) (u v : Value) (zs gs : List Int) (a n h sg : Int) (hu : Ints w u zs) (hv : Ints w v gs) (hlz : zs.length ≤ 17592186043904) (hlg : gs.length ≤ 17592186043904) :
    Calls Try.prog 5 #[u, v, .int .i64 a, .int .i64 n, .int .i64 h, .int .i64 sg] w fun e w' => e = .returned (.bool true) ∧ Below w.heap.size w w' := by
  have hwk := wakes_hid
  have hlen : Hid (Calls Try.prog 19 #[u, v, .int .i64 a, .int .i64 n, .int .i64 h] w fun e w' => ∃ lv ys, e = .returned lv ∧ Ints w' lv ys ∧ ys.length ≤ 17592186043904 ∧ Below w.heap.size w w') := lengths_walk w u v zs gs a n h hu hv hlz hlg
  obtain ⟨ua, uc, rfl, -, -, -⟩ := hu
  obtain ⟨va, vc, rfl, -, -, -⟩ := hv
  obtain ⟨M, hM⟩ : ∃ M, M = zs.length := ⟨_, rfl⟩
  obtain ⟨G, hG⟩ : ∃ G, G = gs.length := ⟨_, rfl⟩
  rw [← hM] at hlen hlz ⊢
  rw [← hG] at hlen hlg ⊢
  clear hM hG
  go_enter Try.func5, Try.ntmps5
  go_wp2_with (first
    | (go_at_call 19; (with_reducible refine hlen.out.mono ?_); rintro e w1 ⟨lv, ys, rfl, hI, hyl, hb1⟩))
  obtain ⟨B, hB⟩ : ∃ B, B = w.heap.size := ⟨_, rfl⟩
  rw [← hB] at hb1
  by_cases hok : OK ys
  · have hnew : Hid (Calls Try.prog 8 #[lv] w1 fun e w2 => ∃ tb, e = .returned (.tuple #[.pointer (some ⟨tb, 0, none⟩), .int .i64 0]) ∧ Below w1.heap.size w1 w2 ∧ Tab w2 tb (ys.map Int.toNat)) := by
      refine (new_any w1 lv ys hI (by omega)).mono ?_
      rintro e w2 ⟨hb, ⟨_, tb, rfl, _, hT⟩ | ⟨h', _⟩⟩
      · exact ⟨tb, rfl, hb, hT⟩
      · exact absurd hok h'
    have hcod : Hid (∀ w2, Below w1.heap.size w1 w2 → Calls Try.prog 20 #[lv] w2 fun e w3 => ∃ cv, e = .returned (.tuple #[cv, .bool true]) ∧ Below w2.heap.size w2 w3 ∧ w3.ownsRow w2.heap.size 3 1 cv ys.length ((codesOf (ys.map Int.toNat)).map natV)) := by
      intro w2 hb2
      refine (codes_any w2 lv ys (hI.old hb2) (by omega)).mono ?_
      rintro e w3 ⟨hb, ⟨_, cv, rfl, ho⟩ | ⟨h', _⟩⟩
      · exact ⟨cv, rfl, hb, ho⟩
      · exact absurd hok h'
    have hL := lens_of hI hok.2.1
    obtain ⟨l, hl⟩ : ∃ l, l = ys.map Int.toNat := ⟨_, rfl⟩
    have hll : ys.length = l.length := by rw [hl, List.length_map]
    rw [← hl] at hnew hcod hL
    rw [hll] at hcod
    have hl320 : l.length ≤ 320 := by rw [← hll]; exact hok.1
    have HOK : Hid (OK ys) := hok
    have H15 : Hid (∀ x ∈ l, x ≤ 15) := fun x hx => by
      rw [hl] at hx
      obtain ⟨z, hz, rfl⟩ := List.mem_map.1 hx
      have := hok.2.1 z hz
      omega
    obtain ⟨ao, cap, rfl, hc2, hc3, hc4⟩ := hL
    obtain ⟨N, hN⟩ : ∃ N, N = l.length := ⟨_, rfl⟩
    rw [← hN] at hnew hcod hc2 hc4 hl320 ⊢
    have HN : Hid (N = l.length) := hN
    have HC4 : Hid (∀ a, ao = some a → ∀ j, j < N → w1.cell? (a.add j) = some (.int .i64 (nth l j : Nat))) := hc4
    clear hok hl hll hN hc4 hI hyl
    obtain ⟨q, hq, hwq⟩ := within_lit sg ((N : Int) + 3) (N + 3) (by omega) (by push_cast; rfl) (by omega)
    have hbool : ∃ b : Bool, (sg.tmod 5 != 4) = b := ⟨_, rfl⟩
    obtain ⟨b4, hb4⟩ := hbool
    have hcv : Hid (∀ (b2 : Nat) (w3 : World) (cv : Value), w3.ownsRow b2 3 1 cv N ((codesOf l).map natV) → ∃ cao ccap, cv = .slice cao N ccap) := fun b2 w3 cv ho => by
      rcases ho.2 with ⟨rfl, h0⟩ | ⟨g', cap', cur', rfl, _⟩
      · exact ⟨none, 0, by rw [h0]⟩
      · exact ⟨_, _, rfl⟩
    cases b4
    all_goals
      go_wp2_with (first
        | (go_at_call 8; (with_reducible refine hnew.out.mono ?_); rintro e w2 ⟨tb, rfl, hb2, hT2⟩)
        | (go_at_call 20; (with_reducible refine (hcod.out _ hb2).mono ?_); rintro e w3 ⟨cv, rfl, hb3, hcv3⟩; obtain ⟨cao, ccap, rfl⟩ := hcv.out _ _ _ hcv3)
        | (go_at_call 10; (with_reducible refine (hwq.out _).mono ?_); rintro e wx ⟨rfl, hx⟩; have hx := hx.symm; subst hx))
      clear hb4
      first
      | (obtain ⟨s0, hs0⟩ : ∃ s0 : Int, s0 = (q : Int) - 1 := ⟨_, rfl⟩
         rw [← hs0]
         clear hs0)
      | (obtain ⟨s0, hs0⟩ : ∃ s0 : Int, s0 = sg := ⟨_, rfl⟩
         rw [← hs0]
         clear hs0)
      obtain ⟨W4, hW4⟩ : ∃ W4, W4 = w3.alloc (.cells #[.int .i64 s0, .int .i64 0, .int .i64 ((N : Int) - 1)] 3) := ⟨_, rfl⟩
      rw [← hW4]
      obtain ⟨sb, hsb⟩ : ∃ sb, sb = w3.heap.size := ⟨_, rfl⟩
      rw [← hsb]
      have hb34 : Below w3.heap.size w3 W4 := by rw [hW4]; exact (Below.refl _ _).alloc (Nat.le_refl _) _
      have HSC : Hid (∀ j, j < 3 → W4.cell? ⟨sb, j, none⟩ = some (.int .i64 ([s0, 0, (N : Int) - 1].getD j 0))) := fun j hj => by
        rw [hW4, hsb, cell_of_row _ _ j _ 3 (0, 0) (heap_alloc_new w3 _)]
        rcases (show j = 0 ∨ j = 1 ∨ j = 2 by omega) with rfl | rfl | rfl <;> rfl
      have s2 := hb2.size
      have s3 := hb3.size
      have hb14 : Below w1.heap.size w1 W4 := (hb2.trans (hb3.mono s2)).trans (hb34.mono (by omega))
      have HT4 : Hid (Tab W4 tb l) := (hT2.old hb3).old hb34
      have HCV : Hid (W4.ownsRow w2.heap.size 3 1 (.slice cao N ccap) N ((codesOf l).map natV)) := owns_old3 hcv3 hb34
      have HL4 : Hid (∀ a, ao = some a → ∀ j, j < N → W4.cell? (a.add j) = some (.int .i64 (nth l j : Nat))) := fun a ha j hj => cell_old hb14 (HC4.out a ha j hj)
      have HBW : Hid (Below B w W4) := hb1.trans (hb14.mono (by have := hb1.size; omega))
      clear hW4 hsb hb34 hcv3 hT2 hb2 hb3 hb14 s2 s3 HC4 hcod hnew
      go_loopw [75] (fun i wr => ∃ k : Nat, k ≤ 3 ∧ i = .int .i64 (k : Int) ∧ Below W4.heap.size W4 wr) (fun i _ => 3 - (intOf i).toNat)
      case atStart => exact ⟨0, by omega, rfl, Below.refl _ _⟩
      case round =>
        obtain ⟨j, hj, rfl, hbr⟩ := hrel
        by_cases hj3 : j < 3
        · have hcs := cell_old hbr (HSC.out j hj3)
          obtain ⟨s, hs⟩ : ∃ s, s = [s0, 0, (N : Int) - 1].getD j 0 := ⟨_, rfl⟩
          rw [← hs] at hcs
          clear hs
          by_cases hh : HasCode l s
          · obtain ⟨k, rfl⟩ := Int.eq_ofNat_of_zero_le hh.1
            have hkN : k < N := by have := hh.2.1; have := HN.out; omega
            have hk0 : 0 < nth l k := by have := hh.2.2; simpa using this
            have hkl : k < l.length := by rw [← HN.out]; exact hkN
            obtain ⟨A, rfl⟩ : ∃ A, ao = some A := by
              cases ao with
              | none => have := hc3 rfl; omega
              | some A => exact ⟨A, rfl⟩
            obtain ⟨cg, rfl⟩ : ∃ cg, cao = some ⟨cg, 0, none⟩ := by
              rcases HCV.out.2 with ⟨h', h0⟩ | ⟨g', cap', cur', h', _⟩
              · omega
              · cases h'; exact ⟨g', rfl⟩
            have hco : Hid (Calls Try.prog 9 #[.pointer (some ⟨tb, 0, none⟩), .int .i64 (k : Int)] wr fun e w' => e = .returned (.tuple #[.int .i64 (code l k : Nat), .int .i64 (nth l k : Nat), .bool true]) ∧ ∃ q, w' = wr.drewN q) := tcode_has wr tb l k (HT4.out.old hbr) hkl hk0
            have hcl : Hid (∀ wx, Below W4.heap.size W4 wx → wx.cell? (A.add k) = some (.int .i64 (nth l k : Nat))) := fun wx hbx => cell_old hbx (HL4.out A rfl k hkN)
            have hcc : Hid (∀ wx, Below W4.heap.size W4 wx → wx.cell? ⟨cg, k, none⟩ = some (.int .i64 (code l k : Nat))) := fun wx hbx => by
              have := nat_at (by rw [codesOf, upto_length, ← HN.out]) HCV.out k hkN
              rw [codesOf_get l H15.out k hkl, if_pos hk0] at this
              exact cell_old hbx this
            obtain ⟨x, hx⟩ : ∃ x, x = code l k := ⟨_, rfl⟩
            obtain ⟨y, hy⟩ : ∃ y, y = nth l k := ⟨_, rfl⟩
            rw [← hx] at hco hcc
            rw [← hy] at hco hcl hk0
            clear hx hy hh
            have hix : 0 ≤ (k : Int) ∧ (k : Int) < N := by omega
            go_wp2_with (first
              | (go_at_call 9; (with_reducible refine hco.out.mono ?_); rintro e wx ⟨rfl, qq, hx⟩; have hbx : Below wr.heap.size wr wx := by { rw [hx]; exact below_drewN _ _ }; clear hx; have hb4x := hbr.trans (hbx.mono hbr.size); have y1 := hcl.out _ hb4x; have y2 := hcc.out _ hb4x))
            go_roundw
            case rel => exact ⟨j + 1, by omega, by go_num, hb4x⟩
            case measure => simp [intOf]; omega
          · have hco : Hid (Calls Try.prog 9 #[.pointer (some ⟨tb, 0, none⟩), .int .i64 s] wr fun e w' => e = .returned (.tuple #[.int .i64 0, .int .i64 0, .bool false]) ∧ ∃ q, w' = wr.drewN q) := tcode_not wr tb l s (HT4.out.old hbr) hh
            have hway : s < 0 ∨ (0 ≤ s ∧ (N : Int) ≤ s) ∨ (∃ k : Nat, s = (k : Int) ∧ k < N ∧ nth l k = 0) := by
              rcases Int.lt_or_le s 0 with h0 | h0
              · exact .inl h0
              · rcases Int.lt_or_le s N with h1 | h1
                · obtain ⟨k, rfl⟩ := Int.eq_ofNat_of_zero_le h0
                  refine .inr (.inr ⟨k, rfl, by omega, ?_⟩)
                  rcases Nat.eq_zero_or_pos (nth l k) with h2 | h2
                  · exact h2
                  · exact absurd ⟨h0, by rw [← HN.out]; exact h1, by simpa using h2⟩ hh
                · exact .inr (.inl ⟨h0, h1⟩)
            clear hh
            rcases hway with h0 | ⟨h0, h1⟩ | ⟨k, rfl, hkN, hkz⟩
            · go_wp2_with (first
                | (go_at_call 9; (with_reducible refine hco.out.mono ?_); rintro e wx ⟨rfl, qq, hx⟩; have hbx : Below wr.heap.size wr wx := by { rw [hx]; exact below_drewN _ _ }; clear hx))
              go_roundw
              case rel => exact ⟨j + 1, by omega, by go_num, hbr.trans (hbx.mono hbr.size)⟩
              case measure => simp [intOf]; omega
            · go_wp2_with (first
                | (go_at_call 9; (with_reducible refine hco.out.mono ?_); rintro e wx ⟨rfl, qq, hx⟩; have hbx : Below wr.heap.size wr wx := by { rw [hx]; exact below_drewN _ _ }; clear hx))
              go_roundw
              case rel => exact ⟨j + 1, by omega, by go_num, hbr.trans (hbx.mono hbr.size)⟩
              case measure => simp [intOf]; omega
            · obtain ⟨A, rfl⟩ : ∃ A, ao = some A := by
                cases ao with
                | none => have := hc3 rfl; omega
                | some A => exact ⟨A, rfl⟩
              have hcl : Hid (∀ wx, Below W4.heap.size W4 wx → wx.cell? (A.add k) = some (.int .i64 0)) := fun wx hbx => by
                have := cell_old hbx (HL4.out A rfl k hkN)
                rw [hkz] at this
                exact this
              have hix : 0 ≤ (k : Int) ∧ (k : Int) < N := by omega
              clear hkz
              go_wp2_with (first
                | (go_at_call 9; (with_reducible refine hco.out.mono ?_); rintro e wx ⟨rfl, qq, hx⟩; have hbx : Below wr.heap.size wr wx := by { rw [hx]; exact below_drewN _ _ }; clear hx; have hb4x := hbr.trans (hbx.mono hbr.size); have y1 := hcl.out _ hb4x))
              go_roundw
              case rel => exact ⟨j + 1, by omega, by go_num, hb4x⟩
              case measure => simp [intOf]; omega
        · have hbw : Below B w wr := HBW.out.trans (hbr.mono (by have := HBW.out.size; omega))
          have HBw : Hid (Below B w wr) := hbw
          clear hbr hbw
          go_wp2_with (first
            | (go_at_call 11; (with_reducible refine (hwk.out _).mono ?_); rintro e wx ⟨rfl, hbx⟩))
          go_ret
          rw [← hB]
          exact ⟨rfl, HBw.out.trans (hbx.mono (by have := HBw.out.size; omega))⟩
  · have hnew : Hid (Calls Try.prog 8 #[lv] w1 fun e w2 => e = .returned (.tuple #[.pointer none, .int .i64 2]) ∧ Below w1.heap.size w1 w2) := by
      refine (new_any w1 lv ys hI (by omega)).mono ?_
      rintro e w2 ⟨hb, ⟨h', _⟩ | ⟨_, rfl⟩⟩
      · exact absurd h' hok
      · exact ⟨rfl, hb⟩
    have hcod : Hid (∀ w2, Below w1.heap.size w1 w2 → Calls Try.prog 20 #[lv] w2 fun e w3 => e = .returned (.tuple #[.slice none 0 0, .bool false]) ∧ Below w2.heap.size w2 w3) := by
      intro w2 hb2
      refine (codes_any w2 lv ys (hI.old hb2) (by omega)).mono ?_
      rintro e w3 ⟨hb, ⟨h', _⟩ | ⟨_, rfl⟩⟩
      · exact absurd h' hok
      · exact ⟨rfl, hb⟩
    clear hok hI
    go_wp2_with (first
      | (go_at_call 8; (with_reducible refine hnew.out.mono ?_); rintro e w2 ⟨rfl, hb2⟩)
      | (go_at_call 20; (with_reducible refine (hcod.out _ hb2).mono ?_); rintro e w3 ⟨rfl, hb3⟩)
      | (go_at_call 11; (with_reducible refine (hwk.out _).mono ?_); rintro e w4 ⟨rfl, hb4⟩))
    go_ret
    have s1 := hb1.size
    have s2 := hb2.size
    have s3 := hb3.size
    rw [← hB]
    exact ⟨rfl, ((hb1.trans (hb2.mono (by omega))).trans (hb3.mono (by omega))).trans (hb4.mono (by omega))⟩
end Go.Proofs.Ythkkahpfbgopjaa
