/-
  The walk of the statement on the best of any floats.
-/
import Derived.Test.YtghalbecgiepmaaDoorWkk
import Derived.Test.YtghalbecgiepmaaDoorWkj
import Derived.Deep.RegionHeld3
import Derived.Deep.AppendLies
import Derived.Deep.DeepCutAuto
import Derived.OwnWalk
namespace Go.Proofs.YtghalbecgiepmaaDoor.wk
open Go.Proofs.YtghalbecgiepmaaDoor.flo Go.RowKit
set_option linter.unusedSimpArgs false
set_option linter.unusedVariables false

/-- a slice of whole numbers that came in: none, or its cells -/
def RowB (w : World) (p : Option Addr) (n : Nat) (A : Nat → Int) : Prop :=
  n = 0 ∨ ∃ b off, p = some ⟨b, off, none⟩ ∧ b < w.heap.size ∧ ∀ i, i < n → w.cell? ⟨b, off + i, none⟩ = some (.int .i64 (A i))
theorem RowB.at {w : World} {p : Option Addr} {n : Nat} {A : Nat → Int} (h : RowB w p n A) {i : Nat} (hi : i < n) :
    ∃ b off, p = some ⟨b, off, none⟩ ∧ b < w.heap.size ∧ w.cell? ⟨b, off + i, none⟩ = some (.int .i64 (A i)) := by
  rcases h with h | ⟨b, off, h1, h2, h3⟩
  · omega
  · exact ⟨b, off, h1, h2, h3 i hi⟩

theorem info23 : (Tryd.prog.info? 23).map (fun i => (i.zero, i.size, i.bytes)) = some (some (.float .f64 0), 1, 8) := by kernel_rfl

theorem owns_below {w w' : World} {B : Nat} {e : TypeId} {size : Nat} {v : Value} {n : Nat} {xs : List Value} (h : w.ownsRow B e size v n xs) (hb : Below w.heap.size w w') : w'.ownsRow B e size v n xs := by
  obtain ⟨h1, h2⟩ := h
  refine ⟨h1, ?_⟩
  rcases h2 with h2 | ⟨g, cap, cur, hv, hg, hh, r⟩
  · exact Or.inl h2
  · have hlt : g < w.heap.size := by
      rcases Nat.lt_or_ge g w.heap.size with h | h
      · exact h
      · rw [Array.getElem?_eq_none h] at hh; cases hh
    exact Or.inr ⟨g, cap, cur, hv, hg, by rw [hb.block g hlt]; exact hh, r⟩
theorem owns_ge {w : World} {B : Nat} {e : TypeId} {size : Nat} {v : Value} {n : Nat} {xs : List Value} (h : w.ownsRow B e size v n xs) {b : Nat} (hb : v.ownBlock = some b) : B ≤ b := by
  rcases h.2 with ⟨rfl, _⟩ | ⟨g, cap, cur, rfl, hg, _⟩
  · simp [Value.ownBlock] at hb
  · simp [Value.ownBlock] at hb; omega
theorem owns_own {w : World} {B : Nat} {e : TypeId} {size : Nat} {v : Value} {n : Nat} {xs : List Value} (h : w.ownsRow B e size v n xs) {b : Nat} (hb : b < B) : v.ownBlock ≠ some b := by
  rcases h.2 with ⟨rfl, _⟩ | ⟨g, cap, cur, rfl, hg, _⟩
  · simp [Value.ownBlock]
  · simp [Value.ownBlock]; omega

theorem owns_form {w : World} {B : Nat} {v : Value} {n : Nat} {fs : List Nat} (h : w.ownsRow B 23 1 v n (fs.map (Value.float .f64))) :
    (v = .slice none 0 0 ∧ n = 0) ∨ ∃ g cap, v = .slice (some ⟨g, 0, none⟩) n cap ∧ B ≤ g ∧ ∀ i, i < n → w.cell? ⟨g, i, none⟩ = some (.float .f64 (fs.getD i 0)) := by
  obtain ⟨hl, h2⟩ := h
  rcases h2 with h2 | ⟨g, cap, cur, hv, hg, hh, r1, r2, r3, r4⟩
  · exact Or.inl h2
  · refine Or.inr ⟨g, cap, hv, hg, fun i hi => ?_⟩
    have e1 : w.cell? ⟨g, i, none⟩ = cur[i]? := by simp [World.cell?, hh]
    have hlen : fs.length = n := by simpa using hl
    have e2 : (cur.toList.take (n * 1))[i]? = cur.toList[i]? := List.getElem?_take_of_lt (by omega)
    rw [e1, ← Array.getElem?_toList, ← e2, r4, List.getElem?_map, List.getElem?_eq_getElem (by omega)]
    simp [List.getD, List.getElem?_eq_getElem (show i < fs.length by omega)]
theorem getD_lt {fs : List Nat} (h : ∀ f ∈ fs, f < 18446744073709551616) (i : Nat) (hi : i < fs.length) : fs.getD i 0 < 18446744073709551616 := by
  rw [List.getD_eq_getElem?_getD, List.getElem?_eq_getElem hi]
  exact h _ (List.getElem_mem hi)

set_option maxRecDepth 20000 in
set_option maxHeartbeats 2000000 in
theorem bests_walk (pa pb ph : Option Addr) (na nb nh ca cb ch : Nat) (A B H : Nat → Int) (x : Nat) (w : World)
    (hx : x < 18446744073709551616)
    (hA : RowB w pa na A) (hB : RowB w pb nb B) (hH : RowB w ph nh H) (htab : Tab w) :
    Calls Tryd.prog 6 #[.slice pa na ca, .slice pb nb cb, .slice ph nh ch, .float .f64 x] w fun e w' => e = .returned (.bool true) ∧ Below w.heap.size w w' := by
  have HA : Hid (RowB w pa na A) := hA
  have HB : Hid (RowB w pb nb B) := hB
  have HH : Hid (RowB w ph nh H) := hH
  clear hA hB hH
  obtain ⟨i0, hi0, hz0, hz1, hz2⟩ := info_parts info23
  have HI : Hid (Tryd.prog.info? 23 = some i0 ∧ i0.zero = some (.float .f64 0) ∧ i0.size = 1 ∧ i0.bytes = 8) := ⟨hi0, hz0, hz1, hz2⟩
  clear hi0 hz0 hz1 hz2
  go_enter Tryd.func6, Tryd.ntmps6
  go_upto_region 1 with fail
  iterate 8 go_step
  go_cut [9] (fun l wc => ∃ (k : Nat) (fs : List Nat), k ≤ 9 ∧ fs.length = k ∧ Hid (∀ f ∈ fs, f < 18446744073709551616) ∧ wc.ownsRow w.heap.size 23 1 l k (fs.map (Value.float .f64)) ∧ Below w.heap.size w wc)
  case first =>
    go_wp2_with fail
    go_loopw [9, 10] (fun l i wr => ∃ (k : Nat) (fs : List Nat), k ≤ 9 ∧ i = .int .i64 k ∧ fs.length = k ∧ Hid (∀ f ∈ fs, f < 18446744073709551616) ∧ Hid (wr.ownsRow w.heap.size 23 1 l k (fs.map (Value.float .f64))) ∧ Below w.heap.size w wr) (fun _ i _ => 9 - (intOf i).toNat)
    case atStart =>
      exact ⟨0, [], by decide, rfl, rfl, (fun f (h : f ∈ ([] : List Nat)) => absurd h (by simp)), World.ownsRow_nil _ _ _ _, Below.refl _ _⟩
    case round =>
      obtain ⟨k, fs, hk, rfl, hfl, HF, HO, hb⟩ := hrel
      by_cases hgo : k < na ∧ k < nb ∧ k < nh ∧ k < 9
      · obtain ⟨hka, hkb, hkh, h9⟩ := hgo
        obtain ⟨ba, oa, rfl, bla, hca⟩ := HA.out.at hka
        obtain ⟨bb, ob, rfl, blb, hcb⟩ := HB.out.at hkb
        obtain ⟨bh, oh, rfl, blh, hch⟩ := HH.out.at hkh
        rw [← hb.cell (p := ⟨ba, oa + k, none⟩) bla] at hca
        rw [← hb.cell (p := ⟨bb, ob + k, none⟩) blb] at hcb
        rw [← hb.cell (p := ⟨bh, oh + k, none⟩) blh] at hch
        have hbs := hb.size
        have i1 : (0 : Int) ≤ (k : Int) := by omega
        have i2 : (k : Int) < 9 := by omega
        have i3 : (k : Int) < (na : Int) := by omega
        have i4 : (k : Int) < (nb : Int) := by omega
        have i5 : (k : Int) < (nh : Int) := by omega
        generalize A k = av at hca
        generalize B k = bv at hcb
        generalize H k = hv at hch
        have HX : Hid (∀ W, wr.heap.size ≤ W.heap.size → W.cell? ⟨ba, oa + k, none⟩ = some (.int .i64 av) → W.cell? ⟨bb, ob + k, none⟩ = some (.int .i64 bv) → W.cell? ⟨bh, oh + k, none⟩ = some (.int .i64 hv) → Calls Tryd.prog 15 #[.int .i64 av, .int .i64 bv, .int .i64 hv, .float .f64 x] W fun e w' => ∃ y, e = .returned (.float .f64 y) ∧ Hid (y < 18446744073709551616) ∧ w'.cell? ⟨ba, oa + k, none⟩ = some (.int .i64 av) ∧ w'.cell? ⟨bb, ob + k, none⟩ = some (.int .i64 bv) ∧ w'.cell? ⟨bh, oh + k, none⟩ = some (.int .i64 hv) ∧ Hid (Below W.heap.size W w')) := fun W h1 h2 h3 h4 => (x_walk av bv hv x W hx).mono fun e w' ⟨y, e1, e2, e3⟩ => ⟨y, e1, e2, by rw [e3.cell (by simp; omega)]; exact h2, by rw [e3.cell (by simp; omega)]; exact h3, by rw [e3.cell (by simp; omega)]; exact h4, e3⟩
        have aa := owns_own HO.out bla
        have ab := owns_own HO.out blb
        have ah := owns_own HO.out blh
        obtain ⟨hi0, hz0, hz1, hz2⟩ := HI.out
        go_wp2_with fail
        clear hx
        go_region_held3 (fun w' => w'.cell? ⟨ba, oa + k, none⟩ = some (.int .i64 av) ∧ w'.cell? ⟨bb, ob + k, none⟩ = some (.int .i64 bv) ∧ w'.cell? ⟨bh, oh + k, none⟩ = some (.int .i64 hv))
          (first
            | go_keep
            | (go_split_ands
               refine ⟨?_, ?_, ?_⟩
               · (rw [hgrow.cell_far _ (by simp; omega) (Ne.symm aa)]; assumption)
               · (rw [hgrow.cell_far _ (by simp; omega) (Ne.symm ab)]; assumption)
               · (rw [hgrow.cell_far _ (by simp; omega) (Ne.symm ah)]; assumption)))
          (first
            | (go_at_call 15; refine (HX.out _ ?_ ?_ ?_ ?_).mono ?_; (simp); (simpa using hca); (simpa using hcb); (simpa using hch); rintro e w2 ⟨yv, rfl, hyv, q3, q4, q5, b2⟩; have hown2 := owns_below (HO.out.drew) b2.out; have hs2 : wr.heap.size ≤ w2.heap.size := b2.out.size)
            | (refine step_append_lies _ (by rfl) _ _ _ (by rfl) w.heap.size 23 i0 _ 1 8 Tryd.underlying25 hi0 hz0 hz1 hz2 rfl (by decide) _ k (fs.map (Value.float .f64)) (by rfl) (hown2.alloc _)
                ⟨w2.heap.size, 0, none⟩ 1 1 [.float .f64 yv] (by rfl) (by rfl) (World.news_of_block (cs := #[.float .f64 yv]) (t := 23) (fr := (0, 0)) (heap_alloc_new w2 _)) (by simp [Value.oneCell'])
                (by omega) (by unfold maxLen; omega) (by omega) (by simp; omega) (w2.heap.size + 1) (by simp) ?_; intro gg cap w3 hown3 hgrow hat hlt))
        go_wp2_with fail
        go_roundw
        case rel =>
          have hb2 : Below w.heap.size w w2 := hb.trans (Below.trans ((Below.refl _ _).drew) (b2.out.mono (by simp; omega)))
          have hb3 : Below w.heap.size w w3 := (hb2.alloc (by omega) _).grown hgrow (by simp; omega) (fun j hj => owns_ge hown2 hj)
          refine ⟨k + 1, fs ++ [yv], by omega, by go_num, by simp [hfl], ?_, ?_, hb3⟩
          · intro f hf
            rcases List.mem_append.1 hf with h | h
            · exact HF.out f h
            · have : f = yv := by simpa using h
              rw [this]; exact hyv.out
          · show w3.ownsRow _ _ _ _ _ _
            rw [List.map_append]
            exact hown3
        case measure => simp [intOf]; omega
      · have hcases : ¬ k < na ∨ (k < na ∧ ¬ k < nb) ∨ (k < na ∧ k < nb ∧ ¬ k < nh) ∨ (k < na ∧ k < nb ∧ k < nh ∧ ¬ k < 9) := by omega
        rcases hcases with h | ⟨h1, h2⟩ | ⟨h1, h2, h3⟩ | ⟨h1, h2, h3, h4⟩
        all_goals
          clear hgo
          go_wp2_with fail
          go_meet
          exact ⟨k, fs, hk, hfl, HF, HO.out, hb⟩
  case rest =>
  obtain ⟨k, fs, hk, hfl, HF, hown, hb⟩ := hcut
  have htabc := tab_below htab hb
  have hbs := hb.size
  rcases owns_form hown with ⟨rfl, rfl⟩ | ⟨g, cap, rfl, hg, hcell⟩
  · go_wp2_with (first
      | (go_at_call 13; with_reducible refine (best_none_walk _).mono ?_; rintro e w' ⟨rfl, rfl⟩)
      | (go_at_call 20; with_reducible refine (refBest_none_walk _).mono ?_; rintro e w' ⟨rfl, rfl⟩)
      | (go_at_call 14; refine (wakes_walk _ htabc).mono ?_; rintro e w9 ⟨rfl, hb9⟩))
    go_ret
    exact ⟨rfl, hb.trans (hb9.mono hb.size)⟩
  · have HG : Hid (Calls Tryd.prog 13 #[.slice (some ⟨g, 0, none⟩) k cap] wc fun e w' => e = .returned (.int .i64 (best (fun i => fs.getD i 0) k)) ∧ w' = wc) :=
      best_walk g cap k (fun i => fs.getD i 0) wc (by omega) (fun i hi => getD_lt HF.out i (by omega)) hcell
    have HR : Hid (Calls Tryd.prog 20 #[.slice (some ⟨g, 0, none⟩) k cap] wc fun e w' => e = .returned (.int .i64 (best (fun i => fs.getD i 0) k)) ∧ w' = wc) :=
      refBest_walk g cap k (fun i => fs.getD i 0) wc (by omega) (fun i hi => getD_lt HF.out i (by omega)) hcell
    generalize best (fun i => fs.getD i 0) k = r at HG HR
    clear hcell hown
    go_wp2_with (first
      | (go_at_call 13; with_reducible refine (HG.out).mono ?_; rintro e w' ⟨rfl, rfl⟩)
      | (go_at_call 20; with_reducible refine (HR.out).mono ?_; rintro e w' ⟨rfl, rfl⟩)
      | (go_at_call 14; refine (wakes_walk _ htabc).mono ?_; rintro e w9 ⟨rfl, hb9⟩))
    go_ret
    exact ⟨rfl, hb.trans (hb9.mono hb.size)⟩
end Go.Proofs.YtghalbecgiepmaaDoor.wk
