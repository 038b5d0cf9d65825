/-
  PatchForms: the law's walk.
-/
import Derived.Test.YtfkfaaifchafjaaDoorFq
import Derived.Test.YtfkfaaifchafjaaDoorPe
import Derived.Test.YtfkfaaifchafjaaDoorEb
set_option linter.unusedSimpArgs false
set_option linter.unusedVariables false
namespace Go.Proofs.YtfkfaaifchafjaaDoor
open Go.RowKit

theorem tx4_cells (w : World) (k : Nat) (hk : k < 4) : (w.alloc (.cells #[.string ⟨#[111, 110, 101]⟩, .string ⟨#[]⟩, .string ⟨#[32, 32, 116, 119, 111, 32, 119, 111, 114, 100, 115, 32]⟩, .string ⟨#[35]⟩] 9)).cell? ⟨w.heap.size, k, none⟩ = some (.string (str (tx4 k))) := by
  rw [cell_of_row _ _ k _ 9 (0, 0) (heap_alloc_new w _)]
  match k, hk with
  | 0, _ => rfl
  | 1, _ => rfl
  | 2, _ => rfl
  | 3, _ => rfl

theorem str_mid4 (a b : List UInt8) (x : Txt) : (⟨a.toArray⟩ ++ str x ++ ⟨b.toArray⟩ : ByteArray) = str (a ++ x ++ b) := by
  apply ByteArray.ext
  simp [str, ByteArray.data_append]

theorem lies_one {w : World} {nv cv : Value} {ss : List Txt} {l : List Chg} {q : ByteArray} {b : Bool} (h2 : LiesS w nv ss) (h3 : LiesC w cv l) : (#[Value.string q, .bool b, nv, cv] : Array Value).all (·.oneCell') = true := by
  obtain ⟨ao, cap, rfl, _⟩ := h2
  obtain ⟨_, bo, cap2, rfl, _⟩ := h3
  simp [Value.oneCell']

set_option maxRecDepth 100000 in
set_option maxHeartbeats 8000000 in
theorem forms_walk (n : Int) (w : World) (hE : Env w) : Calls Tryd.prog 3 #[.int .i64 n] w fun e w' => e = .returned (.bool true) ∧ Old w w' := by
  obtain ⟨k, hk, kw⟩ := within_hid n 4 (by decide) (by decide)
  have kw' : Hid (∀ w, Calls Tryd.prog 7 #[.int .i64 n, .int .i64 4] w fun e w' => e = .returned (.int .i64 (k : Int)) ∧ w' = w) := kw
  have hc := tx4_cells w k hk
  have hk0 : (k : Int) < 4 := by omega
  have kwk := wakes_hid
  have HE := mkHid hE
  obtain ⟨tl, htl⟩ : ∃ tl, tl = tx4 k := ⟨_, rfl⟩
  obtain ⟨t, ht⟩ : ∃ t, t = str tl := ⟨_, rfl⟩
  rw [← htl, ← ht] at hc
  have HT := mkHid ht
  have kpl := plain_hid t
  have hts : t.size ≤ 12 := by
    rw [ht, htl, str_size]
    match k, hk with
    | 0, _ => decide
    | 1, _ => decide
    | 2, _ => decide
    | 3, _ => decide
  have hpr : printM (plainP tl) = plainT tl := by rw [htl]; exact plain_print ⟨k, hk⟩
  have hck : checkM (plainP tl) = true := by rw [htl]; exact plain_check ⟨k, hk⟩
  have hpa : parseM (plainT tl) = (plainP tl, 0) := by rw [htl]; exact plain_parse ⟨k, hk⟩
  obtain ⟨s, hs⟩ : ∃ s, s = str (plainT tl) := ⟨_, rfl⟩
  have hsm : Small (plainP tl) := by
    rw [htl]
    exact small_of ((show ∀ k : Fin 4, smallB (plainP (tx4 k.val)) = true by decide +kernel) ⟨k, hk⟩)
  have hsl : s.size ≤ 1000 := by
    rw [hs, str_size, htl]
    exact (show ∀ k : Fin 4, (plainT (tx4 k.val)).length ≤ 1000 by decide +kernel) ⟨k, hk⟩
  have kpr : Hid (∀ w g1 g2, w.heap[g1]? = some (.cells (plN.map encStr).toArray 9 (0, 0)) → w.heap[g2]? = some (.cells (cellsC (plC t.data.toList)).toArray 44 (0, 0)) →
      Calls Tryd.prog 9 #[.agg #[.string ⟨#[98]⟩, .bool false, .slice (some ⟨g1, 0, none⟩) 2 2, .slice (some ⟨g2, 0, none⟩) 7 7]] w fun e w' => e = .returned (.tuple #[.string s, .int .i64 0]) ∧ Old w w') := fun w g1 g2 h1 h2 => by
    have e1 : ((⟨#[98]⟩ : ByteArray).data.toList, false, plN, plC t.data.toList) = plainP tl := by rw [ht, str_list]; rfl
    exact print_any w ⟨#[98]⟩ false _ _ plN (plC t.data.toList) (plain_mf h1 h2) (by rw [e1]; exact hsm) s 0 (by rw [e1, hck, hpr, hs]; rfl) (by rw [e1, hck]; rfl)
  have kpa : Hid (∀ w, Env w → Calls Tryd.prog 10 #[.string s] w fun e w' => ∃ nv cv, e = .returned (.tuple #[.agg #[.string ⟨#[98]⟩, .bool false, nv, cv], .int .i64 0, .int .i64 0]) ∧ PV w' ⟨#[98]⟩ false nv cv (plainP tl) ∧ Old w w') := fun w hE => by
    refine (parse_any w s hE (by omega)).mono ?_
    rintro e w' ⟨h1, h2⟩
    rw [hs, str_list, hpa] at h1
    rcases h1 with ⟨p, nv, cv, h3, h4, h5, h6⟩ | ⟨m, h3, h4, _⟩
    · cases h3
      exact ⟨nv, cv, h4, ⟨rfl, rfl, h5, h6, by simp [plainP], by simp [plainP]⟩, h2⟩
    · exact absurd (congrArg Prod.snd h4).symm h3
  have hsum : (⟨#[112, 97, 116, 99, 104, 32, 98, 10, 110, 101, 101, 100, 115, 32, 97, 32, 99, 10, 109, 97, 107, 101, 32, 120, 10, 112, 117, 116, 32, 98, 46, 49, 32, 45, 32]⟩ ++ t ++ ⟨#[10, 112, 117, 116, 32, 98, 46, 49, 32, 98, 46, 50, 32, 116, 119, 111, 10, 99, 117, 116, 32, 98, 46, 49, 32, 98, 46, 51, 10, 110, 97, 109, 101, 32, 97, 46, 52, 32, 121, 10, 112, 117, 116, 32, 97, 46, 52, 32, 99, 46, 55, 32, 10, 100, 114, 111, 112, 32, 99, 46, 49, 10]⟩ : ByteArray) = s := by
    rw [ht, hs]
    exact str_mid4 [112, 97, 116, 99, 104, 32, 98, 10, 110, 101, 101, 100, 115, 32, 97, 32, 99, 10, 109, 97, 107, 101, 32, 120, 10, 112, 117, 116, 32, 98, 46, 49, 32, 45, 32] [10, 112, 117, 116, 32, 98, 46, 49, 32, 98, 46, 50, 32, 116, 119, 111, 10, 99, 117, 116, 32, 98, 46, 49, 32, 98, 46, 51, 10, 110, 97, 109, 101, 32, 97, 46, 52, 32, 121, 10, 112, 117, 116, 32, 97, 46, 52, 32, 99, 46, 55, 32, 10, 100, 114, 111, 112, 32, 99, 46, 49, 10] tl
  have g1b : ¬ 9223372036854775807 < 35 + t.size := by omega
  have g2b : ¬ 9223372036854775807 < 35 + t.size + 62 := by omega
  have HSUM := mkHid hsum
  have HPC : Hid (plainP tl = ([98], false, plN, plC t.data.toList)) := by show _ = _; rw [ht, str_list]; rfl
  obtain ⟨fs26, hfs26⟩ : ∃ fs, Tryd.prog.underlying 26 = some (.struct fs) := ⟨_, Tryd.underlying26⟩
  obtain ⟨fs34, hfs34⟩ : ∃ fs, Tryd.prog.underlying 34 = some (.struct fs) := ⟨_, Tryd.underlying34⟩
  clear hsum hsl hs hsm hpr hck hpa hts htl ht kw hE hk
  go_enter Tryd.func3, Tryd.ntmps3
  go_upto_region 4 with (first
    | (go_at_call 7; (with_reducible refine (kw'.out _).mono ?_); rintro e w1 ⟨rfl, rfl⟩)
    | (go_at_call 8; (with_reducible refine (kpl.out _).mono ?_); rintro e w2 ⟨g1, g2, rfl, p1, p2, l1, l2, b2⟩
       have HP1 := mkHid p1
       have HP2 := mkHid p2
       have HB2 : Hid (Old w w2) := below_then (old1 w _) b2
       clear p1 p2 l1 l2 b2)
    | ((with_reducible refine at_op (.store 26 (.tmp 4) (.tmp 18)) ?_)
       refine wpList_store_row rfl 26 (.tmp 4) (.tmp 18) rfl w2.heap.size #[.string ⟨#[98]⟩, .bool false, .slice (some ⟨g1, 0, none⟩) 2 2, .slice (some ⟨g2, 0, none⟩) 7 7] rfl rfl 26 _ (h10 _ _) size26 rfl (by simp [Value.oneCell']) ?_
       rw [World.setRow_alloc_new]
       obtain ⟨pb, hpb⟩ : ∃ pb, pb = w2.heap.size := ⟨_, rfl⟩
       obtain ⟨W1, hW1⟩ : ∃ W1, W1 = w2.alloc (.cells #[.string ⟨#[98]⟩, .bool false, .slice (some ⟨g1, 0, none⟩) 2 2, .slice (some ⟨g2, 0, none⟩) 7 7] 26) := ⟨_, rfl⟩
       have b3 : Old w2 W1 := by rw [hW1]; exact old1 _ _
       have HO1 := mkHid (below_then HB2.out b3)
       have HA1 := mkHid (block_old b3 HP1.out)
       have HA2 := mkHid (block_old b3 HP2.out)
       have HPB : Hid (W1.heap[pb]? = some (.cells #[.string ⟨#[98]⟩, .bool false, .slice (some ⟨g1, 0, none⟩) 2 2, .slice (some ⟨g2, 0, none⟩) 7 7] 26 (0, 0))) := by show _ = _; rw [hpb, hW1]; exact h10 _ _
       rw [← hW1, ← hpb]
       clear b3 hW1 hpb))
  rw [HSUM.out]
  clear hc kw' kpl HP1 HP2 HB2
  go_upto_region 6 with (first
    | ((with_reducible refine at_op (.load 26 (.tmp 4)) ?_); refine wpList_load_rowG rfl 26 (.tmp 4) rfl pb rfl 26 _ (0, 0) _ HPB.out hfs26 rfl size26 ?_)
    | (go_at_call 9; (with_reducible refine (kpr.out _ _ _ HA1.out HA2.out).mono ?_); rintro e w4 ⟨rfl, b4⟩
       have HO4 := mkHid (below_then HO1.out b4)
       have HB4 := mkHid b4
       clear b4)
    | (go_at_call 10; (with_reducible refine (kpa.out _ (HE.out.old HO4.out)).mono ?_); rintro e w5 ⟨nv, cv, rfl, hpv, b5⟩
       have HPV := mkHid hpv
       have HO5 := mkHid (below_then HO4.out b5)
       have HB5 := mkHid (below_then HB4.out b5)
       have HONE : Hid ((#[Value.string ⟨#[98]⟩, .bool false, nv, cv] : Array Value).all (·.oneCell') = true) := lies_one hpv.ns hpv.cs
       clear hpv b5)
    | ((with_reducible refine at_op (.store 26 (.tmp 8) (.tmp 30)) ?_)
       refine wpList_store_row rfl 26 (.tmp 8) (.tmp 30) rfl w5.heap.size #[.string ⟨#[98]⟩, .bool false, nv, cv] rfl rfl 26 _ (h10 _ _) size26 rfl HONE.out ?_
       rw [World.setRow_alloc_new]
       obtain ⟨qb, hqb⟩ : ∃ qb, qb = w5.heap.size := ⟨_, rfl⟩
       obtain ⟨W2, hW2⟩ : ∃ W2, W2 = w5.alloc (.cells #[.string ⟨#[98]⟩, .bool false, nv, cv] 26) := ⟨_, rfl⟩
       have b6 : Old w5 W2 := by rw [hW2]; exact old1 _ _
       have HO6 := mkHid (below_then HO5.out b6)
       have HB6 := mkHid (below_then HB5.out b6)
       have HQV := mkHid (HPV.out.old b6)
       have HQB : Hid (W2.heap[qb]? = some (.cells #[.string ⟨#[98]⟩, .bool false, nv, cv] 26 (0, 0))) := by show _ = _; rw [hqb, hW2]; exact h10 _ _
       rw [← hW2, ← hqb]
       clear b6 hW2 hqb))
  have HPB6 := mkHid (block_old HB6.out HPB.out)
  have HA16 := mkHid (block_old HB6.out HA1.out)
  have HA26 := mkHid (block_old HB6.out HA2.out)
  have khd := mkHid (head_some W2 ⟨#[98]⟩ false (.slice (some ⟨g1, 0, none⟩) 2 2) (.slice (some ⟨g2, 0, none⟩) 7 7) plN (liesS_block HA16.out rfl 2 2 rfl (by decide)) (by decide) (by decide))
  clear kpr kpa HONE HPV HO4 HB4 HO5 HB5 HA1 HA2
  go_upto_region 7 with (first
    | ((with_reducible refine at_op (.load 26 (.tmp 4)) ?_); refine wpList_load_rowG rfl 26 (.tmp 4) rfl pb rfl 26 _ (0, 0) _ HPB6.out hfs26 rfl size26 ?_)
    | (go_at_call 11; (with_reducible refine khd.out.mono ?_); rintro e w7 ⟨g3, c3, cs3, rfl, hg3, hc3, hgc3, hcs3, b7⟩
       have HG3 := mkHid hg3
       have HC3 := mkHid hc3
       have HGC3 := mkHid hgc3
       have HCS3 := mkHid hcs3
       have HB7 := mkHid b7
       clear hg3 hc3 hgc3 hcs3 b7)
    | ((with_reducible refine at_op (.store 34 (.tmp 11) (.tmp 34)) ?_)
       refine wpList_store_row rfl 34 (.tmp 11) (.tmp 34) rfl w7.heap.size #[.string ⟨#[98]⟩, .bool false, .slice (some ⟨g3, 0, none⟩) 2 c3] rfl rfl 34 _ (h10 _ _) size34 rfl (by simp [Value.oneCell']) ?_
       rw [World.setRow_alloc_new]
       obtain ⟨hb, hhb⟩ : ∃ hb, hb = w7.heap.size := ⟨_, rfl⟩
       obtain ⟨W3, hW3⟩ : ∃ W3, W3 = w7.alloc (.cells #[.string ⟨#[98]⟩, .bool false, .slice (some ⟨g3, 0, none⟩) 2 c3] 34) := ⟨_, rfl⟩
       have b8 : Old w7 W3 := by rw [hW3]; exact old1 _ _
       have HB8 := mkHid (below_then HB7.out b8)
       have HG8 := mkHid (block_old b8 HGC3.out)
       have HHB : Hid (W3.heap[hb]? = some (.cells #[.string ⟨#[98]⟩, .bool false, .slice (some ⟨g3, 0, none⟩) 2 c3] 34 (0, 0))) := by show _ = _; rw [hhb, hW3]; exact h10 _ _
       rw [← hW3, ← hhb]
       clear b8 hW3 hhb))
  have HPB8 := mkHid (block_old HB8.out HPB6.out)
  have HQB8 := mkHid (block_old HB8.out HQB.out)
  have HA18 := mkHid (block_old HB8.out HA16.out)
  have HA28 := mkHid (block_old HB8.out HA26.out)
  have hp8 : PV W3 ⟨#[98]⟩ false (.slice (some ⟨g1, 0, none⟩) 2 2) (.slice (some ⟨g2, 0, none⟩) 7 7) (plainP tl) := by
    rw [HPC.out]
    exact ⟨rfl, rfl, liesS_block HA18.out rfl 2 2 rfl (by decide), liesC_block HA28.out rfl 7 7 rfl (by decide), by simp [plN], by simp [plC]⟩
  have k12 : Hid (Calls Tryd.prog 12 #[.agg #[.string ⟨#[98]⟩, .bool false, .slice (some ⟨g1, 0, none⟩) 2 2, .slice (some ⟨g2, 0, none⟩) 7 7], .agg #[.string ⟨#[98]⟩, .bool false, nv, cv]] W3 fun e w' => e = .returned (.bool true) ∧ Old W3 w') := by
    have := samePat_any W3 _ _ _ _ _ _ _ _ (plainP tl) (plainP tl) hp8 (HQV.out.old HB8.out)
    rw [sameP_iff.2 rfl] at this
    exact this
  have hl3 : LiesS W3 (.slice (some ⟨g3, 0, none⟩) 2 c3) plN := .intro (some ⟨g3, 0, none⟩) ⟨c3, rfl, HC3.out, fun h => (by cases h), fun a ha j u hu => by
    cases ha
    rw [add_none, Nat.zero_add, cell_of_row _ _ j _ 9 (0, 0) HG8.out]
    exact HCS3.out j u hu⟩
  have k13 : Hid (∀ w', Old W3 w' → Calls Tryd.prog 13 #[.slice (some ⟨g3, 0, none⟩) 2 c3, .slice (some ⟨g1, 0, none⟩) 2 2] w' fun e w'' => e = .returned (.bool true) ∧ ∃ n, w'' = w'.drewN n) := fun w' h => by
    have := eqK_walk w' (.slice (some ⟨g3, 0, none⟩) 2 c3) (.slice (some ⟨g1, 0, none⟩) 2 2) plN plN (hl3.old h) (hp8.ns.old h) (by decide) (by decide)
    rw [decide_eq_true rfl] at this
    exact this
  have HNE : Hid (g1 ≠ g3) := by
    have := (Array.getElem?_eq_some_iff.1 HA16.out).1
    have := HG3.out
    show _ ≠ _
    omega
  have HCC3 : Hid (cs3[0]? = some (.string ⟨#[97]⟩)) := HCS3.out 0 _ rfl
  have HOO : Hid (Old w W3) := below_then HO6.out HB8.out
  clear hp8 hl3 khd
  go_upto_region 9 with (first
    | ((with_reducible refine at_op (.load 26 (.tmp 4)) ?_); refine wpList_load_rowG rfl 26 (.tmp 4) rfl pb rfl 26 _ (0, 0) _ HPB8.out hfs26 rfl size26 ?_)
    | ((with_reducible refine at_op (.load 26 (.tmp 8)) ?_); refine wpList_load_rowG rfl 26 (.tmp 8) rfl qb rfl 26 _ (0, 0) _ HQB8.out hfs26 rfl size26 ?_)
    | (go_at_call 12; (with_reducible refine k12.out.mono ?_); rintro e w9 ⟨rfl, b9⟩
       have HB9 := mkHid b9
       obtain ⟨c0, c1, c2⟩ := cell3 (block_old b9 HHB.out)
       obtain ⟨-, -, d2, -⟩ := cell4 (block_old b9 HPB8.out)
       clear b9)
    | (go_at_call 13; (with_reducible refine (k13.out _ HB9.out).mono ?_); rintro e w10 ⟨rfl, n2, rfl⟩))
  have hg9 := block_old HB9.out HG8.out
  have ha9 := block_old HB9.out HA18.out
  have hp9 := block_old HB9.out HPB8.out
  have e0 : w9.cell? ⟨g3, 0, none⟩ = some (.string ⟨#[97]⟩) := by
    rw [cell_of_row _ _ 0 _ 9 (0, 0) hg9]; exact HCC3.out
  have z0 := free_at hg9 0
  have hx1 := heap_set_ne (w9.drewN n2) g3 0 (.string ⟨#[122, 122]⟩) HNE.out ha9
  have hx2 := heap_set_ne (w9.drewN n2) g3 0 (.string ⟨#[122, 122]⟩) (blocks_ne hp9 hg9 (by decide)) hp9
  have hxo : Old w ((w9.drewN n2).setCell ⟨g3, 0, none⟩ (.string ⟨#[122, 122]⟩)) := by
    refine (below_drewB (below_then HOO.out HB9.out) n2).setCell (p := ⟨g3, 0, none⟩) ?_ _
    have := HG3.out
    have := HO6.out.size
    show _ ≤ g3
    omega
  obtain ⟨X, hX⟩ : ∃ X, X = (w9.drewN n2).setCell ⟨g3, 0, none⟩ (.string ⟨#[122, 122]⟩) := ⟨_, rfl⟩
  have HX := mkHid hX
  rw [← hX] at hx1 hx2 hxo
  have HX1 := mkHid hx1
  have HX2 := mkHid hx2
  have HXO := mkHid hxo
  clear hx1 hx2 hxo hX hg9 ha9 hp9
  go_upto_region 12 with (fail)
  rw [← HX.out]
  clear c0 c1 c2 d2 e0 z0
  obtain ⟨-, -, d2, -⟩ := cell4 HX2.out
  have f0 : X.cell? ⟨g1, 0, none⟩ = some (.string ⟨#[97]⟩) := by
    rw [cell_of_row _ _ 0 _ 9 (0, 0) HX1.out]; rfl
  go_wp2_with (first
    | (go_at_call 14; (with_reducible refine (kwk.out _).mono ?_); rintro e w4 ⟨rfl, b4⟩
       have HB14 := mkHid (below_then HXO.out b4)
       clear b4))
  go_ret
  exact ⟨rfl, HB14.out⟩
end Go.Proofs.YtfkfaaifchafjaaDoor
