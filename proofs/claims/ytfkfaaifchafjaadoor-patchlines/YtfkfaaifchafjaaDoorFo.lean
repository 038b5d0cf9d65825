/-
  PatchLines: the law's walk.
-/
import Derived.Test.YtfkfaaifchafjaaDoorFn
import Derived.Test.YtfkfaaifchafjaaDoorPe
import Derived.Test.YtfkfaaifchafjaaDoorEb
set_option linter.unusedSimpArgs false
set_option linter.unusedVariables false
namespace Go.Proofs.YtfkfaaifchafjaaDoor
open Go.RowKit

theorem tx3_cells (w : World) (k : Nat) (hk : k < 3) : (w.alloc (.cells #[.string ⟨#[111, 110, 101]⟩, .string ⟨#[]⟩, .string ⟨#[116, 119, 111, 32, 119, 111, 114, 100, 115]⟩] 9)).cell? ⟨w.heap.size, k, none⟩ = some (.string (str (tx3 k))) := by
  rw [cell_of_row _ _ k _ 9 (0, 0) (heap_alloc_new w _)]
  match k, hk with
  | 0, _ => rfl
  | 1, _ => rfl
  | 2, _ => rfl

def cellsB (t : ByteArray) : Array Value := #[.string ⟨#[]⟩, .int .i64 1, .string ⟨#[112, 97, 116, 99, 104]⟩, .int .i64 1, .string ⟨#[112, 97, 116, 99, 104, 32, 97]⟩, .int .i64 1, .string ⟨#[112, 97, 116, 99, 104, 32, 97, 10]⟩, .int .i64 2, .string ⟨#[80, 97, 116, 99, 104, 32, 97, 10]⟩, .int .i64 1, .string ⟨#[112, 97, 116, 99, 104, 32, 65, 10, 110, 101, 101, 100, 115, 10]⟩, .int .i64 1, .string ⟨#[112, 97, 116, 99, 104, 32, 97, 10, 110, 101, 101, 100, 115, 10]⟩, .int .i64 3, .string ⟨#[116, 97, 103, 32, 97, 10]⟩, .int .i64 2, .string ⟨#[116, 97, 103, 32, 97, 10, 110, 101, 101, 100, 115, 10, 109, 97, 107, 101, 32, 120, 10]⟩, .int .i64 3, .string ⟨#[112, 97, 116, 99, 104, 32, 97, 10, 110, 101, 101, 100, 10, 109, 97, 107, 101, 32, 120, 10]⟩, .int .i64 2, .string ⟨#[112, 97, 116, 99, 104, 32, 97, 10, 110, 101, 101, 100, 115, 32, 99, 32, 98, 10, 109, 97, 107, 101, 32, 120, 10]⟩, .int .i64 2, .string ⟨#[112, 97, 116, 99, 104, 32, 97, 10, 110, 101, 101, 100, 115, 32, 97, 10, 109, 97, 107, 101, 32, 120, 10]⟩, .int .i64 2, .string ⟨#[112, 97, 116, 99, 104, 32, 97, 10, 110, 101, 101, 100, 115, 32, 10, 109, 97, 107, 101, 32, 120, 10]⟩, .int .i64 2, .string ⟨#[112, 97, 116, 99, 104, 32, 97, 10, 110, 101, 101, 100, 115, 32, 98, 10, 109, 97, 107, 101, 32, 120]⟩, .int .i64 3, .string ⟨#[112, 97, 116, 99, 104, 32, 97, 10, 110, 101, 101, 100, 115, 32, 98, 10, 109, 97, 107, 101, 32, 88, 10]⟩, .int .i64 3, .string (⟨#[112, 97, 116, 99, 104, 32, 97, 10, 110, 101, 101, 100, 115, 32, 98, 10, 109, 97, 107, 101, 32, 120, 10, 112, 117, 116, 32, 97, 46, 50, 32, 45, 32]⟩ ++ t ++ ⟨#[10]⟩), .int .i64 4, .string ⟨#[112, 97, 116, 99, 104, 32, 97, 10, 110, 101, 101, 100, 115, 32, 98, 10, 109, 97, 107, 101, 32, 120, 10, 112, 117, 116, 32, 97, 46, 49, 32, 45, 10]⟩, .int .i64 4, .string ⟨#[112, 97, 116, 99, 104, 32, 97, 10, 110, 101, 101, 100, 115, 32, 98, 10, 109, 97, 107, 101, 32, 120, 10, 112, 117, 116, 32, 97, 46, 49, 32, 45, 32, 111, 110, 101, 10, 99, 117, 116, 32, 97, 46, 49, 32, 97, 46, 51, 10]⟩, .int .i64 5, .string ⟨#[112, 97, 116, 99, 104, 32, 97, 10, 110, 101, 101, 100, 115, 32, 98, 10, 109, 97, 107, 101, 32, 120, 10, 99, 117, 116, 32, 97, 46, 49, 32, 45, 10]⟩, .int .i64 4, .string ⟨#[112, 97, 116, 99, 104, 32, 97, 10, 110, 101, 101, 100, 115, 32, 98, 10, 109, 97, 107, 101, 32, 120, 10, 10]⟩, .int .i64 4, .string ⟨#[112, 97, 116, 99, 104, 32, 97, 10, 110, 101, 101, 100, 115, 32, 98, 10, 100, 114, 111, 112, 32, 99, 46, 49, 10]⟩, .int .i64 3, .string ⟨#[112, 97, 116, 99, 104, 32, 97, 10, 110, 101, 101, 100, 115, 32, 98, 10, 100, 114, 111, 112, 32, 98, 46, 52, 49, 10]⟩, .int .i64 3, .string ⟨#[112, 97, 116, 99, 104, 32, 97, 10, 110, 101, 101, 100, 115, 32, 98, 10, 100, 114, 111, 112, 32, 98, 46, 49, 32, 10]⟩, .int .i64 3]

theorem str_mid (a b : List UInt8) (x : Txt) : (⟨a.toArray⟩ ++ str x ++ ⟨b.toArray⟩ : ByteArray) = str (a ++ x ++ b) := by
  apply ByteArray.ext
  simp [str, ByteArray.data_append]

theorem rowB (tl : Txt) (i : Nat) (hi : i < 23) : (cellsB (str tl))[i * 2]? = some (.string (str (bad tl i).1)) ∧ (cellsB (str tl))[i * 2 + 1]? = some (.int .i64 ((bad tl i).2 : Int)) :=
  match i, hi with
  | 0, _ => by exact ⟨rfl, rfl⟩
  | 1, _ => by exact ⟨rfl, rfl⟩
  | 2, _ => by exact ⟨rfl, rfl⟩
  | 3, _ => by exact ⟨rfl, rfl⟩
  | 4, _ => by exact ⟨rfl, rfl⟩
  | 5, _ => by exact ⟨rfl, rfl⟩
  | 6, _ => by exact ⟨rfl, rfl⟩
  | 7, _ => by exact ⟨rfl, rfl⟩
  | 8, _ => by exact ⟨rfl, rfl⟩
  | 9, _ => by exact ⟨rfl, rfl⟩
  | 10, _ => by exact ⟨rfl, rfl⟩
  | 11, _ => by exact ⟨rfl, rfl⟩
  | 12, _ => by exact ⟨rfl, rfl⟩
  | 13, _ => by exact ⟨rfl, rfl⟩
  | 14, _ => by exact ⟨rfl, rfl⟩
  | 15, _ => by exact ⟨congrArg (fun s => some (Value.string s)) (str_mid _ _ _), rfl⟩
  | 16, _ => by exact ⟨rfl, rfl⟩
  | 17, _ => by exact ⟨rfl, rfl⟩
  | 18, _ => by exact ⟨rfl, rfl⟩
  | 19, _ => by exact ⟨rfl, rfl⟩
  | 20, _ => by exact ⟨rfl, rfl⟩
  | 21, _ => by exact ⟨rfl, rfl⟩
  | 22, _ => by exact ⟨rfl, rfl⟩
  | j + 23, h => absurd h (by omega)

theorem meas23 {j : Nat} (h : j < 23) : 23 - (intOf (.int .i64 ((j : Int) + 1))).toNat < 23 - (intOf (.int .i64 (j : Int))).toNat := by
  simp [intOf]; omega

set_option maxRecDepth 100000 in
set_option maxHeartbeats 8000000 in
theorem lines_walk (n : Int) (w : World) (hE : Env w) : Calls Tryd.prog 5 #[.int .i64 n] w fun e w' => e = .returned (.bool true) ∧ Old w w' := by
  obtain ⟨k, hk, kw⟩ := within_hid n 3 (by decide) (by decide)
  have kw' : Hid (∀ w, Calls Tryd.prog 7 #[.int .i64 n, .int .i64 3] w fun e w' => e = .returned (.int .i64 (k : Int)) ∧ w' = w) := kw
  have hc := tx3_cells w k hk
  have hk0 : (k : Int) < 3 := by omega
  have HK := mkHid hk
  have kwk := wakes_hid
  have HE := mkHid hE
  obtain ⟨t, ht⟩ : ∃ t, t = str (tx3 k) := ⟨_, rfl⟩
  rw [← ht] at hc
  have HT := mkHid ht
  have hts : t.size ≤ 9 := by
    rw [ht, str_size]
    match k, hk with
    | 0, _ => decide
    | 1, _ => decide
    | 2, _ => decide
  have g33 : ¬ 9223372036854775807 < 33 + t.size := by omega
  have g34 : ¬ 9223372036854775807 < 33 + t.size + 1 := by omega
  clear kw hE ht hts
  go_enter Tryd.func5, Tryd.ntmps5
  go_wp2_with (first
    | (go_at_call 7; (with_reducible refine (kw'.out _).mono ?_); rintro e w1 ⟨rfl, rfl⟩))
  show Code.wp _ _ _ _ ((w.alloc (.cells #[.string ⟨#[111, 110, 101]⟩, .string ⟨#[]⟩, .string ⟨#[116, 119, 111, 32, 119, 111, 114, 100, 115]⟩] 9)).alloc (.cells (cellsB t) 45))
  obtain ⟨g, hg⟩ : ∃ g, g = w.heap.size + 1 := ⟨_, rfl⟩
  obtain ⟨W, hW⟩ : ∃ W, W = ((w.alloc (.cells #[.string ⟨#[111, 110, 101]⟩, .string ⟨#[]⟩, .string ⟨#[116, 119, 111, 32, 119, 111, 114, 100, 115]⟩] 9)).alloc (.cells (cellsB t) 45)) := ⟨_, rfl⟩
  have hO : Old w W := by rw [hW]; exact old2 _ _ _
  have hgw : W.heap[g]? = some (.cells (cellsB t) 45 (0, 0)) := by rw [hW, hg]; exact h21 _ _ _
  rw [← hW, ← hg]
  have HGW := mkHid hgw
  have HO := mkHid hO
  clear hW hO hgw hc hg kw'
  go_loopw [42] (fun i wr => ∃ j : Nat, j ≤ 23 ∧ i = .int .i64 j ∧ Hid (Old W wr)) (fun i _ => 23 - (intOf i).toNat)
  case atStart => exact ⟨0, by omega, rfl, Below.refl _ _⟩
  case round =>
    obtain ⟨j, hj, rfl, HJ⟩ := hrel
    by_cases hj23 : j < 23
    · have hj0 : (j : Int) < 23 := by omega
      obtain ⟨r1, r2⟩ := rowB (tx3 k) j hj23
      rw [← HT.out] at r1 r2
      have hb1 := bad_lines ⟨k, HK.out⟩ ⟨j, hj23⟩
      have hb2 := bad_len ⟨k, HK.out⟩ ⟨j, hj23⟩
      have hb3 := bad_pos ⟨k, HK.out⟩ ⟨j, hj23⟩
      obtain ⟨sl, hsl⟩ : ∃ sl, sl = (bad (tx3 k) j).1 := ⟨_, rfl⟩
      obtain ⟨m, hm⟩ : ∃ m, m = (bad (tx3 k) j).2 := ⟨_, rfl⟩
      simp only [← hsl, ← hm] at r1 r2 hb1 hb2 hb3
      obtain ⟨s, hs⟩ : ∃ s, s = str sl := ⟨_, rfl⟩
      rw [← hs] at r1
      have hgr := block_old HJ.out HGW.out
      have hrg : wr.rangeAt g (j * 2) [.string s, .int .i64 (m : Int)] := by
        intro i v hv
        rw [cell_of_row _ _ (j * 2 + i) _ 45 (0, 0) hgr]
        match i, hv with
        | 0, hv => cases hv; exact r1
        | 1, hv => cases hv; exact r2
      have KP : Hid (∀ w', Old W w' → Calls Tryd.prog 10 #[.string s] w' fun e w'' => e = .returned (.tuple #[.agg #[.string ⟨#[]⟩, .bool false, .slice none 0 0, .slice none 0 0], .int .i64 (m : Int), .int .i64 2]) ∧ Old w' w'') := fun w' h => by
        refine (parse_any w' s ((HE.out.old HO.out).old h) (by rw [hs, str_size]; omega)).mono ?_
        rintro e w'' ⟨h1, h2⟩
        refine ⟨?_, h2⟩
        rw [hs, str_list] at h1
        rcases h1 with ⟨p, nv, cv, h3, _⟩ | ⟨m', h3, h4, h5⟩
        · rw [h3] at hb1
          exact absurd hb1.symm hb3
        · rw [h4] at hb1
          simp only at hb1
          rw [← hb1]
          exact h5
      have KS : Hid (∀ w', Calls Tryd.prog 12 #[.agg #[.string ⟨#[]⟩, .bool false, .slice none 0 0, .slice none 0 0], .agg #[.string ⟨#[]⟩, .bool false, .slice none 0 0, .slice none 0 0]] w' fun e w'' => e = .returned (.bool true) ∧ Old w' w'') := fun w' =>
        samePat_any w' _ _ _ _ _ _ _ _ pat0 pat0 ⟨rfl, rfl, liesS_nil _, liesC_nil _, by decide, by decide⟩ ⟨rfl, rfl, liesS_nil _, liesC_nil _, by decide, by decide⟩
      have HR := mkHid hrg
      obtain ⟨fs45, hfs45⟩ : ∃ fs, Tryd.prog.underlying 45 = some (.struct fs) := ⟨_, Tryd.underlying45⟩
      obtain ⟨fs, hfs⟩ : ∃ fs, Tryd.prog.underlying 26 = some (.struct fs) := ⟨_, Tryd.underlying26⟩
      have size45 : (Tryd.prog.info? 45).map (·.size) = some 2 := by kernel_rfl
      clear r1 r2 hb1 hb2 hb3 hsl hm hs hgr hrg hj
      go_upto_region 5 with (first
        | ((with_reducible refine at_op (.load 45 (.tmp 44)) ?_); refine wpList_load_mid rfl 45 (.tmp 44) rfl g (j * 2) rfl _ _ HR.out hfs45 rfl size45 ?_)
        | ((with_reducible refine at_op (.store 45 (.tmp 5) (.tmp 45)) ?_)
           refine wpList_store_row rfl 45 (.tmp 5) (.tmp 45) rfl wr.heap.size #[.string s, .int .i64 (m : Int)] rfl rfl 45 _ (h10 _ _) size45 rfl (two_one _ _) ?_
           rw [World.setRow_alloc_new]
           obtain ⟨W1, hW1⟩ : ∃ W1, W1 = wr.alloc (.cells #[.string s, .int .i64 (m : Int)] 45) := ⟨_, rfl⟩
           have b1 : Old wr W1 := by rw [hW1]; exact old1 _ _
           have HB1 := mkHid (below_then HJ.out b1)
           have G1 : Hid (W1.heap[wr.heap.size]? = some (.cells #[.string s, .int .i64 (m : Int)] 45 (0, 0))) := by show _ = _; rw [hW1]; exact h10 _ _
           rw [← hW1]
           clear hW1 b1
           obtain ⟨q0, -⟩ := cell2 G1.out))
      go_wp2_with (first
        | (go_at_call 10; (with_reducible refine (KP.out _ HB1.out).mono ?_); rintro e w2 ⟨rfl, b2⟩
           have HB2 := mkHid (below_then HB1.out b2)
           have G2 := mkHid (block_old b2 G1.out)
           clear b2 q0)
        | ((with_reducible refine at_op (.store 26 (.tmp 6) (.tmp 50)) ?_)
           refine wpList_store_row rfl 26 (.tmp 6) (.tmp 50) rfl w2.heap.size #[.string ⟨#[]⟩, .bool false, .slice none 0 0, .slice none 0 0] rfl rfl 26 _ (h10 _ _) size26 rfl (by simp [Value.oneCell']) ?_
           rw [World.setRow_alloc_new]
           obtain ⟨W3, hW3⟩ : ∃ W3, W3 = w2.alloc (.cells #[.string ⟨#[]⟩, .bool false, .slice none 0 0, .slice none 0 0] 26) := ⟨_, rfl⟩
           have b3 : Old w2 W3 := by rw [hW3]; exact old1 _ _
           have HB3 := mkHid (below_then HB2.out b3)
           have G3 := mkHid (block_old b3 G2.out)
           have G4 : Hid (W3.heap[w2.heap.size]? = some (.cells #[.string ⟨#[]⟩, .bool false, .slice none 0 0, .slice none 0 0] 26 (0, 0))) := by show _ = _; rw [hW3]; exact h10 _ _
           rw [← hW3]
           clear hW3 b3
           obtain ⟨-, q1⟩ := cell2 G3.out)
        | ((with_reducible refine at_op (.load 26 (.tmp 6)) ?_); refine wpList_load_rowG rfl 26 (.tmp 6) rfl w2.heap.size rfl 26 _ (0, 0) _ G4.out hfs rfl size26 ?_)
        | (go_at_call 12; (with_reducible refine (KS.out _).mono ?_); rintro e w4 ⟨rfl, b4⟩
           have HB4 := mkHid (below_then HB3.out b4)
           clear b4))
      go_roundw
      case rel => exact ⟨j + 1, by omega, by go_num, HB4.out⟩
      case measure => first | exact meas23 hj23 | (rw [show wrap64 ((j : Int) + 1) = (j : Int) + 1 by unfold wrap64; omega]; exact meas23 hj23)
    · obtain rfl : j = 23 := by omega
      go_wp2_with (first
        | (go_at_call 14; (with_reducible refine (kwk.out _).mono ?_); rintro e w4 ⟨rfl, b4⟩
           have HB4 := mkHid (below_then HJ.out b4)
           clear b4))
      go_ret
      exact ⟨rfl, below_then HO.out HB4.out⟩
end Go.Proofs.YtfkfaaifchafjaaDoor
