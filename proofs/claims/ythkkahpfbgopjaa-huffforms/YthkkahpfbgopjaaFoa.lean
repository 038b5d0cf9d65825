/-
  HuffForms: the walk.
-/
import Derived.Test.YthkkahpfbgopjaaLi
set_option linter.unusedSimpArgs false
set_option linter.unusedVariables false
namespace Go.Proofs.Ythkkahpfbgopjaa
open Go.RowKit

def zeros (m : Nat) : Array Value := ((List.replicate m (0 : Int)).map intV).toArray

theorem make_ints (m : Nat) (hm : m ≤ 140737488355328 / 8) (w : World) : (Instr.makeSlice 26 (.int .i64 (m : Int)) (.int .i64 (m : Int))).run Try.prog w = .ok (.slice (some ⟨w.heap.size, 0, none⟩) m m) (w.alloc (.cells (zeros m) 3)) := by
  obtain ⟨i, hi, hz0, hz1, hz2⟩ := info_parts Try.infi3
  have := run_make (P := Try.prog) w 26 3 i _ Try.under26 hi hz0 .i64 .i64 (m : Int) (m : Int) (by omega) (by omega) (by rw [hz2]; omega) (by omega)
  rw [hz1] at this
  have e : madeCells #[.int .i64 0] m = zeros m := by
    unfold zeros
    apply Array.ext'
    rw [toList_madeCells_one]
    simp [intV]
  simpa [Value.cells, e] using this

def l8 : List Nat := [3, 3, 3, 3, 3, 2, 4, 4]
def z8 : List Int := [2, 3, 4, 5, 6, 0, 14, 15]

theorem l8_codes : ∀ i, i < 8 → ((code l8 i : Nat) : Int) = z8.getD i 0 ∧ 0 < nth l8 i := by decide

def rowsBad (N m : Nat) : List (List Int) := [[1, 1, 1], [2, 2, 2], [2], [1, 2], [3, 3], [0, 15], [(N : Int)], [-(N : Int)], List.replicate m 0, [1, 0, 1, 15]]

theorem rows_bad (N m : Nat) (hN : 16 ≤ N) (hm : 320 < m) (hm2 : m < 4000) : ∀ k, k < 10 → ¬ OK ((rowsBad N m).getD k []) ∧ ((rowsBad N m).getD k []).length ≤ 140737488355328 := by
  intro k hk
  rcases (show k = 0 ∨ k = 1 ∨ k = 2 ∨ k = 3 ∨ k = 4 ∨ k = 5 ∨ k = 6 ∨ k = 7 ∨ k = 8 ∨ k = 9 by omega) with rfl | rfl | rfl | rfl | rfl | rfl | rfl | rfl | rfl | rfl
  · exact ⟨by show ¬ OK [1, 1, 1]; decide, by show 3 ≤ _; omega⟩
  · exact ⟨by show ¬ OK [2, 2, 2]; decide, by show 3 ≤ _; omega⟩
  · exact ⟨by show ¬ OK [2]; decide, by show 1 ≤ _; omega⟩
  · exact ⟨by show ¬ OK [1, 2]; decide, by show 2 ≤ _; omega⟩
  · exact ⟨by show ¬ OK [3, 3]; decide, by show 2 ≤ _; omega⟩
  · exact ⟨by show ¬ OK [0, 15]; decide, by show 2 ≤ _; omega⟩
  · refine ⟨fun h => ?_, by show 1 ≤ _; omega⟩
    have := h.2.1 (N : Int) (by show (N : Int) ∈ [(N : Int)]; simp)
    omega
  · refine ⟨fun h => ?_, by show 1 ≤ _; omega⟩
    have := h.2.1 (-(N : Int)) (by show -(N : Int) ∈ [-(N : Int)]; simp)
    omega
  · have e : ((rowsBad N m).getD 8 []).length = m := by show (List.replicate m (0 : Int)).length = m; simp
    exact ⟨fun h => by have := h.1; omega, by omega⟩
  · exact ⟨by show ¬ OK [1, 0, 1, 15]; decide, by show 4 ≤ _; omega⟩

def valsBad (H m : Nat) : List Value := [.slice (some ⟨H, 0, none⟩) 3 3, .slice (some ⟨H + 1, 0, none⟩) 3 3, .slice (some ⟨H + 1 + 1, 0, none⟩) 1 1, .slice (some ⟨H + 1 + 1 + 1, 0, none⟩) 2 2, .slice (some ⟨H + 1 + 1 + 1 + 1, 0, none⟩) 2 2, .slice (some ⟨H + 1 + 1 + 1 + 1 + 1, 0, none⟩) 2 2, .slice (some ⟨H + 1 + 1 + 1 + 1 + 1 + 1, 0, none⟩) 1 1, .slice (some ⟨H + 1 + 1 + 1 + 1 + 1 + 1 + 1, 0, none⟩) 1 1, .slice (some ⟨H + 1 + 1 + 1 + 1 + 1 + 1 + 1 + 1, 0, none⟩) m m, .slice (some ⟨H + 1 + 1 + 1 + 1 + 1 + 1 + 1 + 1 + 1, 0, none⟩) 4 4]

theorem vals_bad (w : World) (N m k : Nat) (hk : k < 10) : Ints (lay w (rowsBad N m)) ((valsBad w.heap.size m).getD k undef) ((rowsBad N m).getD k []) := by
  rcases (show k = 0 ∨ k = 1 ∨ k = 2 ∨ k = 3 ∨ k = 4 ∨ k = 5 ∨ k = 6 ∨ k = 7 ∨ k = 8 ∨ k = 9 by omega) with rfl | rfl | rfl | rfl | rfl | rfl | rfl | rfl | rfl | rfl
  · exact lay_ints w (rowsBad N m) 0 _ rfl 3 rfl
  · exact lay_ints w (rowsBad N m) 1 _ rfl 3 rfl
  · exact lay_ints w (rowsBad N m) 2 _ rfl 1 rfl
  · exact lay_ints w (rowsBad N m) 3 _ rfl 2 rfl
  · exact lay_ints w (rowsBad N m) 4 _ rfl 2 rfl
  · exact lay_ints w (rowsBad N m) 5 _ rfl 2 rfl
  · exact lay_ints w (rowsBad N m) 6 _ rfl 1 rfl
  · exact lay_ints w (rowsBad N m) 7 _ rfl 1 rfl
  · exact lay_ints w (rowsBad N m) 8 _ rfl m (by show (List.replicate m (0 : Int)).length = m; simp)
  · exact lay_ints w (rowsBad N m) 9 _ rfl 4 rfl

theorem row_cell (w : World) (L : List Value) (t : TypeId) (k : Nat) (hk : k < L.length) : (w.alloc (.cells L.toArray t)).cell? ⟨w.heap.size, k, none⟩ = some (L.getD k undef) := by
  rw [cell_of_row _ _ k _ t (0, 0) (heap_alloc_new w _)]
  simp [hk]

def rowsGood : List (List Int) := [[0, 0, 0], [0, 1], [1], [1, 1], [2, 2, 1]]

def valsGood (H : Nat) : List Value := [.slice none 0 0, .slice (some ⟨H, 0, none⟩) 3 3, .slice (some ⟨H + 1, 0, none⟩) 2 2, .slice (some ⟨H + 1 + 1, 0, none⟩) 1 1, .slice (some ⟨H + 1 + 1 + 1, 0, none⟩) 2 2, .slice (some ⟨H + 1 + 1 + 1 + 1, 0, none⟩) 3 3]

theorem vals_good (w : World) (k : Nat) (hk : k < 6) : ∃ zs, OK zs ∧ Ints (lay w rowsGood) ((valsGood w.heap.size).getD k undef) zs := by
  rcases (show k = 0 ∨ k = 1 ∨ k = 2 ∨ k = 3 ∨ k = 4 ∨ k = 5 by omega) with rfl | rfl | rfl | rfl | rfl | rfl
  · exact ⟨[], by decide, ⟨none, 0, rfl, Nat.le_refl _, fun _ => rfl, fun a ha => by cases ha⟩⟩
  · exact ⟨[0, 0, 0], by decide, lay_ints w rowsGood 0 _ rfl 3 rfl⟩
  · exact ⟨[0, 1], by decide, lay_ints w rowsGood 1 _ rfl 2 rfl⟩
  · exact ⟨[1], by decide, lay_ints w rowsGood 2 _ rfl 1 rfl⟩
  · exact ⟨[1, 1], by decide, lay_ints w rowsGood 3 _ rfl 2 rfl⟩
  · exact ⟨[2, 2, 1], by decide, lay_ints w rowsGood 4 _ rfl 3 rfl⟩

set_option maxRecDepth 100000 in
set_option maxHeartbeats 4000000 in
theorem forms_law (w : World) (n : Int) :
    Calls Try.prog 3 #[.int .i64 n] w fun e w' => e = .returned (.bool true) ∧ Below w.heap.size w w' := by
  have hn := new_lit [3, 3, 3, 3, 3, 2, 4, 4] (by decide)
  have hi : Hid (Ints (w.alloc (.cells #[.int .i64 3, .int .i64 3, .int .i64 3, .int .i64 3, .int .i64 3, .int .i64 2, .int .i64 4, .int .i64 4] 3)) (.slice (some ⟨w.heap.size, 0, none⟩) 8 8) [3, 3, 3, 3, 3, 2, 4, 4]) := ints_lit w [3, 3, 3, 3, 3, 2, 4, 4]
  obtain ⟨n0, hn0, hwi⟩ := within_lit n 1000 1000 (by decide) rfl (by decide)
  obtain ⟨N, hN⟩ : ∃ N, N = 16 + n0 := ⟨_, rfl⟩
  obtain ⟨m, hm⟩ : ∃ m, m = 305 + N := ⟨_, rfl⟩
  have hNI : (16 : Int) + (n0 : Int) = (N : Int) := by omega
  have hmI : (305 : Int) + (N : Int) = (m : Int) := by omega
  have hmk := make_ints m (by omega)
  have HR : Hid (∀ k, k < 10 → ¬ OK ((rowsBad N m).getD k []) ∧ ((rowsBad N m).getD k []).length ≤ 140737488355328) := rows_bad N m (by omega) (by omega) (by omega)
  have hNl : N < 2000 := by omega
  have hml : m < 4000 := by omega
  clear hN hm
  have hwk := wakes_hid
  go_enter Try.func3, Try.ntmps3
  go_wp2_with (first
    | (go_at_call 8; (with_reducible refine (hn.out _ _ hi.out).mono ?_); rintro e w1 ⟨tb, rfl, ht, hb, hT⟩))
  have hT8 : Tab w1 tb l8 := hT
  have hb01 : Below w.heap.size w w1 := ((Below.refl _ w).alloc (Nat.le_refl _) _).trans (hb.mono (by simp))
  clear hT hb ht hi hn
  obtain ⟨W1, hW1⟩ : ∃ W1, W1 = w1.alloc (.cells #[.int .i64 2, .int .i64 3, .int .i64 4, .int .i64 5, .int .i64 6, .int .i64 0, .int .i64 14, .int .i64 15] 3) := ⟨_, rfl⟩
  have hi1 : Ints W1 (.slice (some ⟨w1.heap.size, 0, none⟩) 8 8) z8 := by rw [hW1]; exact ints_lit w1 z8
  have hb11 : Below w1.heap.size w1 W1 := by rw [hW1]; exact (Below.refl _ _).alloc (Nat.le_refl _) _
  have HT1 : Hid (Tab W1 tb l8) := hT8.old hb11
  have HB1 : Hid (Below w.heap.size w W1) := hb01.trans (hb11.mono hb01.size)
  obtain ⟨ao, cap, hao, -, -, hcl⟩ := hi1
  have hcl8 : Hid (∀ j, j < 8 → W1.cell? ⟨w1.heap.size, j, none⟩ = some (.int .i64 (z8.getD j 0))) := fun j hj => by
    have hadd : (⟨w1.heap.size, 0, none⟩ : Addr).add j = ⟨w1.heap.size, j, none⟩ := by unfold Addr.add; split <;> simp_all
    rw [← hadd]
    exact hcl _ (by cases hao; rfl) j hj
  rw [← hW1]
  clear hcl hao hW1 hb11 hT8 hb01
  obtain ⟨zb, hzb⟩ : ∃ zb, zb = w1.heap.size := ⟨_, rfl⟩
  rw [← hzb] at hcl8 ⊢
  clear hzb
  go_loopw [31] (fun i wr => ∃ k : Nat, k ≤ 8 ∧ i = .int .i64 (k : Int) ∧ Below W1.heap.size W1 wr) (fun i _ => 8 - (intOf i).toNat)
  case atStart => exact ⟨0, by omega, rfl, Below.refl _ _⟩
  case round =>
    obtain ⟨k, hk, rfl, hbr⟩ := hrel
    by_cases hk8 : k < 8
    · have hz := cell_old hbr (hcl8.out k hk8)
      have hco : Hid (Calls Try.prog 9 #[.pointer (some ⟨tb, 0, none⟩), .int .i64 (k : Int)] wr fun e w' => e = .returned (.tuple #[.int .i64 (code l8 k : Nat), .int .i64 (nth l8 k : Nat), .bool true]) ∧ ∃ q, w' = wr.drewN q) := tcode_has wr tb l8 k (HT1.out.old hbr) hk8 (l8_codes k hk8).2
      rw [(l8_codes k hk8).1] at hco
      obtain ⟨x, hx⟩ : ∃ x, x = z8.getD k 0 := ⟨_, rfl⟩
      obtain ⟨y, hy⟩ : ∃ y, y = nth l8 k := ⟨_, rfl⟩
      rw [← hx] at hz hco
      have hnew : ∀ wx : World, (wx.alloc (.cells #[.int .i64 3, .int .i64 3, .int .i64 3, .int .i64 3, .int .i64 3, .int .i64 2, .int .i64 4, .int .i64 4] 3)).cell? ⟨wx.heap.size, k, none⟩ = some (.int .i64 (y : Nat)) := fun wx => by
        rw [cell_of_row _ _ k _ 3 (0, 0) (heap_alloc_new wx _), hy]
        rcases (show k = 0 ∨ k = 1 ∨ k = 2 ∨ k = 3 ∨ k = 4 ∨ k = 5 ∨ k = 6 ∨ k = 7 by omega) with rfl | rfl | rfl | rfl | rfl | rfl | rfl | rfl <;> rfl
      rw [← hy] at hco
      clear hx hy
      go_wp2_with (first
        | (go_at_call 9; (with_reducible refine hco.out.mono ?_); rintro e wx ⟨rfl, q, hx⟩; have hbx : Below wr.heap.size wr wx := by { rw [hx]; exact below_drewN _ _ }; clear hx))
      go_roundw
      case rel => exact ⟨k + 1, by omega, by go_num, (hbr.trans (hbx.mono hbr.size)).alloc (Nat.le_trans hbr.size hbx.size) _⟩
      case measure => simp [intOf]; omega
    · have hkk : k = 8 := by omega
      subst hkk
      clear hcl8 HT1
      have hB2 : Below w.heap.size w wr := HB1.out.trans (hbr.mono HB1.out.size)
      clear hbr HB1
      go_wp2_with (first
        | (go_at_call 10; (with_reducible refine (hwi.out _).mono ?_); rintro e wx ⟨rfl, hx⟩; have hx := hx.symm; subst hx))
      obtain ⟨W2, hW2⟩ : ∃ W2, W2 = (lay wr (rowsBad N m)).alloc (.cells (valsBad wr.heap.size m).toArray 26) := ⟨_, rfl⟩
      change Code.wp Try.prog _ _ _ ((lay wr (rowsBad N m)).alloc (.cells (valsBad wr.heap.size m).toArray 26))
      rw [← hW2]
      obtain ⟨lb, hlb⟩ : ∃ lb, lb = wr.heap.size + 1 + 1 + 1 + 1 + 1 + 1 + 1 + 1 + 1 + 1 := ⟨_, rfl⟩
      rw [← hlb]
      have hls : (lay wr (rowsBad N m)).heap.size = lb := by rw [lay_size, hlb]; rfl
      have hbl : Below (lay wr (rowsBad N m)).heap.size (lay wr (rowsBad N m)) W2 := by rw [hW2]; exact (Below.refl _ _).alloc (Nat.le_refl _) _
      have HV : Hid (∀ k, k < 10 → Ints W2 ((valsBad wr.heap.size m).getD k undef) ((rowsBad N m).getD k [])) := fun k hk => (vals_bad wr N m k hk).old hbl
      have HC : Hid (∀ k, k < 10 → W2.cell? ⟨lb, k, none⟩ = some ((valsBad wr.heap.size m).getD k undef)) := fun k hk => by
        rw [hW2, ← hls]
        exact row_cell _ _ _ _ hk
      have HB2 : Hid (Below w.heap.size w W2) := (hB2.trans ((lay_below wr _).mono hB2.size)).trans (hbl.mono (by have := hB2.size; have := lay_size wr (rowsBad N m); omega))
      obtain ⟨vb, hvb⟩ : ∃ vb, vb = valsBad wr.heap.size m := ⟨_, rfl⟩
      rw [← hvb] at HV HC
      clear hW2 hlb hls hbl hvb hB2 hmk hNI hmI hwi
      go_loopw [79] (fun i wy => ∃ k : Nat, k ≤ 10 ∧ i = .int .i64 (k : Int) ∧ Below W2.heap.size W2 wy) (fun i _ => 10 - (intOf i).toNat)
      case atStart => exact ⟨0, by omega, rfl, Below.refl _ _⟩
      case round =>
        obtain ⟨k, hk, rfl, hbr⟩ := hrel
        by_cases hk10 : k < 10
        · have hz := cell_old hbr (HC.out k hk10)
          have hnw := (new_bad _ (HR.out k hk10).1 (HR.out k hk10).2).out _ _ ((HV.out k hk10).old hbr)
          obtain ⟨vk, hvk⟩ : ∃ vk, vk = vb.getD k undef := ⟨_, rfl⟩
          rw [← hvk] at hz hnw
          have HNW : Hid (Calls Try.prog 8 #[vk] _ fun e w' => e = .returned (.tuple #[.pointer none, .int .i64 2]) ∧ Below _ _ w') := hnw
          clear hvk hnw
          go_wp2_with (first
            | (go_at_call 8; (with_reducible refine HNW.out.mono ?_); rintro e wx ⟨rfl, hbx⟩))
          go_roundw
          case rel => exact ⟨k + 1, by omega, by go_num, hbr.trans (hbx.mono hbr.size)⟩
          case measure => simp [intOf]; omega
        · have hkk : k = 10 := by omega
          subst hkk
          have h10 : ((10 : Nat) : Int) = 10 := rfl
          rw [h10]
          clear h10
          have hB3 : Below w.heap.size w wr := HB2.out.trans (hbr.mono HB2.out.size)
          clear hbr HB2 HC HV HR
          go_wp2
          obtain ⟨W3, hW3⟩ : ∃ W3, W3 = (lay wr rowsGood).alloc (.cells (valsGood wr.heap.size).toArray 26) := ⟨_, rfl⟩
          change Code.wp Try.prog _ _ _ ((lay wr rowsGood).alloc (.cells (valsGood wr.heap.size).toArray 26))
          rw [← hW3]
          obtain ⟨gb, hgb⟩ : ∃ gb, gb = wr.heap.size + 1 + 1 + 1 + 1 + 1 := ⟨_, rfl⟩
          rw [← hgb]
          have hls : (lay wr rowsGood).heap.size = gb := by rw [lay_size, hgb]; rfl
          have hbl : Below (lay wr rowsGood).heap.size (lay wr rowsGood) W3 := by rw [hW3]; exact (Below.refl _ _).alloc (Nat.le_refl _) _
          have HV : Hid (∀ k, k < 6 → ∃ zs, OK zs ∧ Ints W3 ((valsGood wr.heap.size).getD k undef) zs) := fun k hk => by
            obtain ⟨zs, h1, h2⟩ := vals_good wr k hk
            exact ⟨zs, h1, h2.old hbl⟩
          have HC : Hid (∀ k, k < 6 → W3.cell? ⟨gb, k, none⟩ = some ((valsGood wr.heap.size).getD k undef)) := fun k hk => by
            rw [hW3, ← hls]
            exact row_cell _ _ _ _ hk
          have HB3 : Hid (Below w.heap.size w W3) := (hB3.trans ((lay_below wr _).mono hB3.size)).trans (hbl.mono (by have := hB3.size; have := lay_size wr rowsGood; omega))
          obtain ⟨vg, hvg⟩ : ∃ vg, vg = valsGood wr.heap.size := ⟨_, rfl⟩
          rw [← hvg] at HV HC
          clear hW3 hgb hls hbl hvg hB3
          go_loopw [102] (fun i wy => ∃ k : Nat, k ≤ 6 ∧ i = .int .i64 (k : Int) ∧ Below W3.heap.size W3 wy) (fun i _ => 6 - (intOf i).toNat)
          case atStart => exact ⟨0, by omega, rfl, Below.refl _ _⟩
          case round =>
            obtain ⟨k, hk, rfl, hbr⟩ := hrel
            by_cases hk6 : k < 6
            · have hz := cell_old hbr (HC.out k hk6)
              obtain ⟨zs, hok, hin⟩ := HV.out k hk6
              have hnw := (new_lit zs hok).out _ _ (hin.old hbr)
              obtain ⟨vk, hvk⟩ : ∃ vk, vk = vg.getD k undef := ⟨_, rfl⟩
              rw [← hvk] at hz hnw
              have HNW : Hid (Calls Try.prog 8 #[vk] wr fun e w' => ∃ tb, e = .returned (.tuple #[.pointer (some ⟨tb, 0, none⟩), .int .i64 0]) ∧ wr.heap.size ≤ tb ∧ Below wr.heap.size wr w' ∧ Tab w' tb (zs.map Int.toNat)) := hnw
              clear hvk hnw hin hok
              go_wp2_with (first
                | (go_at_call 8; (with_reducible refine HNW.out.mono ?_); rintro e wx ⟨tb2, rfl, -, hbx, -⟩))
              go_roundw
              case rel => exact ⟨k + 1, by omega, by go_num, hbr.trans (hbx.mono hbr.size)⟩
              case measure => simp [intOf]; omega
            · have hkk : k = 6 := by omega
              subst hkk
              have hB4 : Below w.heap.size w wr := HB3.out.trans (hbr.mono HB3.out.size)
              go_wp2_with (first
                | (go_at_call 11; (with_reducible refine (hwk.out _).mono ?_); rintro e wx ⟨rfl, hbx⟩))
              go_ret
              exact ⟨rfl, hB4.trans (hbx.mono hB4.size)⟩
end Go.Proofs.Ythkkahpfbgopjaa
