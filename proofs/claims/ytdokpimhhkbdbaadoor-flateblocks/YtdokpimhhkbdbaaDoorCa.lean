/-
  Rows of 16 counts (cells16), huff.count: how many codes there are of each length.
-/
import Derived.Test.YtdokpimhhkbdbaaDoorHm
import Derived.Test.YtdokpimhhkbdbaaDoorBa
import Derived.Test.YtdokpimhhkbdbaaDoorBb
import Derived.Deep.WholeRow
import Derived.Laws.ResultCell
set_option linter.unusedSimpArgs false
set_option linter.unusedVariables false
namespace Go.Proofs.YtdokpimhhkbdbaaDoor
open Go.RowKit

def natV (n : Nat) : Value := .int .i64 (n : Int)
def cells16 (f : Nat → Nat) : Array Value := ((List.range 16).map (fun j => natV (f j))).toArray

theorem cells16_size (f : Nat → Nat) : (cells16 f).size = 16 := by simp [cells16]
theorem cells16_get (f : Nat → Nat) (n : Nat) (hn : n < 16) : (cells16 f)[n]? = some (natV (f n)) := by simp [cells16, hn]
theorem cells16_one (f : Nat → Nat) : (cells16 f).all (·.oneCell') = true := by
  rw [Array.all_eq_true_iff_forall_mem]
  intro x hx
  simp only [cells16, List.mem_toArray, List.mem_map] at hx
  obtain ⟨j, _, rfl⟩ := hx
  rfl
theorem cells16_set (f : Nat → Nat) (n y : Nat) : (cells16 f).setIfInBounds n (natV y) = cells16 (fun j => if j = n then y else f j) := by
  apply Array.ext_getElem?
  intro j
  rw [Array.getElem?_setIfInBounds]
  by_cases hj : j < 16
  · rw [cells16_get _ _ hj]
    by_cases h : n = j
    · subst h; rw [if_pos rfl, cells16_get _ _ hj]; simp [hj, cells16_size]
    · have : ¬ j = n := fun e => h e.symm
      simp [h, this, cells16_get _ _ hj]
  · have h1 : ∀ g, (cells16 g)[j]? = none := fun g => Array.getElem?_eq_none (by rw [cells16_size]; omega)
    rw [h1, h1]
    split <;> simp [cells16_size]; omega

abbrev May (zs : List Int) : Prop := ∀ x ∈ zs, 0 ≤ x ∧ x ≤ 15

theorem cn_take (l : List Nat) (k n : Nat) (hk : k < l.length) : cn (l.take (k + 1)) n = if n = nth l k ∧ n ≠ 0 then cn (l.take k) n + 1 else cn (l.take k) n := by
  unfold cn
  by_cases h : n = 0
  · simp [h]
  · simp only [h, ↓reduceIte, ne_eq, not_false_eq_true, and_true]
    have := rank_succ (l := l) (i := k) n hk
    unfold rank at this
    rw [this]
    by_cases h2 : n = nth l k
    · simp [h2]
    · have : ¬ nth l k = n := fun e => h2 e.symm
      simp [h2, this]

theorem nth_map (zs : List Int) (k : Nat) : nth (zs.map Int.toNat) k = (zs.getD k 0).toNat := by
  unfold nth
  by_cases h : k < zs.length
  · simp [h]
  · simp [List.getElem?_eq_none (Nat.le_of_not_lt h)]

theorem Tryd.info61 : (Tryd.prog.info? 98).map (·.size) = some 16 := by kernel_rfl
theorem Tryd.under61 : Tryd.prog.underlying 98 = some (.array 16 3) := by kernel_rfl

theorem below_setRow {B g : Nat} {w w' : World} (h : Below B w w') (hg : B ≤ g) (cs : Array Value) : Below B w (w'.setRow g cs) :=
  ⟨h.os, h.tape, h.output, by simpa [World.setRow] using h.size, fun k hk => by rw [setRow_other _ _ _ _ (by omega)]; exact h.block k hk⟩

theorem ret27 (tmps : Array Value) (w : World) (B : Nat) (c : Array Value) (b : Bool) (h0 : tmps.getD 2 undef = .pointer (some ⟨B, 0, none⟩)) (h1 : tmps.getD 3 undef = .bool b) (hh : w.heap[B]? = some (.cells c 98 (0, 0))) (hs : c.size = 16) :
    (results Tryd.f73 tmps).run Tryd.prog w = .ok (.tuple #[.agg c, .bool b]) w := by
  rw [results_cell_tmp rfl, h0, h1]
  simp only [asAddr, Sem.run_pure, Result.andThen_ok, run_loadVar_row w B 98 98 c (0, 0) _ hh Tryd.under61 rfl (by rw [hs]; exact Tryd.info61)]

set_option maxHeartbeats 1000000 in
theorem count_walk (w : World) (v : Value) (zs : List Int) (hv : Ints w v zs) (hl : zs.length ≤ 320) :
    Calls Tryd.prog 73 #[v] w fun e w' => Below w.heap.size w w' ∧ ((May zs ∧ e = .returned (.tuple #[.agg (cells16 (cn (zs.map Int.toNat))), .bool true])) ∨ (¬ May zs ∧ e = .returned (.tuple #[.agg (cells16 (fun _ => 0)), .bool false]))) := by
  obtain ⟨ao, cap, rfl, h2, h3, h4⟩ := hv
  obtain ⟨N, hN⟩ : ∃ N, N = zs.length := ⟨_, rfl⟩
  rw [← hN] at h2 h4 hl ⊢
  have HN : Hid (N = zs.length) := hN
  clear hN
  obtain ⟨B, hB⟩ : ∃ B, B = w.heap.size := ⟨_, rfl⟩
  go_enter Tryd.func73, Tryd.ntmps73
  go_wp2
  have h0' : (w.alloc (.cells (cells16 (fun _ => 0)) 98)).heap[B]? = some (.cells (cells16 (fun _ => 0)) 98 (0, 0)) := by rw [hB]; exact heap_alloc_new w _
  have h0b : Below B w (w.alloc (.cells (cells16 (fun _ => 0)) 98)) := by rw [hB]; exact (Below.refl _ _).alloc (Nat.le_refl _) _
  rw [← hB]
  have HB : Hid (B = w.heap.size) := hB
  clear hB
  go_loopw [8] (fun i wr => ∃ k : Nat, k ≤ N ∧ i = .int .i64 k ∧ Hid (wr.heap[B]? = some (.cells (cells16 (cn ((zs.map Int.toNat).take k))) 98 (0, 0))) ∧ Below B w wr ∧ Hid (∀ j, j < k → 0 ≤ zs.getD j 0 ∧ zs.getD j 0 ≤ 15)) (fun i _ => N - (intOf i).toNat)
  case atStart =>
    have e : cells16 (cn ((zs.map Int.toNat).take 0)) = cells16 (fun _ => 0) := by
      congr 1
      funext n
      simp [cn]
    exact ⟨0, by omega, rfl, by rw [e]; exact h0', h0b, fun j hj => by omega⟩
  case round =>
    obtain ⟨k, hk, rfl, hh, hb, hall⟩ := hrel
    clear h0' h0b
    have hz := free_at hh.out
    by_cases hkn : k < N
    · obtain ⟨A, rfl⟩ : ∃ A, ao = some A := by
        cases ao with
        | none => have := h3 rfl; omega
        | some A => exact ⟨A, rfl⟩
      have hc := cell_old (HB.out ▸ hb) (h4 A rfl k hkn)
      obtain ⟨x, hx⟩ : ∃ x, x = zs.getD k 0 := ⟨_, rfl⟩
      rw [← hx] at hc
      have HX : Hid (x = zs.getD k 0) := hx
      clear hx
      have hkl : k < (zs.map Int.toNat).length := by rw [List.length_map, ← HN.out]; exact hkn
      by_cases hm : 0 ≤ x ∧ x ≤ 15
      · obtain ⟨n, rfl⟩ := Int.eq_ofNat_of_zero_le hm.1
        have hn15 : n ≤ 15 := by omega
        clear hm
        have hall' : Hid (∀ j, j < k + 1 → 0 ≤ zs.getD j 0 ∧ zs.getD j 0 ≤ 15) := fun j hj => by
          rcases (show j < k ∨ j = k by omega) with h | rfl
          · exact hall.out j h
          · rw [← HX.out]; omega
        have hnth : Hid (nth (zs.map Int.toNat) k = n) := by show nth _ _ = _; rw [nth_map, ← HX.out]; rfl
        by_cases h0 : 0 < n
        · have hcell : wr.cell? ⟨B, n, none⟩ = some (.int .i64 ((cn ((zs.map Int.toNat).take k) n : Nat) : Int)) := by
            rw [cell_of_row _ _ n _ _ _ hh.out, cells16_get _ _ (by omega)]; rfl
          have hzn := hz n
          have hcl : cn ((zs.map Int.toNat).take k) n ≤ 320 := by
            have := cn_le (l := (zs.map Int.toNat).take k) n
            rw [List.length_take] at this
            omega
          have hix : 0 ≤ (n : Int) ∧ (n : Int) ≤ 15 := by omega
          obtain ⟨y, hy⟩ : ∃ y, y = cn ((zs.map Int.toNat).take k) n := ⟨_, rfl⟩
          rw [← hy] at hcell hcl
          have HY : Hid (y = cn ((zs.map Int.toNat).take k) n) := hy
          have HK : Hid (k < (zs.map Int.toNat).length) := hkl
          clear hy hz hkl
          go_wp2
          go_roundw
          case rel =>
            refine ⟨k + 1, by omega, by go_num, ?_, hb.setCell (p := ⟨B, n, none⟩) (Nat.le_refl _) _, hall'⟩
            have e := row_setCell hh.out n (natV (y + 1))
            rw [cells16_set] at e
            have e2 : (fun j => if j = n then y + 1 else cn ((zs.map Int.toNat).take k) j) = cn ((zs.map Int.toNat).take (k + 1)) := by
              funext j
              rw [cn_take _ _ _ HK.out, hnth.out]
              by_cases hj : j = n
              · subst hj
                have : j ≠ 0 := by omega
                simp [this, HY.out]
              · simp [hj]
            rw [e2] at e
            exact e
          case measure => simp [intOf]; omega
        · obtain rfl : n = 0 := by omega
          have HK : Hid (k < (zs.map Int.toNat).length) := hkl
          clear hz hkl
          go_wp2
          go_roundw
          case rel =>
            refine ⟨k + 1, by omega, by go_num, ?_, hb, hall'⟩
            have e2 : cn ((zs.map Int.toNat).take k) = cn ((zs.map Int.toNat).take (k + 1)) := by
              funext j
              rw [cn_take _ _ _ HK.out, hnth.out]
              by_cases hj : j = 0
              · simp [hj]
              · simp [hj]
            rw [← e2]
            exact hh
          case measure => simp [intOf]; omega
      · have hbad : ¬ May zs := fun hM => hm (by
          rw [HX.out]
          have h1 : k < zs.length := by rw [← HN.out]; exact hkn
          have := hM (zs[k]) (List.getElem_mem h1)
          simpa [h1] using this)
        have HBAD : Hid (¬ May zs) := hbad
        have hxx : x < 0 ∨ 15 < x := by omega
        clear hbad hm hz
        rcases hxx with hx0 | hx15
        all_goals
          go_wp2_with (refine wpList_store_row rfl 98 (.tmp 2) (.tmp 18) rfl B (cells16 (fun _ => 0)) rfl rfl 98 _ hh.out (by rw [cells16_size]; exact Tryd.info61) (by rw [cells16_size, cells16_size]) (cells16_one _) ?_)
          exact bodyPost_ret (v := .tuple #[.agg (cells16 (fun _ => 0)), .bool false]) (ret27 _ _ B _ _ rfl rfl (setRow_heap _ _ _ _ _ _ hh.out) (cells16_size _)) rfl ⟨HB.out ▸ below_setRow hb (Nat.le_refl _) _, .inr ⟨HBAD.out, rfl⟩⟩
    · have hkk : k = N := by omega
      subst hkk
      have hM : May zs := fun x hx => by
        obtain ⟨j, hj, rfl⟩ := List.getElem_of_mem hx
        have := hall.out j (by rw [HN.out]; exact hj)
        simpa [hj] using this
      have e : (zs.map Int.toNat).take k = zs.map Int.toNat := List.take_of_length_le (by rw [List.length_map, HN.out]; exact Nat.le_refl _)
      rw [e] at hh
      clear hz e
      have HM : Hid (May zs) := hM
      clear hM
      go_wp2_with (first
        | (refine wpList_load_row rfl 98 (.tmp 2) rfl B rfl 98 (cells16 (cn (zs.map Int.toNat))) (0, 0) _ hh.out Tryd.under61 rfl (by rw [cells16_size]; exact Tryd.info61) ?_)
        | (refine wpList_store_row rfl 98 (.tmp 2) (.tmp 27) rfl B (cells16 (cn (zs.map Int.toNat))) rfl rfl 98 _ hh.out (by rw [cells16_size]; exact Tryd.info61) (by rw [cells16_size]) (cells16_one _) ?_))
      exact bodyPost_ret (v := .tuple #[.agg (cells16 (cn (zs.map Int.toNat))), .bool true]) (ret27 _ _ B _ _ rfl rfl (setRow_heap _ _ _ _ _ _ hh.out) (cells16_size _)) rfl ⟨HB.out ▸ below_setRow hb (Nat.le_refl _) _, .inl ⟨HM.out, rfl⟩⟩
end Go.Proofs.YtdokpimhhkbdbaaDoor
