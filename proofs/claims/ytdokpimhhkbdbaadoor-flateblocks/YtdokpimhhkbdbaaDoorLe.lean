/-
  Lend and Intact.
-/
import Derived.Test.YtdokpimhhkbdbaaDoorBb
import Derived.Laws.CopyOwn
set_option linter.unusedSimpArgs false
set_option linter.unusedVariables false
namespace Go.Proofs.YtdokpimhhkbdbaaDoor
open Go.RowKit

theorem made (n : Nat) (hn : n ≤ 140737488351232) (wx : World) :
    (Instr.makeSlice 22 (.int .i64 (n : Int)) (.int .i64 ((n : Int) + 3))).run Tryd.prog wx = .ok (.slice (some ⟨wx.heap.size, 0, none⟩) n (n + 3)) (wx.alloc (.cells (List.replicate (n + 3) (byteV 0)).toArray 5)) := by
  obtain ⟨i, hi, hz0, hz1, hz2⟩ := info_parts Tryd.info5
  have h := run_make (P := Tryd.prog) wx 22 5 i (.int .u8 0) Tryd.underlying25 hi hz0 .i64 .i64 (n : Int) ((n : Int) + 3) (by omega) (by omega) (by rw [hz2]; omega) (by omega)
  rw [h, hz1]
  have e1 : ((n : Int) + 3).toNat = n + 3 := by omega
  have e2 : (n : Int).toNat = n := by omega
  have e3 : madeCells (Value.int .u8 0).cells ((n + 3) * 1) = (List.replicate (n + 3) (byteV 0)).toArray := by
    apply Array.toList_inj.1
    rw [show (Value.int .u8 0).cells = #[Value.int .u8 0] from rfl, toList_madeCells_one]
    simp [byteV]
  rw [e1, e2, e3]

theorem Tryd.size5 : (Tryd.prog.info? 5).map (·.size) = some 1 := by kernel_rfl

/-- Lent bytes: with three of their own behind them. -/
def Lent (w : World) (g : Nat) (bs : List Nat) : Prop := w.ownsRow 0 5 1 (.slice (some ⟨g, 0, none⟩) (bs.length + 3) (bs.length + 3)) (bs.length + 3) (bs.map byteV ++ [byteV 85, byteV 85, byteV 85])

theorem Lent.lies {w : World} {g : Nat} {bs : List Nat} (h : Lent w g bs) : Lies w (.slice (some ⟨g, 0, none⟩) bs.length (bs.length + 3)) bs := by
  refine ⟨_, _, rfl, by omega, fun h => (by cases h), fun a ha j u hu => ?_⟩
  cases ha
  have hj : j < bs.length := by
    rcases Nat.lt_or_ge j bs.length with h' | h'
    · exact h'
    · rw [List.getElem?_eq_none (by simpa using h')] at hu; cases hu
  have := h.cells (g := g) rfl j u (by rw [List.getElem?_append_left (by simpa using hj)]; exact hu)
  exact this

set_option maxRecDepth 100000 in
set_option maxHeartbeats 1000000 in
theorem lend_walk (w : World) (v : Value) (bs : List Nat) (hv : Lies w v bs) (hl : bs.length ≤ 140737488351232) :
    Calls Tryd.prog 23 #[v] w fun e w' => ∃ g, e = .returned (.slice (some ⟨g, 0, none⟩) bs.length (bs.length + 3)) ∧ Lent w' g bs ∧ Below w.heap.size w w' ∧ w.heap.size ≤ g := by
  obtain ⟨ao, cap, rfl, h2, h3, h4⟩ := hv
  have hmk := made bs.length hl
  have hpos : Hid (0 < (bs.map byteV).length → some (⟨w.heap.size, 0, none⟩ : Addr) = some ⟨w.heap.size, 0, none⟩ ∧ ∃ ad, ao = some ad ∧ ∀ j v, (bs.map byteV)[j]? = some v → (w.alloc (.cells (List.replicate (bs.length + 3) (byteV 0)).toArray 5)).cell? (ad.add j) = some v) := by
    intro h
    refine ⟨rfl, ?_⟩
    cases ao with
    | none => have := h3 rfl; simp at h; omega
    | some a => exact ⟨a, rfl, fun j v hv => cell_old ((Below.refl _ w).alloc (Nat.le_refl _) _) (h4 a rfl j v hv)⟩
  clear h3 h4
  go_enter Tryd.func23, Tryd.ntmps23
  go_wp2_with (refine wpList_copy_splice rfl (.tmp 12) (.tmp 13) 22 22 rfl 5 Tryd.underlying25 Tryd.size5 (some ⟨w.heap.size, 0, none⟩) ao bs.length (bs.length + 3) bs.length cap rfl rfl w.heap.size 0 (List.replicate (bs.length + 3) (byteV 0)) 5 (heap_alloc_new w _) (bs.map byteV) (by simp) hpos.out (by simp) (bytes_one bs) w.heap.size w ((Below.refl _ w).alloc (Nat.le_refl _) _) (Nat.le_refl _) ?_)
  intro w2 HG hb2
  have hz : splice (List.replicate (bs.length + 3) (byteV 0)) 0 (bs.map byteV) = bs.map byteV ++ [byteV 0, byteV 0, byteV 0] := by
    have : bs.length + 3 - bs.length = 3 := by omega
    unfold splice
    rw [List.take_zero, List.nil_append, Nat.zero_add, List.length_map, List.drop_replicate, this]
    rfl
  have hown : w2.ownsRow 0 5 1 (.slice (some ⟨w.heap.size, 0, none⟩) (bs.length + 3) (bs.length + 3)) (bs.length + 3) (bs.map byteV ++ [byteV 0, byteV 0, byteV 0]) := by
    rw [hz] at HG
    refine ⟨by simp, .inr ⟨_, _, _, rfl, Nat.zero_le _, HG.out, Nat.le_refl _, by unfold maxLen; omega, by simp, ?_⟩⟩
    rw [List.take_of_length_le (by simp)]
  have hc : ∀ k, k < 3 → w2.cell? ⟨w.heap.size, bs.length + k, none⟩ = some (byteV 0) := by
    intro k hk
    rw [hown.cellAt _ (by omega), List.getElem?_append_right (by simp), List.length_map, Nat.add_sub_cancel_left]
    match k, hk with
    | 0, _ => rfl
    | 1, _ => rfl
    | 2, _ => rfl
  have hc0 := hc 0 (by omega)
  have hc1 := hc 1 (by omega)
  have hc2 := hc 2 (by omega)
  have hf0 := hown.frozenAt bs.length
  have hf1 := hown.frozenAt (bs.length + 1)
  have hf2 := hown.frozenAt (bs.length + 2)
  rw [Nat.add_zero] at hc0
  clear hc hpos hmk HG hz
  go_wp2
  refine wp_loop_rounds 4 ?_
  rw [rounds_succ]
  go_wp2
  rw [rounds_succ]
  go_wp2
  rw [rounds_succ]
  go_wp2
  rw [rounds_succ]
  go_wp2
  go_ret
  refine ⟨w.heap.size, rfl, ?_, ((hb2.setCell (p := ⟨w.heap.size, _, none⟩) (Nat.le_refl _) _).setCell (p := ⟨w.heap.size, _, none⟩) (Nat.le_refl _) _).setCell (p := ⟨w.heap.size, _, none⟩) (Nat.le_refl _) _, Nat.le_refl _⟩
  have o1 := (hown.stored bs.length (.int .u8 85)).1
  have o2 := (o1.stored (bs.length + 1) (.int .u8 85)).1
  have o3 := (o2.stored (bs.length + 2) (.int .u8 85)).1
  have e : (((bs.map byteV ++ [byteV 0, byteV 0, byteV 0]).set bs.length (.int .u8 85)).set (bs.length + 1) (.int .u8 85)).set (bs.length + 2) (.int .u8 85) = bs.map byteV ++ [byteV 85, byteV 85, byteV 85] := by
    have hl : (bs.map byteV).length = bs.length := by simp
    generalize bs.map byteV = xs at *
    rw [← hl]
    simp [List.set_append]
    rfl
  rw [e] at o3
  exact o3

theorem Lent.at {w : World} {g : Nat} {bs : List Nat} (h : Lent w g bs) (k : Nat) (hk : k < bs.length + 3) : w.cell? ⟨g, k, none⟩ = some (.int .u8 (((bs ++ [85, 85, 85]).getD k 0 : Nat) : Int)) := by
  rw [h.cellAt k (by omega)]
  have e : bs.map byteV ++ [byteV 85, byteV 85, byteV 85] = (bs ++ [85, 85, 85]).map byteV := by simp
  rw [e]
  have : k < (bs ++ [85, 85, 85]).length := by simp; omega
  rw [List.getElem?_map, List.getElem?_eq_getElem this, List.getD_eq_getElem?_getD, List.getElem?_eq_getElem this]
  rfl

set_option maxRecDepth 100000 in
set_option maxHeartbeats 1000000 in
theorem intact_walk (w : World) (g : Nat) (v : Value) (bs : List Nat) (h : Lent w g bs) (hv : Lies w v bs) (hl : bs.length ≤ 140737488351232) :
    Calls Tryd.prog 29 #[.slice (some ⟨g, 0, none⟩) bs.length (bs.length + 3), v] w fun e w' => e = .returned (.bool true) ∧ Below w.heap.size w w' := by
  have hv0 := hv
  obtain ⟨ao, cap, rfl, h2, h3, h4⟩ := hv
  obtain ⟨n, hn⟩ : ∃ n, n = bs.length := ⟨_, rfl⟩
  have hca : ∀ k, k < n + 3 → w.cell? ⟨g, k, none⟩ = some (.int .u8 (((bs ++ [85, 85, 85]).getD k 0 : Nat) : Int)) := fun k hk => h.at k (by omega)
  have hcb : ∀ a, ao = some a → ∀ k, k < n → w.cell? (a.add k) = some (.int .u8 (((bs ++ [85, 85, 85]).getD k 0 : Nat) : Int)) := by
    intro a ha k hk
    have hk2 : k < bs.length := by omega
    refine h4 a ha k _ ?_
    rw [List.getElem?_map, List.getElem?_eq_getElem hk2, List.getD_eq_getElem?_getD, List.getElem?_append_left hk2, List.getElem?_eq_getElem hk2]
    rfl
  have hlate : ∀ k, n ≤ k → k < n + 3 → (bs ++ [85, 85, 85]).getD k 0 = 85 := by
    intro k hk hk2
    rw [List.getD_eq_getElem?_getD, List.getElem?_append_right (by omega), ← hn]
    rcases (show k - n = 0 ∨ k - n = 1 ∨ k - n = 2 by omega) with e | e | e <;> rw [e] <;> rfl
  rw [← hn] at h2 hl ⊢
  have HN : Hid (n = bs.length) := hn
  clear hn h4 hv0 h
  go_enter Tryd.func29, Tryd.ntmps29
  go_wp2
  go_loopw [27] (fun i wr => ∃ k : Nat, k ≤ n + 3 ∧ i = .int .i64 k ∧ Below w.heap.size w wr) (fun i _ => n + 3 - (intOf i).toNat)
  case atStart => exact ⟨0, by omega, rfl, Below.refl _ _⟩
  case round =>
    obtain ⟨k, hk, rfl, hb⟩ := hrel
    by_cases hkn : k < n + 3
    · have c1 := cell_old hb (hca k hkn)
      by_cases hlt : k < n
      · obtain ⟨a, rfl⟩ : ∃ a, ao = some a := by
          cases ao with
          | none => have := h3 rfl; omega
          | some a => exact ⟨a, rfl⟩
        have c2 := cell_old hb (hcb a rfl k hlt)
        obtain ⟨x, hx⟩ : ∃ x, x = (bs ++ [85, 85, 85]).getD k 0 := ⟨_, rfl⟩
        rw [← hx] at c1 c2
        clear hx hca hcb hlate
        have d1 : (k : Int) < (n : Int) := by omega
        have d2 : decide ((n : Int) ≤ (k : Int)) = false := by simp; omega
        have d4 : decide (n ≤ k) = false := by simp; omega
        have d3 : (0 : Int) ≤ (k : Int) ∧ (k : Int) < (n : Int) + 3 := by omega
        go_wp2
        go_quiet (fail)
        go_wp2
        go_roundw
        case rel => exact ⟨k + 1, by omega, by go_num, hb.trans ⟨rfl, rfl, rfl, Nat.le_refl _, fun _ _ => rfl⟩⟩
        case measure => simp [intOf]; omega
      · rw [hlate k (by omega) hkn] at c1
        clear hca hcb hlate
        have d1 : decide ((k : Int) < (n : Int)) = false := by simp; omega
        have d2 : (n : Int) ≤ (k : Int) := by omega
        have d3 : (0 : Int) ≤ (k : Int) ∧ (k : Int) < (n : Int) + 3 := by omega
        go_wp2
        go_quiet (fail)
        go_wp2
        go_roundw
        case rel => exact ⟨k + 1, by omega, by go_num, hb.trans ⟨rfl, rfl, rfl, Nat.le_refl _, fun _ _ => rfl⟩⟩
        case measure => simp [intOf]; omega
    · have hkk : n + 3 = k := by omega
      subst hkk
      go_wp2
      go_ret
      exact ⟨rfl, hb⟩
end Go.Proofs.YtdokpimhhkbdbaaDoor
