/-
  FlateForms: its walk.
-/
import Derived.Test.YtdokpimhhkbdbaaDoorVc
import Derived.Laws.BytesArg
set_option linter.unusedSimpArgs false
set_option linter.unusedVariables false
namespace Go.Proofs.YtdokpimhhkbdbaaDoor.Q
open Go.RowKit

/-- Rows of bytes that a law writes out. -/
def layB (w : World) : List (List Nat) → World
  | [] => w
  | l :: L => layB (w.alloc (.cells (l.map byteV).toArray 5)) L

theorem layB_cons (w : World) (l : List Nat) (L : List (List Nat)) : layB w (l :: L) = layB (w.alloc (.cells (l.map byteV).toArray 5)) L := rfl

theorem layB_size (w : World) (L : List (List Nat)) : (layB w L).heap.size = w.heap.size + L.length := by
  induction L generalizing w with
  | nil => rfl
  | cons l L ih => rw [layB_cons, ih]; simp; omega

theorem layB_below (w : World) (L : List (List Nat)) : Below w.heap.size w (layB w L) := by
  induction L generalizing w with
  | nil => exact Below.refl _ _
  | cons l L ih =>
    have h1 : Below w.heap.size w (w.alloc (.cells (l.map byteV).toArray 5)) := (Below.refl _ _).alloc (Nat.le_refl _) _
    exact h1.trans ((ih _).mono (by simp))

theorem layB_lies (w : World) (L : List (List Nat)) (j : Nat) (l : List Nat) (hj : L[j]? = some l) (n : Nat) (hn : l.length = n) : Lies (layB w L) (.slice (some ⟨w.heap.size + j, 0, none⟩) n n) l := by
  subst hn
  induction L generalizing w j with
  | nil => simp at hj
  | cons m L ih =>
    rw [layB_cons]
    cases j with
    | zero =>
      simp at hj
      subst hj
      exact (lies_lit w m _ rfl).old (layB_below _ _)
    | succ j =>
      have := ih (w.alloc (.cells (m.map byteV).toArray 5)) j (by simpa using hj)
      have e : (w.alloc (.cells (m.map byteV).toArray 5)).heap.size + j = w.heap.size + (j + 1) := by simp; omega
      rw [e] at this
      exact this

theorem Tryd.under9 : Tryd.prog.underlying 9 = some .string := by kernel_rfl

/-- string(y). -/
theorem conv_str {w : World} {B : Nat} {v : Value} {o : List Nat} (h : w.ownsRow B 5 1 v o.length (o.map byteV)) : (convert 22 9 v).run Tryd.prog w = .ok (.string (strOfNums (o.map Int.ofNat))) w := by
  have h0 := h
  rcases h.2 with ⟨rfl, hn⟩ | ⟨g, cap, cur, rfl, _⟩
  · have : o = [] := List.length_eq_zero_iff.1 hn
    subst this
    exact run_convert_bytes_nil w 22 5 Lz.Tryd.underlying23 Tryd.underlying5 0 0 9 Tryd.under9
  · refine run_convert_bytes_arg w 22 5 Lz.Tryd.underlying23 Tryd.underlying5 g 0 o.length cap (o.map Int.ofNat) (by simp) (fun i hi => ?_) 9 Tryd.under9
    rw [Nat.zero_add, h0.cellAt i (by omega)]
    simp [hi, byteV]

abbrev rowsA : List (List Nat) := [[3, 0], [75, 76, 74, 6, 0], [1, 2, 0, 253, 255, 104, 105], [0, 1, 0, 254, 255, 104, 1, 1, 0, 254, 255, 105]]
abbrev cellsA (P : Nat) : Array Value := #[.slice (some ⟨P, 0, none⟩) 2 2, .string ⟨#[]⟩, .slice (some ⟨P + 1, 0, none⟩) 5 5, .string ⟨#[97, 98, 99]⟩, .slice (some ⟨P + 2, 0, none⟩) 7 7, .string ⟨#[104, 105]⟩, .slice (some ⟨P + 3, 0, none⟩) 12 12, .string ⟨#[104, 105]⟩]

/-- The first table: each of its rows. -/
theorem tabA (w : World) (P : Nat) (hP : P = w.heap.size) (k : Nat) (hk : k < 4) : ∃ (ao : Option Addr) (ln cp : Nat) (S : ByteArray) (bs o : List Nat), ((layB w rowsA).alloc (.cells (cellsA P) 23)).cell? ⟨P + 4, k * 2, none⟩ = some (.slice ao ln cp) ∧ ((layB w rowsA).alloc (.cells (cellsA P) 23)).cell? ⟨P + 4, k * 2 + 1, none⟩ = some (.string S) ∧
    Lies ((layB w rowsA).alloc (.cells (cellsA P) 23)) (.slice ao ln cp) bs ∧ unp bs = .ok o ∧ Small bs ∧ bs.length ≤ 100 ∧ S = strOfNums (o.map Int.ofNat) := by
  subst hP
  have hsz : (layB w rowsA).heap.size = w.heap.size + 4 := layB_size w _
  have hT : ((layB w rowsA).alloc (.cells (cellsA w.heap.size) 23)).heap[w.heap.size + 4]? = some (.cells (cellsA w.heap.size) 23 (0, 0)) := by rw [← hsz]; exact heap_alloc_new _ _
  have hb : Below (layB w rowsA).heap.size (layB w rowsA) ((layB w rowsA).alloc (.cells (cellsA w.heap.size) 23)) := (Below.refl _ _).alloc (Nat.le_refl _) _
  have hc : ∀ j, ((layB w rowsA).alloc (.cells (cellsA w.heap.size) 23)).cell? ⟨w.heap.size + 4, j, none⟩ = (cellsA w.heap.size)[j]? := fun j => cell_of_row _ _ j _ 23 (0, 0) hT
  match k, hk with
  | 0, _ => exact ⟨_, _, _, _, _, _, hc 0, hc 1, (layB_lies w rowsA 0 _ rfl 2 rfl).old hb, u_nil, small_of (by decide), by decide, rfl⟩
  | 1, _ => exact ⟨_, _, _, _, _, _, hc 2, hc 3, (layB_lies w rowsA 1 _ rfl 5 rfl).old hb, u_abc, small_of (by decide), by decide, rfl⟩
  | 2, _ => exact ⟨_, _, _, _, _, _, hc 4, hc 5, (layB_lies w rowsA 2 _ rfl 7 rfl).old hb, u_hi, small_of (by decide), by decide, rfl⟩
  | 3, _ => exact ⟨_, _, _, _, _, _, hc 6, hc 7, (layB_lies w rowsA 3 _ rfl 12 rfl).old hb, u_hi2, small_of (by decide), by decide, rfl⟩

abbrev rowsB (x : Nat) : List (List Nat) := [[1], [7, 0], [1, 2, 0, 252, 255, 104, 105], [1, 2, 0, 253, 255, 104], [3, 0, 0], [3, 4], [0, 0, 0, 255, 255], [75, 4], [x, 0, 0]]
abbrev cellsB (P : Nat) : Array Value := #[.slice none 0 0, .slice (some ⟨P, 0, none⟩) 1 1, .slice (some ⟨P + 1, 0, none⟩) 2 2, .slice (some ⟨P + 2, 0, none⟩) 7 7, .slice (some ⟨P + 3, 0, none⟩) 6 6, .slice (some ⟨P + 4, 0, none⟩) 3 3, .slice (some ⟨P + 5, 0, none⟩) 2 2, .slice (some ⟨P + 6, 0, none⟩) 5 5, .slice (some ⟨P + 7, 0, none⟩) 2 2, .slice (some ⟨P + 8, 0, none⟩) 3 3]

/-- The second table: each of its rows is none. -/
theorem tabB (w : World) (P : Nat) (hP : P = w.heap.size) (x : Nat) (hx : x = 6 ∨ x = 7) (k : Nat) (hk : k < 10) : ∃ (ao : Option Addr) (ln cp : Nat) (bs : List Nat), ((layB w (rowsB x)).alloc (.cells (cellsB P) 22)).cell? ⟨P + 9, k, none⟩ = some (.slice ao ln cp) ∧ Lies ((layB w (rowsB x)).alloc (.cells (cellsB P) 22)) (.slice ao ln cp) bs ∧ unp bs = .error 2 ∧ Small bs ∧ bs.length ≤ 100 := by
  subst hP
  have hsz : (layB w (rowsB x)).heap.size = w.heap.size + 9 := layB_size w _
  have hT : ((layB w (rowsB x)).alloc (.cells (cellsB w.heap.size) 22)).heap[w.heap.size + 9]? = some (.cells (cellsB w.heap.size) 22 (0, 0)) := by rw [← hsz]; exact heap_alloc_new _ _
  have hb : Below (layB w (rowsB x)).heap.size (layB w (rowsB x)) ((layB w (rowsB x)).alloc (.cells (cellsB w.heap.size) 22)) := (Below.refl _ _).alloc (Nat.le_refl _) _
  have hc : ∀ j, ((layB w (rowsB x)).alloc (.cells (cellsB w.heap.size) 22)).cell? ⟨w.heap.size + 9, j, none⟩ = (cellsB w.heap.size)[j]? := fun j => cell_of_row _ _ j _ 22 (0, 0) hT
  match k, hk with
  | 0, _ => exact ⟨_, _, _, _, hc 0, ⟨none, 0, rfl, by simp, fun _ => rfl, fun a ha => by cases ha⟩, u_0, small_of (by decide), by decide⟩
  | 1, _ => exact ⟨_, _, _, _, hc 1, (layB_lies w (rowsB x) 0 _ rfl 1 rfl).old hb, u_1, small_of (by decide), by decide⟩
  | 2, _ => exact ⟨_, _, _, _, hc 2, (layB_lies w (rowsB x) 1 _ rfl 2 rfl).old hb, u_2, small_of (by decide), by decide⟩
  | 3, _ => exact ⟨_, _, _, _, hc 3, (layB_lies w (rowsB x) 2 _ rfl 7 rfl).old hb, u_3, small_of (by decide), by decide⟩
  | 4, _ => exact ⟨_, _, _, _, hc 4, (layB_lies w (rowsB x) 3 _ rfl 6 rfl).old hb, u_4, small_of (by decide), by decide⟩
  | 5, _ => exact ⟨_, _, _, _, hc 5, (layB_lies w (rowsB x) 4 _ rfl 3 rfl).old hb, u_5, small_of (by decide), by decide⟩
  | 6, _ => exact ⟨_, _, _, _, hc 6, (layB_lies w (rowsB x) 5 _ rfl 2 rfl).old hb, u_6, small_of (by decide), by decide⟩
  | 7, _ => exact ⟨_, _, _, _, hc 7, (layB_lies w (rowsB x) 6 _ rfl 5 rfl).old hb, u_7, small_of (by decide), by decide⟩
  | 8, _ => exact ⟨_, _, _, _, hc 8, (layB_lies w (rowsB x) 7 _ rfl 2 rfl).old hb, u_8, small_of (by decide), by decide⟩
  | 9, _ =>
    rcases hx with rfl | rfl
    · exact ⟨_, _, _, _, hc 9, (layB_lies w (rowsB 6) 8 _ rfl 3 rfl).old hb, u_9, small_of (by decide), by decide⟩
    · exact ⟨_, _, _, _, hc 9, (layB_lies w (rowsB 7) 8 _ rfl 3 rfl).old hb, u_10, small_of (by decide), by decide⟩

set_option maxRecDepth 100000 in
set_option maxHeartbeats 8000000 in
theorem forms_law (w : World) (n : Int) : Calls Tryd.prog 3 #[.int .i64 n] w fun e w' => e = .returned (.bool true) ∧ Below w.heap.size w w' := by
  have hwk := wakes_hid
  obtain ⟨r, hr, hwi⟩ := within_lit n 2 2 (by decide) rfl (by decide)
  obtain ⟨P, hP⟩ : ∃ P, P = w.heap.size := ⟨_, rfl⟩
  rw [← hP]
  have HP := mkHid hP
  have HTA := mkHid (tabA w P hP)
  have HBA : Hid (Below P w ((layB w rowsA).alloc (.cells (cellsA P) 23))) := by
    show Below _ _ _
    rw [hP]
    exact (layB_below w _).alloc (layB_below w _).size _
  clear hP
  go_enter Tryd.func3, Tryd.ntmps3
  go_wp2
  change Code.wp _ _ _ _ ((layB w rowsA).alloc (.cells (cellsA w.heap.size) 23))
  rw [← HP.out]
  generalize (layB w rowsA).alloc (.cells (cellsA P) 23) = W0 at HTA HBA ⊢
  go_loopw [21] (fun i wr => ∃ k : Nat, k ≤ 4 ∧ i = .int .i64 (k : Int) ∧ Hid (Below W0.heap.size W0 wr)) (fun i _ => 4 - (intOf i).toNat)
  case atStart => exact ⟨0, by omega, rfl, Below.refl _ _⟩
  case round =>
    obtain ⟨k, hk, rfl, HB⟩ := hrel
    by_cases hk4 : k < 4
    · obtain ⟨ao, ln, cp, S, bs, o, c1, c2, h3, h4, h5, h6, h7⟩ := HTA.out k hk4
      have c1 := cell_old HB.out c1
      have c2 := cell_old HB.out c2
      have hu := unp_ok bs o h4 h5 (by omega)
      have hal := (Below.refl wr.heap.size wr).alloc (Nat.le_refl _) (.cells #[.slice ao ln cp, .string S] 23)
      have H3 := mkHid ((h3.old HB.out).old hal)
      have HAL := mkHid hal
      have H7 := mkHid h7
      have hq := heap_alloc_new wr (.cells #[.slice ao ln cp, .string S] 23)
      have HQ := mkHid hq
      have hki : (k : Int) < 4 := by omega
      clear h3 h4 h5 h6 h7 hal hq
      go_wp2_with (first
        | (go_at_call 8; (with_reducible refine (hu.out _ _ H3.out).mono ?_); rintro e w1 ⟨v1, rfl, H1, B1⟩
           have hcv : (convert 22 9 v1).run Tryd.prog w1 = .ok (.string S) w1 := by rw [H7.out]; exact conv_str H1.out
           have d1 := cell_old B1.out (cells2_1 HQ.out)))
      go_roundw
      case rel => exact ⟨k + 1, by omega, by go_num, (HB.out.trans (HAL.out.mono HB.out.size)).trans (B1.out.mono (by have := HB.out.size; simp; omega))⟩
      case measure => simp [intOf]; omega
    · have hkk : k = 4 := by omega
      subst hkk
      have HBW : Hid (Below P w wr) := HBA.out.trans (HB.out.mono (by have := HBA.out.size; have := HP.out; omega))
      obtain ⟨Z, hZ⟩ : ∃ Z, Z = wr.heap.size := ⟨_, rfl⟩
      have HZ := mkHid hZ
      clear HTA HBA HB hk hk4
      have hr01 : r = 0 ∨ r = 1 := by omega
      clear hr
      rcases hr01 with rfl | rfl
      · have HTB := mkHid (tabB wr Z hZ 6 (.inl rfl))
        have HBB : Hid (Below Z wr ((layB wr (rowsB 6)).alloc (.cells (cellsB Z) 22))) := by
          show Below _ _ _
          rw [hZ]
          exact (layB_below wr _).alloc (layB_below wr _).size _
        have hor : bits .or .i64 (6 : Int) 0 = 6 := by decide
        clear hZ
        go_wp2_with (first
          | (go_at_call 9; (with_reducible refine (hwi.out _).mono ?_); rintro e wx ⟨rfl, hx⟩; have hx := hx.symm; subst hx))
        change Code.wp _ _ _ _ ((layB wr (rowsB 6)).alloc (.cells (cellsB wr.heap.size) 22))
        rw [← HZ.out]
        generalize (layB wr (rowsB 6)).alloc (.cells (cellsB Z) 22) = W1 at HTB HBB ⊢
        have HBW1 : Hid (Below P w W1) := HBW.out.trans (HBB.out.mono (by have := HBW.out.size; have := HP.out; have := HZ.out; omega))
        clear hor hwi
        go_loopw [56] (fun i wz => ∃ k : Nat, k ≤ 10 ∧ i = .int .i64 (k : Int) ∧ Hid (Below W1.heap.size W1 wz)) (fun i _ => 10 - (intOf i).toNat)
        case atStart => exact ⟨0, by omega, rfl, Below.refl _ _⟩
        case round =>
          obtain ⟨k, hk, rfl, HB⟩ := hrel
          by_cases hk4 : k < 10
          · obtain ⟨ao, ln, cp, bs, c1, h3, h4, h5, h6⟩ := HTB.out k hk4
            have c1 := cell_old HB.out c1
            have hu := unp_bad bs h4 h5 (by omega)
            have H3 := mkHid (h3.old HB.out)
            have hki : (k : Int) < 10 := by omega
            clear h3 h4 h5 h6
            go_wp2_with (first
              | (go_at_call 8; (with_reducible refine (hu.out _ _ H3.out).mono ?_); rintro e w1 ⟨rfl, B1⟩))
            go_roundw
            case rel => exact ⟨k + 1, by omega, by go_num, HB.out.trans (B1.out.mono HB.out.size)⟩
            case measure => simp [intOf]; omega
          · have hkk : k = 10 := by omega
            subst hkk
            go_wp2_with (first
              | (go_at_call 10; (with_reducible refine (hwk.out _).mono ?_); rintro e w2 ⟨rfl, B2⟩))
            go_ret
            have b1 := HBW1.out.trans (HB.out.mono (by have := HBW1.out.size; have := HP.out; omega))
            exact ⟨rfl, b1.trans (B2.out.mono (by have := b1.size; have := HP.out; omega))⟩
      · have HTB := mkHid (tabB wr Z hZ 7 (.inr rfl))
        have HBB : Hid (Below Z wr ((layB wr (rowsB 7)).alloc (.cells (cellsB Z) 22))) := by
          show Below _ _ _
          rw [hZ]
          exact (layB_below wr _).alloc (layB_below wr _).size _
        have hor : bits .or .i64 (6 : Int) 1 = 7 := by decide
        clear hZ
        go_wp2_with (first
          | (go_at_call 9; (with_reducible refine (hwi.out _).mono ?_); rintro e wx ⟨rfl, hx⟩; have hx := hx.symm; subst hx))
        change Code.wp _ _ _ _ ((layB wr (rowsB 7)).alloc (.cells (cellsB wr.heap.size) 22))
        rw [← HZ.out]
        generalize (layB wr (rowsB 7)).alloc (.cells (cellsB Z) 22) = W1 at HTB HBB ⊢
        have HBW1 : Hid (Below P w W1) := HBW.out.trans (HBB.out.mono (by have := HBW.out.size; have := HP.out; have := HZ.out; omega))
        clear hor hwi
        go_loopw [56] (fun i wz => ∃ k : Nat, k ≤ 10 ∧ i = .int .i64 (k : Int) ∧ Hid (Below W1.heap.size W1 wz)) (fun i _ => 10 - (intOf i).toNat)
        case atStart => exact ⟨0, by omega, rfl, Below.refl _ _⟩
        case round =>
          obtain ⟨k, hk, rfl, HB⟩ := hrel
          by_cases hk4 : k < 10
          · obtain ⟨ao, ln, cp, bs, c1, h3, h4, h5, h6⟩ := HTB.out k hk4
            have c1 := cell_old HB.out c1
            have hu := unp_bad bs h4 h5 (by omega)
            have H3 := mkHid (h3.old HB.out)
            have hki : (k : Int) < 10 := by omega
            clear h3 h4 h5 h6
            go_wp2_with (first
              | (go_at_call 8; (with_reducible refine (hu.out _ _ H3.out).mono ?_); rintro e w1 ⟨rfl, B1⟩))
            go_roundw
            case rel => exact ⟨k + 1, by omega, by go_num, HB.out.trans (B1.out.mono HB.out.size)⟩
            case measure => simp [intOf]; omega
          · have hkk : k = 10 := by omega
            subst hkk
            go_wp2_with (first
              | (go_at_call 10; (with_reducible refine (hwk.out _).mono ?_); rintro e w2 ⟨rfl, B2⟩))
            go_ret
            have b1 := HBW1.out.trans (HB.out.mono (by have := HBW1.out.size; have := HP.out; omega))
            exact ⟨rfl, b1.trans (B2.out.mono (by have := b1.size; have := HP.out; omega))⟩
end Go.Proofs.YtdokpimhhkbdbaaDoor.Q
