/-
  The walk of the statement on edges.
-/
import Derived.Test.YtghalbecgiepmaaDoorEda
namespace Go.Proofs.YtghalbecgiepmaaDoor.wk
open Go.Proofs.YtghalbecgiepmaaDoor.flo Go.RowKit
set_option linter.unusedSimpArgs false
set_option linter.unusedVariables false

/-- the world behind the seven -/
abbrev sevenAt (w : World) (x2 x1 : Nat) : World := w.alloc (.cells #[.float .f64 18442240474082181120, .float .f64 x2, .float .f64 9223372036854775808, .float .f64 0, .float .f64 x1, .float .f64 9218868437227405312, .float .f64 9221120237041090561] 23)

theorem seven_cell (w : World) (x2 x1 : Nat) (i : Nat) (hi : i < 7) : (sevenAt w x2 x1).cell? ⟨w.heap.size, i, none⟩ = some (.float .f64 (seven x2 x1 i)) := by
  have hi' : i = 0 ∨ i = 1 ∨ i = 2 ∨ i = 3 ∨ i = 4 ∨ i = 5 ∨ i = 6 := by omega
  rcases hi' with rfl | rfl | rfl | rfl | rfl | rfl | rfl <;> simp [seven]

/-- the seven texts asked for; an empty one asks nothing -/
def asked : Nat → ByteArray
  | 0 => ⟨#[45, 101, 110, 100, 108, 101, 115, 115]⟩
  | 1 => ⟨#[]⟩
  | 2 => ⟨#[45, 48, 46, 48, 48]⟩
  | 3 => ⟨#[48, 46, 48, 48]⟩
  | 4 => ⟨#[]⟩
  | 5 => ⟨#[101, 110, 100, 108, 101, 115, 115]⟩
  | _ => ⟨#[110, 111, 110, 101]⟩
theorem asked_text (x2 x1 i : Nat) (hi : i < 7) : asked i = ⟨#[]⟩ ∨ ((asked i).toList.isEmpty = false ∧ text (seven x2 x1 i) = asked i) := by
  have hi' : i = 0 ∨ i = 1 ∨ i = 2 ∨ i = 3 ∨ i = 4 ∨ i = 5 ∨ i = 6 := by omega
  rcases hi' with rfl | rfl | rfl | rfl | rfl | rfl | rfl
  · exact Or.inr ⟨by rw [Lib.toList_data]; rfl, text_0⟩
  · exact Or.inl rfl
  · exact Or.inr ⟨by rw [Lib.toList_data]; rfl, text_2⟩
  · exact Or.inr ⟨by rw [Lib.toList_data]; rfl, text_3⟩
  · exact Or.inl rfl
  · exact Or.inr ⟨by rw [Lib.toList_data]; rfl, text_5⟩
  · exact Or.inr ⟨by rw [Lib.toList_data]; rfl, text_6⟩
abbrev askedAt (w : World) : World := w.alloc (.cells #[.string ⟨#[45, 101, 110, 100, 108, 101, 115, 115]⟩, .string ⟨#[]⟩, .string ⟨#[45, 48, 46, 48, 48]⟩, .string ⟨#[48, 46, 48, 48]⟩, .string ⟨#[]⟩, .string ⟨#[101, 110, 100, 108, 101, 115, 115]⟩, .string ⟨#[110, 111, 110, 101]⟩] 9)
theorem asked_cell (w : World) (B : Nat) (hB : w.heap.size = B + 1) (i : Nat) (hi : i < 7) : (askedAt w).cell? ⟨B + 1, i, none⟩ = some (.string (asked i)) := by
  rw [← hB]
  have hi' : i = 0 ∨ i = 1 ∨ i = 2 ∨ i = 3 ∨ i = 4 ∨ i = 5 ∨ i = 6 := by omega
  rcases hi' with rfl | rfl | rfl | rfl | rfl | rfl | rfl <;> simp [asked]
theorem four_cell (w : World) (i : Nat) (hi : i < 4) : (w.alloc (.cells #[.float .f64 9221120237041090561, .float .f64 9223372036854775808, .float .f64 0, .float .f64 9223372036854775808] 23)).cell? ⟨w.heap.size, i, none⟩ = some (.float .f64 (four i)) := by
  have hi' : i = 0 ∨ i = 1 ∨ i = 2 ∨ i = 3 := by omega
  rcases hi' with rfl | rfl | rfl | rfl <;> simp [four]
theorem two_cell (w : World) (o : Obj) (i : Nat) (hi : i < 2) : ((w.alloc o).alloc (.cells #[.float .f64 18442240474082181120, .float .f64 9221120237041090561] 23)).cell? ⟨w.heap.size + 1, i, none⟩ = some (.float .f64 (two i)) := by
  have hi' : i = 0 ∨ i = 1 := by omega
  rcases hi' with rfl | rfl <;> simp [two]
theorem four_lt (i : Nat) : four i < 18446744073709551616 := by unfold four; split <;> decide
theorem two_lt (i : Nat) : two i < 18446744073709551616 := by unfold two; split <;> decide
theorem nan_ne : (FloatKind.f64.format.order 9221120237041090561 9221120237041090561 != some .eq) = true := by decide +kernel

theorem best4_walk (w : World) : Calls Tryd.prog 13 #[.slice (some ⟨w.heap.size, 0, none⟩) 4 4] (w.alloc (.cells #[.float .f64 9221120237041090561, .float .f64 9223372036854775808, .float .f64 0, .float .f64 9223372036854775808] 23)) fun e w' => e = .returned (.int .i64 2) ∧ w' = w.alloc (.cells #[.float .f64 9221120237041090561, .float .f64 9223372036854775808, .float .f64 0, .float .f64 9223372036854775808] 23) := by
  have := best_walk w.heap.size 4 4 four _ (by decide) (fun i _ => four_lt i) (four_cell w)
  rw [best_four] at this
  exact this
theorem best2_walk (w : World) (o : Obj) : Calls Tryd.prog 13 #[.slice (some ⟨w.heap.size + 1, 0, none⟩) 2 2] ((w.alloc o).alloc (.cells #[.float .f64 18442240474082181120, .float .f64 9221120237041090561] 23)) fun e w' => e = .returned (.int .i64 0) ∧ w' = (w.alloc o).alloc (.cells #[.float .f64 18442240474082181120, .float .f64 9221120237041090561] 23) := by
  have := best_walk (w.heap.size + 1) 2 2 two _ (by decide) (fun i _ => two_lt i) (two_cell w o)
  rw [best_two] at this
  exact this
theorem shareFar_walk (w : World) : Calls Tryd.prog 9 #[.int .i64 1099511627776, .int .i64 1] w fun e w' => e = .returned (.float .f64 4787326403894837248) ∧ w' = w := by
  have := share_any 1099511627776 1 w
  rw [show share 1099511627776 1 = 4787326403894837248 from by decide +kernel] at this
  exact this
theorem textFar_walk (w : World) (h : Tab w) : Calls Tryd.prog 12 #[.float .f64 4787326403894837248] w fun e w' => e = .returned (.string ⟨#[49, 48, 57, 57, 53, 49, 49, 54, 50, 55, 55, 55, 54, 46, 48, 48]⟩) ∧ Below w.heap.size w w' := by
  have := text_walk 4787326403894837248 w (by decide) h
  have e := text_far
  rw [show share 1099511627776 1 = 4787326403894837248 from by decide +kernel] at e
  rw [e] at this
  exact this
theorem textBig_walk (w : World) (h : Tab w) : Calls Tryd.prog 12 #[.float .f64 4831355200913801216] w fun e w' => e = .returned (.string ⟨#[98, 105, 103]⟩) ∧ Below w.heap.size w w' := by
  have := text_walk 4831355200913801216 w (by decide) h
  rw [text_big] at this
  exact this
theorem textNbig_walk (w : World) (h : Tab w) : Calls Tryd.prog 12 #[.float .f64 14054727237768577024] w fun e w' => e = .returned (.string ⟨#[45, 98, 105, 103]⟩) ∧ Below w.heap.size w w' := by
  have := text_walk 14054727237768577024 w (by decide) h
  rw [text_nbig] at this
  exact this

set_option maxHeartbeats 1000000 in
theorem edges_walk (n : Int) (w : World) (htab : Tab w) :
    Calls Tryd.prog 3 #[.int .i64 n] w fun e w' => e = .returned (.bool true) ∧ Below w.heap.size w w' := by
  obtain ⟨N, hN⟩ : ∃ N : Nat, 1 + n % 1000 = N := ⟨(1 + n % 1000).toNat, by omega⟩
  have hN1 : 0 < N := by omega
  have hN2 : N ≤ 1000 := by omega
  have hP := pair_of N hN1 hN2
  have C00 : Hid (∀ w, Calls Tryd.prog 9 #[.int .i64 0, .int .i64 0] w fun e w' => e = .returned (.float .f64 9221120237041090561) ∧ w' = w) := fun w => by have := share_any 0 0 w; rw [share_00] at this; exact this
  have CN0 : Hid (∀ w, Calls Tryd.prog 9 #[.int .i64 N, .int .i64 0] w fun e w' => e = .returned (.float .f64 9218868437227405312) ∧ w' = w) := fun w => by have := share_any N 0 w; rw [(share_up N hN1 hN2).1] at this; exact this
  have CM0 : Hid (∀ w, Calls Tryd.prog 9 #[.int .i64 (-(N : Int)), .int .i64 0] w fun e w' => e = .returned (.float .f64 18442240474082181120) ∧ w' = w) := fun w => by have := share_any (-(N : Int)) 0 w; rw [(share_up N hN1 hN2).2] at this; exact this
  have C0N : Hid (∀ w, Calls Tryd.prog 9 #[.int .i64 0, .int .i64 N] w fun e w' => e = .returned (.float .f64 0) ∧ w' = w) := fun w => by have := share_any 0 N w; rw [(zeros N hN1 hN2).1] at this; exact this
  have C0M : Hid (∀ w, Calls Tryd.prog 9 #[.int .i64 0, .int .i64 (-(N : Int))] w fun e w' => e = .returned (.float .f64 9223372036854775808) ∧ w' = w) := fun w => by have := share_any 0 (-(N : Int)) w; rw [(zeros N hN1 hN2).2] at this; exact this
  have CN1 : Hid (∀ w, Calls Tryd.prog 9 #[.int .i64 N, .int .i64 1] w fun e w' => e = .returned (.float .f64 (share N 1)) ∧ w' = w) := fun w => share_any N 1 w
  have CM1 : Hid (∀ w, Calls Tryd.prog 9 #[.int .i64 (-(N : Int)), .int .i64 1] w fun e w' => e = .returned (.float .f64 (share (-(N : Int)) 1)) ∧ w' = w) := fun w => share_any _ 1 w
  have CF1 : Hid (∀ w, Calls Tryd.prog 9 #[.int .i64 (1099511627776 + (N : Int)), .int .i64 1] w fun e w' => e = .returned (.float .f64 9221120237041090561) ∧ w' = w) := fun w => by have := share_any (1099511627776 + (N : Int)) 1 w; rw [share_over N hN1 hN2] at this; exact this
  generalize share N 1 = x1 at hP CN1
  generalize share (-(N : Int)) 1 = x2 at hP CM1
  go_enter Tryd.func3, Tryd.ntmps3
  go_wp2_with (first
    | (go_at_call 8; refine (keep_walk _ _ _ (by omega) (by omega)).mono ?_; rintro e w1 ⟨rfl, rfl⟩)
    | (go_at_call 9; with_reducible refine (C00.out _).mono ?_; rintro e w1 ⟨rfl, rfl⟩)
    | (go_at_call 9; with_reducible refine (CN0.out _).mono ?_; rintro e w1 ⟨rfl, rfl⟩)
    | (go_at_call 9; with_reducible refine (CM0.out _).mono ?_; rintro e w1 ⟨rfl, rfl⟩)
    | (go_at_call 9; with_reducible refine (C0N.out _).mono ?_; rintro e w1 ⟨rfl, rfl⟩)
    | (go_at_call 9; with_reducible refine (C0M.out _).mono ?_; rintro e w1 ⟨rfl, rfl⟩)
    | (go_at_call 9; with_reducible refine (CM1.out _).mono ?_; rintro e w1 ⟨rfl, rfl⟩)
    | (go_at_call 9; with_reducible refine (CN1.out _).mono ?_; rintro e w1 ⟨rfl, rfl⟩))
  have hcell := seven_cell w1 x2 x1
  have hlt := seven_lt hP
  have hkey := seven_key hP
  have hb0 : Below w1.heap.size w1 (sevenAt w1 x2 x1) := (Below.refl _ _).alloc (Nat.le_refl _) _
  have hz0 : (sevenAt w1 x2 x1).heap.size = w1.heap.size + 1 := by simp
  unfold sevenAt at hcell hb0 hz0
  generalize w1.alloc (Obj.cells #[.float .f64 18442240474082181120, .float .f64 x2, .float .f64 9223372036854775808, .float .f64 0, .float .f64 x1, .float .f64 9218868437227405312, .float .f64 9221120237041090561] 23) = W0 at hcell hb0 hz0 ⊢
  have htab0 := tab_below htab hb0
  generalize hBe : w1.heap.size = B at hcell hz0 hb0 ⊢
  have HBe : Hid (w1.heap.size = B) := hBe
  clear hBe
  have Hlt : Hid (∀ i, seven x2 x1 i < 18446744073709551616) := hlt
  have Hkey : Hid (∀ i j, i < 7 → j < 7 → less (seven x2 x1 i) (seven x2 x1 j) = decide (i < j)) := hkey
  have Hcell : Hid (∀ i, i < 7 → W0.cell? ⟨B, i, none⟩ = some (.float .f64 (seven x2 x1 i))) := hcell
  clear hlt hkey hcell
  go_loop [43] (fun i => ∃ k : Nat, k ≤ 7 ∧ i = .int .i64 k) (fun i => 7 - (intOf i).toNat)
  case atStart => exact ⟨0, by decide, rfl⟩
  case round =>
    obtain ⟨k, hk, rfl⟩ := hrel
    by_cases hk7 : k < 7
    · have hck := Hcell.out k hk7
      have hlk := Hlt.out k
      generalize hak : seven x2 x1 k = a at hck hlk
      have Hak : Hid (seven x2 x1 k = a) := hak
      clear hak
      go_wp2
      go_loop [50] (fun j => ∃ l : Nat, l ≤ 7 ∧ j = .int .i64 l) (fun j => 7 - (intOf j).toNat)
      case atStart => exact ⟨0, by decide, rfl⟩
      case round =>
        obtain ⟨l, hl, rfl⟩ := hrel
        by_cases hl7 : l < 7
        · have hcl := Hcell.out l hl7
          have hll := Hlt.out l
          have h1 := Hkey.out k l hk7 hl7
          have h2 := Hkey.out l k hl7 hk7
          rw [Hak.out] at h1 h2
          generalize seven x2 x1 l = b at hcl hll h1 h2
          rcases Nat.lt_trichotomy k l with hkl | hkl | hkl
          · have e1 : less a b = true := by rw [h1, decide_eq_true_eq]; exact hkl
            have e2 : less b a = false := by rw [h2, decide_eq_false_iff_not]; omega
            have e3 : ((k : Int) == (l : Int)) = false := by rw [beq_eq_false_iff_ne]; omega
            clear h1 h2
            go_wp2_with (first
              | (go_at_call 10; refine (less_walk _ _ _ hlk hll).mono ?_; rintro e w' ⟨rfl, rfl⟩)
              | (go_at_call 11; refine (same_walk _ _ _ hlk hll).mono ?_; rintro e w' ⟨rfl, rfl⟩))
            go_round
            case rel => exact ⟨l + 1, by omega, by go_num⟩
            case measure => simp [intOf]; omega
          · have e1 : less a b = false := by rw [h1, decide_eq_false_iff_not]; omega
            have e2 : less b a = false := by rw [h2, decide_eq_false_iff_not]; omega
            have e3 : ((k : Int) == (l : Int)) = true := by rw [beq_iff_eq]; omega
            have e4 : ¬ ((k : Int) < (l : Int)) := by omega
            have Hkl : Hid (k = l) := hkl
            clear h1 h2 hkl
            go_wp2_with (first
              | (go_at_call 10; refine (less_walk _ _ _ hlk hll).mono ?_; rintro e w' ⟨rfl, rfl⟩)
              | (go_at_call 11; refine (same_walk _ _ _ hlk hll).mono ?_; rintro e w' ⟨rfl, rfl⟩))
            go_round
            case rel => exact ⟨l + 1, by omega, by go_num⟩
            case measure => simp [intOf]; omega
          · have e1 : less a b = false := by rw [h1, decide_eq_false_iff_not]; omega
            have e2 : less b a = true := by rw [h2, decide_eq_true_eq]; exact hkl
            have e3 : ((k : Int) == (l : Int)) = false := by rw [beq_eq_false_iff_ne]; omega
            have e4 : ¬ ((k : Int) < (l : Int)) := by omega
            clear h1 h2
            go_wp2_with (first
              | (go_at_call 10; refine (less_walk _ _ _ hlk hll).mono ?_; rintro e w' ⟨rfl, rfl⟩)
              | (go_at_call 11; refine (same_walk _ _ _ hlk hll).mono ?_; rintro e w' ⟨rfl, rfl⟩))
            go_round
            case rel => exact ⟨l + 1, by omega, by go_num⟩
            case measure => simp [intOf]; omega
        · go_wp2
          go_round
          case rel => exact ⟨k + 1, by omega, by go_num⟩
          case measure => simp [intOf]; omega
    · go_wp2
      have HS : ∀ i, i < 7 → (askedAt W0).cell? ⟨B + 1, i, none⟩ = some (.string (asked i)) := asked_cell W0 B hz0
      have hb1 : Below W0.heap.size W0 (askedAt W0) := (Below.refl _ _).alloc (Nat.le_refl _) _
      have hz1 : (askedAt W0).heap.size = B + 2 := by simp [hz0]
      have htab1 := tab_below htab0 hb1
      have HF : ∀ i, i < 7 → (askedAt W0).cell? ⟨B, i, none⟩ = some (.float .f64 (seven x2 x1 i)) := fun i hi => by rw [hb1.cell (by simp [hz0])]; exact Hcell.out i hi
      have hbB : Below B w1 (askedAt W0) := hb0.trans (hb1.mono (by omega))
      unfold askedAt at HS hb1 hz1 htab1 HF hbB
      generalize W0.alloc (Obj.cells #[.string ⟨#[45, 101, 110, 100, 108, 101, 115, 115]⟩, .string ⟨#[]⟩, .string ⟨#[45, 48, 46, 48, 48]⟩, .string ⟨#[48, 46, 48, 48]⟩, .string ⟨#[]⟩, .string ⟨#[101, 110, 100, 108, 101, 115, 115]⟩, .string ⟨#[110, 111, 110, 101]⟩] 9) = W1 at HS hb1 hz1 htab1 HF hbB ⊢
      have HS' : Hid (∀ i, i < 7 → W1.cell? ⟨B + 1, i, none⟩ = some (.string (asked i))) := HS
      have HF' : Hid (∀ i, i < 7 → W1.cell? ⟨B, i, none⟩ = some (.float .f64 (seven x2 x1 i))) := HF
      clear HS HF hb1 htab0 Hcell hz0 hb0
      go_loopw [75] (fun i wr => ∃ k : Nat, k ≤ 7 ∧ i = .int .i64 k ∧ Below (B + 2) W1 wr) (fun i _ => 7 - (intOf i).toNat)
      case atStart => exact ⟨0, by decide, rfl, Below.refl _ _⟩
      case round =>
        obtain ⟨k, hk, rfl, hb⟩ := hrel
        have hbs := hb.size
        by_cases hk7 : k < 7
        · have hcs : wr.cell? ⟨B + 1, k, none⟩ = some (.string (asked k)) := by rw [hb.cell (by simp)]; exact HS'.out k hk7
          have hcf : wr.cell? ⟨B, k, none⟩ = some (.float .f64 (seven x2 x1 k)) := by rw [hb.cell (by simp)]; exact HF'.out k hk7
          have hlk := Hlt.out k
          have htabr : Tab wr := tab_below htab1 (hb.mono (by omega))
          rcases asked_text x2 x1 k hk7 with he | ⟨he, ht⟩
          · rw [he] at hcs
            clear he
            go_wp2
            go_roundw
            case rel => exact ⟨k + 1, by omega, by go_num, hb⟩
            case measure => simp [intOf]; omega
          · have hT := text_walk (seven x2 x1 k) wr hlk htabr
            rw [ht] at hT
            clear ht
            generalize asked k = s at hcs he hT
            generalize seven x2 x1 k = a at hcf hlk hT
            have HT : Hid (Calls Tryd.prog 12 #[.float .f64 a] wr fun e w' => e = .returned (.string s) ∧ Below wr.heap.size wr w') := hT
            clear hT
            go_wp2_with (go_at_call 12; refine HT.out.mono ?_; rintro e w2 ⟨rfl, hb2⟩)
            go_roundw
            case rel => exact ⟨k + 1, by omega, by go_num, hb.trans (hb2.mono (by omega))⟩
            case measure => simp [intOf]; omega
        · have hB7 : Hid (Calls Tryd.prog 13 #[.slice (some ⟨B, 0, none⟩) 7 7] wr fun e w' => e = .returned (.int .i64 5) ∧ w' = wr) := by
            have := best_walk B 7 7 (seven x2 x1) wr (by decide) (fun i _ => Hlt.out i) (fun i hi => by rw [hb.cell (by simp)]; exact HF'.out i hi)
            rw [best_seven hP] at this
            exact this
          have hnn := nan_ne
          have htabr : Tab wr := tab_below htab1 (hb.mono (by omega))
          go_wp2_with (first
            | (go_at_call 9; with_reducible refine (CF1.out _).mono ?_; rintro e w2 ⟨rfl, rfl⟩)
            | (go_at_call 13; with_reducible refine hB7.out.mono ?_; rintro e w2 ⟨rfl, rfl⟩)
            | (go_at_call 13; with_reducible refine (best4_walk _).mono ?_; rintro e w2 ⟨rfl, rfl⟩)
            | (go_at_call 13; with_reducible refine (best2_walk _ _).mono ?_; rintro e w2 ⟨rfl, rfl⟩)
            | (go_at_call 9; with_reducible refine (shareFar_walk _).mono ?_; rintro e w2 ⟨rfl, rfl⟩))
          have hb3 : Below w2.heap.size w2 ((w2.alloc (Obj.cells #[.float .f64 9221120237041090561, .float .f64 9223372036854775808, .float .f64 0, .float .f64 9223372036854775808] 23)).alloc (Obj.cells #[.float .f64 18442240474082181120, .float .f64 9221120237041090561] 23)) := ((Below.refl _ _).alloc (Nat.le_refl _) _).alloc (by simp) _
          generalize (w2.alloc (Obj.cells #[.float .f64 9221120237041090561, .float .f64 9223372036854775808, .float .f64 0, .float .f64 9223372036854775808] 23)).alloc (Obj.cells #[.float .f64 18442240474082181120, .float .f64 9221120237041090561] 23) = W3 at hb3 ⊢
          have htab3 := tab_below htabr hb3
          go_wp2_with (go_at_call 12; with_reducible refine (textFar_walk _ htab3).mono ?_; rintro e w4 ⟨rfl, hb4⟩)
          have htab4 := tab_below htab3 hb4
          go_wp2_with (go_at_call 12; with_reducible refine (textBig_walk _ htab4).mono ?_; rintro e w5 ⟨rfl, hb5⟩)
          have htab5 := tab_below htab4 hb5
          go_wp2_with (go_at_call 12; with_reducible refine (textNbig_walk _ htab5).mono ?_; rintro e w6 ⟨rfl, hb6⟩)
          have htab6 := tab_below htab5 hb6
          go_wp2_with (go_at_call 14; with_reducible refine (wakes_walk _ htab6).mono ?_; rintro e w7 ⟨rfl, hb7⟩)
          go_ret
          have s3 := hb3.size
          have s4 := hb4.size
          have s5 := hb5.size
          have s6 := hb6.size
          rw [HBe.out]
          exact ⟨rfl, hbB.trans ((hb.mono (by omega)).trans ((hb3.mono (by omega)).trans ((hb4.mono (by omega)).trans ((hb5.mono (by omega)).trans ((hb6.mono (by omega)).trans (hb7.mono (by omega)))))))⟩
end Go.Proofs.YtghalbecgiepmaaDoor.wk
