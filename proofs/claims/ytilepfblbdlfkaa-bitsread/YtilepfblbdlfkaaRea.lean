/-
  BitsRead: the walk.
-/
import Derived.Test.YtilepfblbdlfkaaDu
import Derived.Test.YtilepfblbdlfkaaRs
import Derived.Test.YtilepfblbdlfkaaArg
set_option linter.unusedSimpArgs false
set_option linter.unusedVariables false
namespace Go.Proofs.Ytilepfblbdlfkaa
open Go.RowKit

set_option maxRecDepth 100000 in
set_option maxHeartbeats 4000000 in
theorem read_law (w : World) (u v : Value) (bs : List Nat) (cs : List Int) (hu : Lies w u bs) (hs : Small bs) (hv : Ints w v cs) (hl1 : bs.length ≤ 140737488351232) (hl2 : cs.length ≤ 140737488351232) :
    Calls Try.prog 6 #[u, v] w fun e w' => e = .returned (.bool true) ∧ Below w.heap.size w w' := by
  have hwk := wakes_hid
  have hlend : Hid (Calls Try.prog 23 #[u] w fun e w' => ∃ g, e = .returned (.slice (some ⟨g, 0, none⟩) bs.length (bs.length + 3)) ∧ Lent w' g bs ∧ Below w.heap.size w w' ∧ w.heap.size ≤ g) := lend_walk w u bs hu hl1
  have hrd : Hid (∀ wx vx, Lies wx vx bs → Calls Try.prog 17 #[vx] wx fun e w' => ∃ rb, e = .returned (.pointer (some ⟨rb, 0, none⟩)) ∧ Rd 50 w' rb bs 0 false ∧ wx.heap.size ≤ rb ∧ Below wx.heap.size wx w') := fun wx vx h => reader_walk wx vx bs h hs (by omega)
  have hcp : Hid (∀ wx, Lies wx u bs → Calls Try.prog 24 #[u] wx fun e w' => ∃ v', e = .returned v' ∧ w'.ownsRow wx.heap.size 5 1 v' bs.length (bs.map byteV) ∧ Below wx.heap.size wx w') := fun wx h => copy_walk wx u bs h (by omega)
  have hint : Hid (∀ wx g, Lent wx g bs → Lies wx u bs → Calls Try.prog 28 #[.slice (some ⟨g, 0, none⟩) bs.length (bs.length + 3), u] wx fun e w' => e = .returned (.bool true) ∧ Below wx.heap.size wx w') := fun wx g h h' => intact_walk wx g u bs h h' hl1
  obtain ⟨va, vc, rfl, hv2, hv3, hv4⟩ := hv
  go_enter Try.func6, Try.ntmps6
  go_wp2_with (first
    | (go_at_call 23; (with_reducible refine hlend.out.mono ?_); rintro e w1 ⟨g, rfl, hl, hb1, hg1⟩)
    | (go_at_call 17; (with_reducible refine (hrd.out _ _ hl.lies).mono ?_); rintro e w2 ⟨rb, rfl, hr2, hrl, hb2⟩)
    | (go_at_call 24; (with_reducible refine (hcp.out _ (hu.old (hb1.trans (hb2.mono hb1.size)))).mono ?_); rintro e w3 ⟨v3, rfl, ho3, hb3⟩; obtain ⟨ao, cp, rfl, -, -, -⟩ := lies_own ho3))
  have hduo := duo_new (w0 := w) (B := w.heap.size) (n := 0) hl hb1 hb1.size hr2 hrl hb2 ho3 hb3
  obtain ⟨xb, hxb⟩ : ∃ xb, xb = w3.heap.size := ⟨_, rfl⟩
  rw [← hxb] at hduo ⊢
  clear hxb hrd hcp hlend ho3 hb3 hr2 hrl hb2 hl hb1 hg1
  go_loopw [8] (fun i wr => ∃ k p b, k ≤ cs.length ∧ k ≤ 30 ∧ i = .int .i64 ((k : Nat) : Int) ∧ Duo w.heap.size w wr rb xb g bs p b p b) (fun i _ => 30 - (intOf i).toNat)
  case atStart => exact ⟨0, 0, false, by omega, by omega, rfl, hduo⟩
  case round =>
    obtain ⟨k, p, b, hk1, hk2, rfl, hd⟩ := hrel
    by_cases hin : k < cs.length ∧ k < 30
    · obtain ⟨hi1, hi2⟩ := hin
      obtain ⟨C, rfl⟩ : ∃ C, va = some C := by
        cases va with
        | none => have := hv3 rfl; omega
        | some C => exact ⟨C, rfl⟩
      have hcc := cell_old hd.below (hv4 C rfl k hi1)
      obtain ⟨y, hy⟩ : ∃ y, y = cs.getD k 0 := ⟨_, rfl⟩
      rw [← hy] at hcc
      clear hy
      obtain ⟨m, hm, hwithin⟩ := within_lit y 24 24 (by decide) rfl (by decide)
      by_cases h17 : m < 17
      · obtain ⟨z, q, d, hg1, hg2⟩ := duo_get w.heap.size w rb xb g bs p b (m : Int)
        go_wp2_with (first
          | (go_at_call 8; (with_reducible refine (hwithin.out _).mono ?_); rintro e wx ⟨rfl, hx⟩; have hx := hx.symm; subst hx)
          | (go_at_call 21; (with_reducible refine (hg1.out _ hd).mono ?_); rintro e w5 ⟨rfl, h5⟩)
          | (go_at_call 25; (with_reducible refine (hg2.out _ h5).mono ?_); rintro e w6 ⟨rfl, h6⟩))
        have cx := h6.cellX
        go_quiet (first
          | (go_at_call 18; refine Calls.quiet_of (left_walk _ rb bs q d (h6.drewN _).r))
          | (go_at_call 27; refine Calls.quiet_of (xleft_walk _ xb bs q d (h6.drewN _).x))
          | (go_at_call 19; refine Calls.quiet_of_same (bad_walk _ rb bs q d (h6.drewN _).r)))
        go_wp2
        go_roundw
        case rel => exact ⟨k + 1, q, d, by omega, by omega, by go_num, h6.drewN _⟩
        case measure => simp [intOf]; omega
      · by_cases h20 : m < 20
        · obtain ⟨z, q, d, hg1, hg2⟩ := duo_bit w.heap.size w rb xb g bs p b
          go_wp2_with (first
            | (go_at_call 8; (with_reducible refine (hwithin.out _).mono ?_); rintro e wx ⟨rfl, hx⟩; have hx := hx.symm; subst hx)
            | (go_at_call 20; (with_reducible refine (hg1.out _ hd).mono ?_); rintro e w5 ⟨rfl, h5⟩)
            | (go_at_call 25; (with_reducible refine (hg2.out _ h5).mono ?_); rintro e w6 ⟨rfl, h6⟩))
          have cx := h6.cellX
          go_quiet (first
            | (go_at_call 18; refine Calls.quiet_of (left_walk _ rb bs q d (h6.drewN _).r))
            | (go_at_call 27; refine Calls.quiet_of (xleft_walk _ xb bs q d (h6.drewN _).x))
            | (go_at_call 19; refine Calls.quiet_of_same (bad_walk _ rb bs q d (h6.drewN _).r)))
          go_wp2
          go_roundw
          case rel => exact ⟨k + 1, q, d, by omega, by omega, by go_num, h6.drewN _⟩
          case measure => simp [intOf]; omega
        · by_cases h22 : m < 22
          · have cb := hd.cellX
            cases b with
            | true =>
              go_wp2_with (go_at_call 8; (with_reducible refine (hwithin.out _).mono ?_); rintro e wx ⟨rfl, hx⟩; have hx := hx.symm; subst hx)
              go_roundw
              case rel => exact ⟨k + 1, p, true, by omega, by omega, by go_num, hd⟩
              case measure => simp [intOf]; omega
            | false =>
              obtain ⟨q, hg1, hg2⟩ := duo_align w.heap.size w rb xb g bs p
              go_wp2_with (first
                | (go_at_call 8; (with_reducible refine (hwithin.out _).mono ?_); rintro e wx ⟨rfl, hx⟩; have hx := hx.symm; subst hx)
                | (go_at_call 22; (with_reducible refine (hg1.out _ hd).mono ?_); rintro e w5 ⟨rfl, h5⟩)
                | (go_at_call 26; (with_reducible refine (hg2.out _ h5).mono ?_); rintro e w6 ⟨rfl, h6⟩))
              have cx := h6.cellX
              go_quiet (first
                | (go_at_call 18; refine Calls.quiet_of (left_walk _ rb bs q false (h6.drewN _).r))
                | (go_at_call 27; refine Calls.quiet_of (xleft_walk _ xb bs q false (h6.drewN _).x))
                | (go_at_call 19; refine Calls.quiet_of_same (bad_walk _ rb bs q false (h6.drewN _).r)))
              go_wp2
              go_roundw
              case rel => exact ⟨k + 1, q, false, by omega, by omega, by go_num, h6.drewN _⟩
              case measure => simp [intOf]; omega
          · have h5a : -5 < y.tmod 5 ∧ y.tmod 5 < 5 := by
              have := Int.tmod_lt_of_pos y (show (0 : Int) < 5 by decide)
              have := Int.lt_tmod_of_pos y (show (0 : Int) < 5 by decide)
              omega
            by_cases h3 : y.tmod 3 = 0
            · obtain ⟨z, q, d, hg1, hg2⟩ := duo_get w.heap.size w rb xb g bs p b (17 + y.tmod 5)
              have h3b : (y.tmod 3 != 0) = false := by simp [h3]
              have H3 : Hid (y.tmod 3 = 0) := h3
              clear h3
              go_wp2_with (first
                | (go_at_call 8; (with_reducible refine (hwithin.out _).mono ?_); rintro e wx ⟨rfl, hx⟩; have hx := hx.symm; subst hx)
                | (go_at_call 21; (with_reducible refine (hg1.out _ hd).mono ?_); rintro e w5 ⟨rfl, h5⟩)
                | (go_at_call 25; (with_reducible refine (hg2.out _ h5).mono ?_); rintro e w6 ⟨rfl, h6⟩))
              have cx := h6.cellX
              go_quiet (first
                | (go_at_call 18; refine Calls.quiet_of (left_walk _ rb bs q d (h6.drewN _).r))
                | (go_at_call 27; refine Calls.quiet_of (xleft_walk _ xb bs q d (h6.drewN _).x))
                | (go_at_call 19; refine Calls.quiet_of_same (bad_walk _ rb bs q d (h6.drewN _).r)))
              go_wp2
              go_roundw
              case rel => exact ⟨k + 1, q, d, by omega, by omega, by go_num, h6.drewN _⟩
              case measure => simp [intOf]; omega
            · have h3b : (y.tmod 3 != 0) = true := by simp [h3]
              have H3 : Hid (¬ y.tmod 3 = 0) := h3
              clear h3
              go_wp2_with (go_at_call 8; (with_reducible refine (hwithin.out _).mono ?_); rintro e wx ⟨rfl, hx⟩; have hx := hx.symm; subst hx)
              go_roundw
              case rel => exact ⟨k + 1, p, b, by omega, by omega, by go_num, hd⟩
              case measure => simp [intOf]; omega
    · have hout : ¬ (k : Int) < cs.length ∨ ((k : Int) < cs.length ∧ ¬ (k : Int) < 30) := by omega
      have hlu := hu.old hd.below
      rcases hout with h1 | ⟨h1, h2⟩
      · go_wp2_with (first
          | (go_at_call 28; (with_reducible refine (hint.out _ _ hd.lent hlu).mono ?_); rintro e w7 ⟨rfl, hb7⟩)
          | (go_at_call 15; (with_reducible refine (hwk.out _).mono ?_); rintro e w8 ⟨rfl, hb8⟩))
        go_ret
        exact ⟨rfl, ((hd.old hb7).old hb8).below⟩
      · go_wp2_with (first
          | (go_at_call 28; (with_reducible refine (hint.out _ _ hd.lent hlu).mono ?_); rintro e w7 ⟨rfl, hb7⟩)
          | (go_at_call 15; (with_reducible refine (hwk.out _).mono ?_); rintro e w8 ⟨rfl, hb8⟩))
        go_ret
        exact ⟨rfl, ((hd.old hb7).old hb8).below⟩
end Go.Proofs.Ytilepfblbdlfkaa
