/-
  BitsEnds: the walk.
-/
import Derived.Test.YtilepfblbdlfkaaRs
import Derived.Deep.RegionHeld3
import Derived.Deep.RegionWith
set_option linter.unusedSimpArgs false
set_option linter.unusedVariables false
namespace Go.Proofs.Ytilepfblbdlfkaa
open Go.RowKit

set_option maxRecDepth 100000 in
set_option maxHeartbeats 4000000 in
theorem ends_law (w : World) (v : Value) (bs : List Nat) (n : Int) (hv : Lies w v bs) (hs : Small bs) (hl : bs.length ≤ 140737488355328) :
    Calls Try.prog 4 #[v, .int .i64 n] w fun e w' => e = .returned (.bool true) ∧ Below w.heap.size w w' := by
  obtain ⟨ds, hde⟩ : ∃ ds, ds = bs.take 6 := ⟨_, rfl⟩
  have hdl : ds.length ≤ 6 := by rw [hde, List.length_take]; omega
  have hds : Small ds := fun b hb => hs b (List.mem_of_mem_take (by rw [hde] at hb; exact hb))
  have hcut : Hid (Calls Try.prog 16 #[v, .int .i64 6] w fun e w' => ∃ v', e = .returned v' ∧ w'.ownsRow w.heap.size 5 1 v' ds.length (ds.map byteV) ∧ Below w.heap.size w w') := by
    rw [hde]; exact cut_walk w v bs 6 (by decide) hv hl
  clear hde hv
  obtain ⟨m, hm, hwithin⟩ := within_lit n (8 * (ds.length : Int) + 1) (8 * ds.length + 1) (by omega) (by omega) (by omega)
  have hwk := wakes_hid
  have hleft0 : Hid (∀ wx rb bv, St w.heap.size w wx rb bv ds 0 false → Calls Try.prog 18 #[.pointer (some ⟨rb, 0, none⟩)] wx fun e w' => e = .returned (.int .i64 (8 * (ds.length : Int))) ∧ St w.heap.size w w' rb bv ds 0 false) := by
    intro wx rb bv h
    have := h.left
    rw [show 8 * (ds.length : Int) - ((0 : Nat) : Int) = 8 * (ds.length : Int) by omega] at this
    exact this
  have hbad0 : Hid (∀ wx rb bv, St w.heap.size w wx rb bv ds 0 false → Calls Try.prog 19 #[.pointer (some ⟨rb, 0, none⟩)] wx fun e w' => e = .returned (.bool false) ∧ St w.heap.size w w' rb bv ds 0 false) := fun wx rb bv h => h.isBad
  go_enter Try.func4, Try.ntmps4
  go_wp2_with (first
    | (go_at_call 16; (with_reducible refine hcut.out.mono ?_); rintro e w1 ⟨v1, rfl, ho1, hb1⟩; have hl1 := lies_own ho1; obtain ⟨ao, cp, rfl, hcp, hao, -⟩ := hl1)
    | (go_at_call 17; (with_reducible refine (st_new w w1 w.heap.size _ ds ho1 hb1.size hds (by omega) hb1).mono ?_); rintro e w2 ⟨rb, rfl, h2⟩)
    | (go_at_call 18; (with_reducible refine (hleft0.out _ _ _ h2).mono ?_); rintro e w3 ⟨rfl, h3⟩)
    | (go_at_call 19; (with_reducible refine (hbad0.out _ _ _ h3).mono ?_); rintro e w4 ⟨rfl, h4⟩)
    | (go_at_call 8; (with_reducible refine (hwithin.out _).mono ?_); rintro e wx ⟨rfl, hx⟩; have hx := hx.symm; subst hx))
  clear hcut hwithin hleft0 hbad0 h2 h3 ho1 hb1
  go_loopw [6] (fun i wr => ∃ k : Nat, k ≤ m ∧ i = .int .i64 k ∧ St w.heap.size w wr rb (.slice ao ds.length cp) ds k false) (fun i _ => m - (intOf i).toNat)
  case atStart => exact ⟨0, by omega, rfl, h4⟩
  case round =>
    obtain ⟨k, hk, rfl, hst⟩ := hrel
    by_cases hkm : k < m
    · have hlt : k / 8 < ds.length := by omega
      obtain ⟨g, cap, hgc, -, -⟩ := hst.own.form (by omega)
      injection hgc with e1 e2 e3
      subst e1 e3
      have hbit := hst.drew.bit (by omega)
      have hcell : wr.cell? ⟨g, k / 8, none⟩ = some (.int .u8 ((ds.getD (k / 8) 0 : Nat) : Int)) := by
        rw [hst.own.cellAt _ (by omega)]
        simp [byteV, hlt]
      have hcell2 : Hid (∀ wx, St w.heap.size w wx rb (.slice (some ⟨g, 0, none⟩) ds.length cp) ds (k + 1) false → wx.cell? ⟨g, k / 8, none⟩ = some (.int .u8 ((ds.getD (k / 8) 0 : Nat) : Int))) := by
        intro wx h
        rw [h.own.cellAt _ (by omega)]
        simp [byteV, hlt]
      have hvb := val_bit hds k
      have hx2 := byte_lt hds (k / 8)
      obtain ⟨x, hxe⟩ : ∃ x, x = ds.getD (k / 8) 0 := ⟨_, rfl⟩
      rw [← hxe] at hcell hcell2 hvb hx2
      have HV : Hid (val ds / 2 ^ k % 2 = x / 2 ^ (k % 8) % 2) := hvb
      rw [hvb] at hbit
      have HB : Hid (Calls Try.prog 20 #[.pointer (some ⟨rb, 0, none⟩)] wr.drew fun e w' => e = .returned (.int .i64 ((x / 2 ^ (k % 8) % 2 : Nat) : Int)) ∧ St w.heap.size w w' rb (.slice (some ⟨g, 0, none⟩) ds.length cp) ds (k + 1) false) := hbit
      have hdg := digit_at x (k % 8) hx2
      obtain ⟨d, hd⟩ : ∃ d, d = x / 2 ^ (k % 8) % 2 := ⟨_, rfl⟩
      rw [← hd] at HB hdg
      clear hd hxe hvb hbit
      go_wp2_with fail
      have t1 : (k : Int).tdiv 8 = (k : Int) / 8 := Int.tdiv_eq_ediv_of_nonneg (by omega)
      have t2 : (k : Int).tmod 8 = (k : Int) % 8 := Int.tmod_eq_emod_of_nonneg (by omega)
      have t3 : IntKind.i64.wrap ((k : Int) / 8) = (k : Int) / 8 := by rw [IntKind.wrap_i64]; omega
      have t4 : IntKind.u64.wrap ((k : Int) % 8) = (k : Int) % 8 := by rw [IntKind.wrap_u64]; omega
      have t5 : 0 ≤ (k : Int) / 8 ∧ (k : Int) / 8 < (ds.length : Int) := by omega
      have t6 : ((k : Int) / 8).toNat = k / 8 := by omega
      have t7 : ((k : Int) % 8).toNat = k % 8 := by omega
      have t8 : IntKind.i64.wrap (bits .and .u8 ((x : Int) / 2 ^ (k % 8)) 1) = (d : Int) := by rw [← hdg, IntKind.wrap_i64]; unfold wrap64; rfl
      go_region_with (first
        | (go_at_call 20; (with_reducible refine HB.out.mono ?_); rintro e w5 ⟨rfl, h5⟩; have c5 := hcell2.out _ h5))
      all_goals
        go_wp2
        go_roundw
        case rel => exact ⟨k + 1, by omega, by go_num, h5⟩
        case measure => simp [intOf]; omega
    · have hkk : k = m := by omega
      subst hkk
      have hleft1 : Hid (∀ wx bad, St w.heap.size w wx rb (.slice ao ds.length cp) ds k bad → Calls Try.prog 18 #[.pointer (some ⟨rb, 0, none⟩)] wx fun e w' => e = .returned (.int .i64 (8 * (ds.length : Int) - k)) ∧ St w.heap.size w w' rb (.slice ao ds.length cp) ds k bad) := fun wx bad h => h.left
      have hbad1 : Hid (∀ wx bad, St w.heap.size w wx rb (.slice ao ds.length cp) ds k bad → Calls Try.prog 19 #[.pointer (some ⟨rb, 0, none⟩)] wx fun e w' => e = .returned (.bool bad) ∧ St w.heap.size w w' rb (.slice ao ds.length cp) ds k bad) := fun wx bad h => h.isBad
      have hbit1 : Hid (∀ wx, St w.heap.size w wx rb (.slice ao ds.length cp) ds k true → Calls Try.prog 20 #[.pointer (some ⟨rb, 0, none⟩)] wx fun e w' => e = .returned (.int .i64 0) ∧ St w.heap.size w w' rb (.slice ao ds.length cp) ds k true) := fun wx h => h.bitNot (fun h => by cases h.1)
      have hget0 : Hid (∀ wx, St w.heap.size w wx rb (.slice ao ds.length cp) ds k true → Calls Try.prog 21 #[.pointer (some ⟨rb, 0, none⟩), .int .i64 0] wx fun e w' => e = .returned (.int .i64 0) ∧ St w.heap.size w w' rb (.slice ao ds.length cp) ds k true) := fun wx h => h.getNot 0 (fun h => by cases h.1)
      have hget17 : Hid (∀ wx, St w.heap.size w wx rb (.slice ao ds.length cp) ds k false → Calls Try.prog 21 #[.pointer (some ⟨rb, 0, none⟩), .int .i64 17] wx fun e w' => e = .returned (.int .i64 0) ∧ St w.heap.size w w' rb (.slice ao ds.length cp) ds k true) := fun wx h => h.getNot 17 (fun h => by have := h.2.2.1; omega)
      have hgetl : Hid (∀ wx, St w.heap.size w wx rb (.slice ao ds.length cp) ds k false → Calls Try.prog 21 #[.pointer (some ⟨rb, 0, none⟩), .int .i64 (8 * (ds.length : Int) - k + 1)] wx fun e w' => e = .returned (.int .i64 0) ∧ St w.heap.size w w' rb (.slice ao ds.length cp) ds k true) := fun wx h => h.getNot _ (fun h => by have := h.2.2.2; omega)
      by_cases h16 : 8 * (ds.length : Int) - k < 16
      · go_wp2_with (first
          | (go_at_call 18; (with_reducible refine (hleft1.out _ _ (by assumption)).mono ?_); rintro e w6 ⟨rfl, h6⟩)
          | (go_at_call 19; (with_reducible refine (hbad1.out _ _ (by assumption)).mono ?_); rintro e w7 ⟨rfl, h7⟩)
          | (go_at_call 20; (with_reducible refine (hbit1.out _ (by assumption)).mono ?_); rintro e w8 ⟨rfl, h8⟩)
          | (go_at_call 21; (with_reducible refine (hget0.out _ (by assumption)).mono ?_); rintro e w9 ⟨rfl, h9⟩)
          | (go_at_call 21; (with_reducible refine (hgetl.out _ (by assumption)).mono ?_); rintro e w10 ⟨rfl, h10⟩)
          | (go_at_call 15; (with_reducible refine (hwk.out _).mono ?_); rintro e w11 ⟨rfl, hb11⟩))
        go_ret
        exact ⟨rfl, (h6.old hb11).below⟩
      · go_wp2_with (first
          | (go_at_call 18; (with_reducible refine (hleft1.out _ _ (by assumption)).mono ?_); rintro e w6 ⟨rfl, h6⟩)
          | (go_at_call 19; (with_reducible refine (hbad1.out _ _ (by assumption)).mono ?_); rintro e w7 ⟨rfl, h7⟩)
          | (go_at_call 21; (with_reducible refine (hget17.out _ (by assumption)).mono ?_); rintro e w10 ⟨rfl, h10⟩)
          | (go_at_call 15; (with_reducible refine (hwk.out _).mono ?_); rintro e w11 ⟨rfl, hb11⟩))
        go_ret
        exact ⟨rfl, (h6.old hb11).below⟩
end Go.Proofs.Ytilepfblbdlfkaa
