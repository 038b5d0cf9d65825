/-
  BitsAlign: the walk.
-/
import Derived.Test.YtilepfblbdlfkaaRs
import Derived.Deep.RegionHeld3
import Derived.Deep.RegionWith
set_option linter.unusedSimpArgs false
set_option linter.unusedVariables false
namespace Go.Proofs.Ytilepfblbdlfkaa
open Go.RowKit

set_option maxRecDepth 100000 in
set_option maxHeartbeats 4000000 in
theorem align_law (w : World) (v : Value) (bs : List Nat) (n : Int) (hv : Lies w v bs) (hs : Small bs) (hl : bs.length ≤ 140737488355328) :
    Calls Try.prog 5 #[v, .int .i64 n] w fun e w' => e = .returned (.bool true) ∧ Below w.heap.size w w' := by
  obtain ⟨i, hi, hz0, hz1, hz2⟩ := info_parts Try.info5
  obtain ⟨m, hm, hwithin⟩ := within_lit n 17 17 (by decide) rfl (by decide)
  obtain ⟨xs, hxs⟩ : ∃ xs, xs = bs.take 8 := ⟨_, rfl⟩
  have hxl : xs.length ≤ 8 := by rw [hxs, List.length_take]; omega
  have hxm : Small xs := fun b hb => hs b (List.mem_of_mem_take (by rw [hxs] at hb; exact hb))
  have hcut : Hid (Calls Try.prog 16 #[v, .int .i64 8] w fun e w' => ∃ v', e = .returned v' ∧ w'.ownsRow w.heap.size 5 1 v' xs.length (xs.map byteV) ∧ Below w.heap.size w w') := by
    rw [hxs]; exact cut_walk w v bs 8 (by decide) hv hl
  clear hxs hv
  have hds : Small (xs ++ [1, 2, 3]) := by
    intro b hb
    rcases List.mem_append.1 hb with h | h
    · exact hxm b h
    · simp at h; omega
  obtain ⟨ds, hde⟩ : ∃ ds, ds = xs ++ [1, 2, 3] := ⟨_, rfl⟩
  have hdl : ds.length = xs.length + 3 := by rw [hde]; simp
  have hdm : ds.map byteV = xs.map byteV ++ [.int .u8 1, .int .u8 2, .int .u8 3] := by rw [hde]; simp [byteV]
  rw [← hde] at hds
  have HM : Hid (ds.map byteV = xs.map byteV ++ [.int .u8 1, .int .u8 2, .int .u8 3]) := hdm
  have HL : Hid (ds.length = xs.length + 3) := hdl
  have hd3 : 3 ≤ ds.length ∧ ds.length ≤ 11 := by omega
  clear hde hdm hdl hxm
  go_enter Try.func5, Try.ntmps5
  go_wp2_with (first
    | (go_at_call 16; (with_reducible refine hcut.out.mono ?_); rintro e w1 ⟨v1, rfl, ho1, hb1⟩)
    | (at_builtin; refine wpList_append_own _ rfl (.tmp 8) (.tmp 9) 25 rfl w.heap.size 5 i (.int .u8 0) 1 1 Try.underlying25 hi hz0 hz1 hz2 rfl (by decide) v1 xs.length _ rfl (ho1.alloc _) ⟨w1.heap.size, 0, none⟩ 3 3 [.int .u8 1, .int .u8 2, .int .u8 3] rfl rfl ?c1 ?c2 (by unfold maxLen; omega) (by omega) (by have := hb1.size; simp; omega) ?_))
  case c1 => exact World.news_of_block (heap_alloc_new w1 _)
  case c2 => intro u hu; simp at hu; rcases hu with rfl | rfl | rfl <;> rfl
  intro v2 w2 ho2 hg2 _
  have hb2 : Below w.heap.size w w2 := (hb1.alloc hb1.size _).grown hg2 (by have := hb1.size; simp; omega) (fun k hk => (ho1.lt k hk).1)
  rw [← HM.out, ← HL.out] at ho2
  obtain ⟨g, cap, rfl, -, -⟩ := ho2.form (by omega)
  have hrd : Hid (Calls Try.prog 17 #[.slice (some ⟨g, 0, none⟩) ds.length cap] w2 fun e w' => ∃ rb, e = .returned (.pointer (some ⟨rb, 0, none⟩)) ∧ St w.heap.size w w' rb (.slice (some ⟨g, 0, none⟩) ds.length cap) ds 0 false) := st_new w w2 w.heap.size _ ds ho2 hb2.size hds (by omega) hb2
  clear ho2 hg2 hb2 hb1 ho1 hcut
  obtain ⟨q, hqe⟩ : ∃ q, q = (m + 7) / 8 := ⟨_, rfl⟩
  have e1 : ((m : Int) + 7) / 8 = (q : Int) := by omega
  have hq2 : q ≤ 2 := by omega
  have hx := val_byte hds q
  have hx2 := byte_lt hds q
  obtain ⟨x, hxe⟩ : ∃ x, x = ds.getD q 0 := ⟨_, rfl⟩
  rw [← hxe] at hx hx2
  obtain ⟨z, hz⟩ : ∃ z : Int, z = ((val ds / 2 ^ 0 % 2 ^ m : Nat) : Int) := ⟨_, rfl⟩
  have hget : Hid (∀ wx rb, St w.heap.size w wx rb (.slice (some ⟨g, 0, none⟩) ds.length cap) ds 0 false → Calls Try.prog 21 #[.pointer (some ⟨rb, 0, none⟩), .int .i64 m] wx fun e w' => e = .returned (.int .i64 z) ∧ St w.heap.size w w' rb (.slice (some ⟨g, 0, none⟩) ds.length cap) ds m false) := by
    intro wx rb h
    have := h.get m (by omega) (by omega)
    rw [Nat.zero_add] at this
    rw [hz]
    exact this
  have hal1 : Hid (∀ wx rb, St w.heap.size w wx rb (.slice (some ⟨g, 0, none⟩) ds.length cap) ds m false → Calls Try.prog 22 #[.pointer (some ⟨rb, 0, none⟩)] wx fun e w' => e = .returned (.tuple #[]) ∧ St w.heap.size w w' rb (.slice (some ⟨g, 0, none⟩) ds.length cap) ds (8 * q) false) := by
    intro wx rb h
    have := h.align
    rw [show (m + 7) / 8 * 8 = 8 * q by omega] at this
    exact this
  have hal2 : Hid (∀ wx rb, St w.heap.size w wx rb (.slice (some ⟨g, 0, none⟩) ds.length cap) ds (8 * q) false → Calls Try.prog 22 #[.pointer (some ⟨rb, 0, none⟩)] wx fun e w' => e = .returned (.tuple #[]) ∧ St w.heap.size w w' rb (.slice (some ⟨g, 0, none⟩) ds.length cap) ds (8 * q) false) := by
    intro wx rb h
    have := h.align
    rw [show (8 * q + 7) / 8 * 8 = 8 * q by omega] at this
    exact this
  have hleft : Hid (∀ wx rb, St w.heap.size w wx rb (.slice (some ⟨g, 0, none⟩) ds.length cap) ds (8 * q) false → Calls Try.prog 18 #[.pointer (some ⟨rb, 0, none⟩)] wx fun e w' => e = .returned (.int .i64 (8 * ((ds.length : Int) - q))) ∧ St w.heap.size w w' rb (.slice (some ⟨g, 0, none⟩) ds.length cap) ds (8 * q) false) := by
    intro wx rb h
    have := h.left
    rw [show 8 * (ds.length : Int) - ((8 * q : Nat) : Int) = 8 * ((ds.length : Int) - q) by omega] at this
    exact this
  have hget8 : Hid (∀ wx rb, St w.heap.size w wx rb (.slice (some ⟨g, 0, none⟩) ds.length cap) ds (8 * q) false → Calls Try.prog 21 #[.pointer (some ⟨rb, 0, none⟩), .int .i64 8] wx fun e w' => e = .returned (.int .i64 (x : Int)) ∧ St w.heap.size w w' rb (.slice (some ⟨g, 0, none⟩) ds.length cap) ds (8 * q + 8) false) := by
    intro wx rb h
    have := h.get 8 (by omega) (by omega)
    rw [show (2 : Nat) ^ 8 = 256 from rfl, hx] at this
    exact this
  have hcell : Hid (∀ wx rb pos, St w.heap.size w wx rb (.slice (some ⟨g, 0, none⟩) ds.length cap) ds pos false → wx.cell? ⟨g, q, none⟩ = some (.int .u8 (x : Int))) := by
    intro wx rb pos h
    have hlt : q < ds.length := by omega
    rw [h.own.cellAt q (by omega), hxe]
    simp [byteV, hlt]
  have hqi : (0 : Int) ≤ (q : Int) ∧ (q : Int) < (ds.length : Int) := by omega
  clear hz hx hxe hqe
  go_wp2_with (first
    | (go_at_call 17; (with_reducible refine hrd.out.mono ?_); rintro e w3 ⟨rb, rfl, h3⟩)
    | (go_at_call 8; (with_reducible refine (hwithin.out _).mono ?_); rintro e wx ⟨rfl, hx⟩; have hx := hx.symm; subst hx)
    | (go_at_call 21; (with_reducible refine (hget.out _ _ h3).mono ?_); rintro e w4 ⟨rfl, h4⟩)
    | (go_at_call 22; (with_reducible refine (hal1.out _ _ h4).mono ?_); rintro e w5 ⟨rfl, h5⟩)
    | (go_at_call 18; (with_reducible refine (hleft.out _ _ h5).mono ?_); rintro e w6 ⟨rfl, h6⟩)
    | (go_at_call 22; (with_reducible refine (hal2.out _ _ h6).mono ?_); rintro e w7 ⟨rfl, h7⟩; have c7 := hcell.out _ _ _ h7))
  have hwk := wakes_hid
  have h7d := h7.drew
  have hw1 : IntKind.i64.wrap ((ds.length : Int) - q) = (ds.length : Int) - q := by rw [IntKind.wrap_i64]; omega
  have hw2 : IntKind.i64.wrap (8 * ((ds.length : Int) - q)) = 8 * ((ds.length : Int) - q) := by rw [IntKind.wrap_i64]; omega
  have hw3 : IntKind.i64.wrap (x : Int) = (x : Int) := by rw [IntKind.wrap_i64]; omega
  clear hrd hwithin hget hal1 hal2 h3 h4 h5 h6 hi hz0 hz1 hz2
  go_region_with (first
    | (go_at_call 18; (with_reducible refine (hleft.out _ _ h7d).mono ?_); rintro e w8 ⟨rfl, h8⟩; have c8 := hcell.out _ _ _ h8)
    | (go_at_call 21; (with_reducible refine (hget8.out _ _ h8).mono ?_); rintro e w9 ⟨rfl, h9⟩; have c9 := hcell.out _ _ _ h9)
    | (go_at_call 15; (with_reducible refine (hwk.out _).mono ?_); rintro e w10 ⟨rfl, hb10⟩))
  all_goals
    go_wp2
    go_ret
    exact ⟨rfl, (h9.old hb10).below⟩
end Go.Proofs.Ytilepfblbdlfkaa
