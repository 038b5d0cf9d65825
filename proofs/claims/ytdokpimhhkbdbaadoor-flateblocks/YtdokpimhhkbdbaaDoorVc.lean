/-
  Unpack of bytes that a law writes out; the document's example (wakes).
-/
import Derived.Test.YtdokpimhhkbdbaaDoorUh
import Derived.Test.YtdokpimhhkbdbaaDoorVa
import Derived.Test.YtdokpimhhkbdbaaDoorVb
import Derived.Lib.SlBytesConst
set_option linter.unusedSimpArgs false
set_option linter.unusedVariables false
namespace Go.Proofs.YtdokpimhhkbdbaaDoor.Q
open Go.RowKit

theorem small_of {bs : List Nat} (h : bs.all (fun b => decide (b < 256)) = true) : Small bs := fun b hb => by simpa using List.all_eq_true.1 h b hb

theorem unp_ok (bs o : List Nat) (h : unp bs = .ok o) (hs : Small bs) (hl : bs.length ≤ 140737488355328) : Hid (∀ w v, Lies w v bs → Calls Tryd.prog 8 #[v] w fun e w' => ∃ v', e = .returned (.tuple #[v', .int .i64 0]) ∧ Hid (w'.ownsRow w.heap.size 5 1 v' o.length (o.map byteV)) ∧ Hid (Below w.heap.size w w')) := by
  intro w v hv
  refine (unpack_any w v bs hv hs hl (by rw [h]; intro e; cases e)).mono ?_
  rintro e w' ⟨hu, hb⟩
  unfold Unpacked at hu
  rw [h] at hu
  obtain ⟨v', h1, h2⟩ := hu
  exact ⟨v', h1, h2, hb⟩

theorem unp_bad (bs : List Nat) (h : unp bs = .error 2) (hs : Small bs) (hl : bs.length ≤ 140737488355328) : Hid (∀ w v, Lies w v bs → Calls Tryd.prog 8 #[v] w fun e w' => e = .returned (.tuple #[.slice none 0 0, .int .i64 2]) ∧ Hid (Below w.heap.size w w')) := by
  intro w v hv
  refine (unpack_any w v bs hv hs hl (by rw [h]; intro e; cases e)).mono ?_
  rintro e w' ⟨hu, hb⟩
  unfold Unpacked at hu
  rw [h] at hu
  exact ⟨hu, hb⟩

theorem Tryd.underlying5 : Tryd.prog.underlying 5 = some (.int .u8) := by kernel_rfl

theorem lies_const (w : World) (L : List Nat) (cs : Array Value) (hcs : cs = (L.map byteV).toArray) (fr : Nat × Nat) : Lies (w.alloc (.cells cs 5 fr)) (.slice (some ⟨w.heap.size, 0, none⟩) L.length L.length) L := by
  subst hcs
  refine ⟨_, _, rfl, Nat.le_refl _, fun h => (by cases h), fun a ha j u hu => ?_⟩
  cases ha
  have hadd : (⟨w.heap.size, 0, none⟩ : Addr).add j = ⟨w.heap.size, j, none⟩ := by unfold Addr.add; split <;> simp_all
  rw [hadd, cell_of_row _ _ j _ 5 fr (heap_alloc_new w _)]
  simpa using hu

theorem conv_const : ∀ (w : World) (C : Array Value) (n c : Nat), (convert 22 22 (.slice (some ⟨w.heap.size, 0, none⟩) n c)).run Tryd.prog (w.alloc (.cells C 5)) = .ok (.slice (some ⟨w.heap.size, 0, none⟩) n c) (w.alloc (.cells C 5 (C.size, C.size + 1))) := fun w C n c => Lib.run_convert_bytes_const w 22 5 C n c Lz.Tryd.underlying23 Tryd.underlying5

theorem sameB_hid (xs : List Nat) (hl : xs.length ≤ 281474976710656) : Hid (∀ w u v, Lies w u xs → Lies w v xs → Calls Tryd.prog 20 #[u, v] w fun e w' => e = .returned (.bool true) ∧ Hid (Below w.heap.size w w')) := by
  intro w u v hu hv
  refine (same_any w u v xs xs hu hv hl).mono ?_
  rintro e w' ⟨rfl, hb⟩
  exact ⟨by simp, hb⟩

set_option maxRecDepth 100000 in
theorem wakes_walk (w : World) : Calls Tryd.prog 10 #[] w fun e w' => e = .returned (.bool true) ∧ Below w.heap.size w w' := by
  have hu := unp_ok _ _ u_a (small_of (by decide)) (by decide)
  have hs := mkHid stored_nil
  have hm1 := sameB_hid [1, 0, 0, 255, 255] (by decide)
  have hm2 := sameB_hid [97] (by decide)
  have hi : Hid (Lies (w.alloc (.cells #[.int .u8 75, .int .u8 4, .int .u8 0] 5)) (.slice (some ⟨w.heap.size, 0, none⟩) 3 3) [75, 4, 0]) := lies_lit w [75, 4, 0] _ rfl
  have HA : Hid (Below w.heap.size w (w.alloc (.cells #[.int .u8 75, .int .u8 4, .int .u8 0] 5))) := (Below.refl _ _).alloc (Nat.le_refl _) _
  have kc := conv_const
  go_enter Tryd.func10, Tryd.ntmps10
  go_wp2_with (first
    | (go_at_call 8; (with_reducible refine (hu.out _ _ hi.out).mono ?_); rintro e w1 ⟨v1, rfl, H1, B1⟩
       have L1 := mkHid (lies_n (bs := [97]) rfl H1.out)
       have C1 := mkHid (HA.out.trans (B1.out.mono (by simp))))
    | (go_at_call 21; (with_reducible refine (hs.out _).mono ?_); rintro e w2 ⟨v2, rfl, L2, B2⟩
       have C2 := mkHid (C1.out.trans (B2.out.mono C1.out.size))
       have hal := (Below.refl w2.heap.size w2).alloc (Nat.le_refl _) (.cells #[.int .u8 1, .int .u8 0, .int .u8 0, .int .u8 255, .int .u8 255] 5)
       have L2a := mkHid (L2.out.old hal)
       have L2b : Hid (Lies (w2.alloc (.cells #[.int .u8 1, .int .u8 0, .int .u8 0, .int .u8 255, .int .u8 255] 5)) (.slice (some ⟨w2.heap.size, 0, none⟩) 5 5) [1, 0, 0, 255, 255]) := lies_lit w2 [1, 0, 0, 255, 255] _ rfl
       have L1a := mkHid ((L1.out.old B2.out).old hal)
       have C3 := mkHid (C2.out.trans (hal.mono C2.out.size))
       clear hal)
    | (go_at_call 20; (with_reducible refine (hm1.out _ _ _ L2a.out L2b.out).mono ?_); rintro e w3 ⟨rfl, B3⟩
       have C4 := mkHid (C3.out.trans (B3.out.mono C3.out.size))
       have hal2 := (Below.refl w3.heap.size w3).alloc (Nat.le_refl _) (.cells #[.int .u8 97] 5 (1, 2))
       have L4a := mkHid ((L1a.out.old B3.out).old hal2)
       have L4b : Hid (Lies (w3.alloc (.cells #[.int .u8 97] 5 (1, 2))) (.slice (some ⟨w3.heap.size, 0, none⟩) 1 1) [97]) := lies_const w3 [97] _ rfl _
       have C5 := mkHid (C4.out.trans (hal2.mono C4.out.size))
       clear hal2)
    | (go_at_call 20; (with_reducible refine (hm2.out _ _ _ L4a.out L4b.out).mono ?_); rintro e w4 ⟨rfl, B4⟩))
  go_ret
  exact ⟨rfl, C5.out.trans (B4.out.mono C5.out.size)⟩

theorem wakes_hid : Hid (∀ w, Calls Tryd.prog 10 #[] w fun e w' => e = .returned (.bool true) ∧ Hid (Below w.heap.size w w')) := wakes_walk
end Go.Proofs.YtdokpimhhkbdbaaDoor.Q
