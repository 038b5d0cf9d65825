/-
  The document's example (wakes); steps that a law writes out.
-/
import Derived.Test.YthjnkoagmjcjfaaSe
import Derived.Lib.SlBytesConst
set_option linter.unusedSimpArgs false
set_option linter.unusedVariables false
namespace Go.Proofs.Ythjnkoagmjcjfaa
open Go.RowKit

theorem tells_lit (w : World) (l : List St) (cs : Array Value) (T : Nat) (n : Nat) (hn : l.length = n) (hcs : cs = (cellsL l).toArray) : Tells (w.alloc (.cells cs T)) (.slice (some ⟨w.heap.size, 0, none⟩) n n) l := by
  subst hcs hn
  refine .inr ⟨w.heap.size, 0, _, rfl, fun j u hu => ?_⟩
  rw [cell_of_row _ _ _ _ T (0, 0) (heap_alloc_new w _)]
  simpa using hu

/-- Split, of bytes that lie anywhere. -/
theorem split_hid (b : List Nat) (l : List St) (hl : splitL b = l) (hb : b.length ≤ 5864062014000) : Hid (∀ w v, Lies w v b → Calls Try.prog 9 #[v] w fun e w' => ∃ v', e = .returned v' ∧ Tells w' v' l ∧ Below w.heap.size w w') := by
  intro w v hv
  refine (split_walk w v b hv hb).mono ?_
  rintro e w' ⟨v', rfl, h, hbl⟩
  exact ⟨v', rfl, hl ▸ tells_own h, hbl⟩

theorem sameS_hid (xs ys : List St) (hl : xs.length ≤ 281474976710656) (he : xs = ys) : Hid (∀ w u v, Tells w u xs → Tells w v ys → Calls Try.prog 10 #[u, v] w fun e w' => e = .returned (.bool true) ∧ Below w.heap.size w w') :=
  fun w u v hu hv => sameS_eq w u v xs ys hu hv hl he

theorem Try.underlying5 : Try.prog.underlying 5 = some (.int .u8) := by kernel_rfl

/-- Bytes of a text that a law writes out. -/
theorem lies_const (w : World) (L : List Nat) (cs : Array Value) (hcs : cs = (L.map byteV).toArray) (fr : Nat × Nat) : Lies (w.alloc (.cells cs 5 fr)) (.slice (some ⟨w.heap.size, 0, none⟩) L.length L.length) L := by
  subst hcs
  refine ⟨_, _, rfl, Nat.le_refl _, fun h => (by cases h), fun a ha j u hu => ?_⟩
  cases ha
  have hadd : (⟨w.heap.size, 0, none⟩ : Addr).add j = ⟨w.heap.size, j, none⟩ := by unfold Addr.add; split <;> simp_all
  rw [hadd, cell_of_row _ _ j _ 5 fr (heap_alloc_new w _)]
  simpa using hu

theorem conv_const : ∀ (w : World) (C : Array Value) (n c : Nat), (convert 23 23 (.slice (some ⟨w.heap.size, 0, none⟩) n c)).run Try.prog (w.alloc (.cells C 5)) = .ok (.slice (some ⟨w.heap.size, 0, none⟩) n c) (w.alloc (.cells C 5 (C.size, C.size + 1))) := fun w C n c => Lib.run_convert_bytes_const w 23 5 C n c Try.underlying23 Try.underlying5

set_option maxRecDepth 100000 in
theorem wakes_walk (w : World) : Calls Try.prog 13 #[] w fun e w' => e = .returned (.bool true) ∧ Below w.heap.size w w' := by
  have hs := split_hid [97, 97, 97, 97] [⟨97, 0, 0⟩, ⟨0, 3, 1⟩] (by rfl) (by decide)
  have hm := sameS_hid [⟨97, 0, 0⟩, ⟨0, 3, 1⟩] [⟨97, 0, 0⟩, ⟨0, 3, 1⟩] (by decide) rfl
  have hi : Hid (Lies (w.alloc (.cells #[.int .u8 97, .int .u8 97, .int .u8 97, .int .u8 97] 5 (4, 5))) (.slice (some ⟨w.heap.size, 0, none⟩) 4 4) [97, 97, 97, 97]) := lies_const w [97, 97, 97, 97] _ rfl _
  have kc := conv_const
  go_enter Try.func13, Try.ntmps13
  go_wp2_with (first
    | (go_at_call 9; (with_reducible refine (hs.out _ _ hi.out).mono ?_); rintro e w1 ⟨v1, rfl, ht, hb⟩
       have ht2 : Hid (Tells (w1.alloc (.cells #[.int .u8 97, .int .i64 0, .int .i64 0, .int .u8 0, .int .i64 3, .int .i64 1] 27)) v1 _) := ht.old ((Below.refl _ _).alloc (Nat.le_refl _) _)
       have ht3 : Hid (Tells (w1.alloc (.cells #[.int .u8 97, .int .i64 0, .int .i64 0, .int .u8 0, .int .i64 3, .int .i64 1] 27)) (.slice (some ⟨w1.heap.size, 0, none⟩) 2 2) [⟨97, 0, 0⟩, ⟨0, 3, 1⟩]) := tells_lit w1 _ _ 27 2 rfl rfl)
    | (go_at_call 10; (with_reducible refine (hm.out _ _ _ ht2.out ht3.out).mono ?_); rintro e w2 ⟨rfl, hb2⟩))
  go_ret
  refine ⟨rfl, ?_⟩
  have h1 : Below w.heap.size w (w.alloc (.cells #[.int .u8 97, .int .u8 97, .int .u8 97, .int .u8 97] 5 (4, 5))) := (Below.refl _ _).alloc (Nat.le_refl _) _
  have h2 := h1.trans (hb.mono (by simp))
  have h3 : Below w1.heap.size w1 (w1.alloc (.cells #[.int .u8 97, .int .i64 0, .int .i64 0, .int .u8 0, .int .i64 3, .int .i64 1] 27)) := (Below.refl _ _).alloc (Nat.le_refl _) _
  exact (h2.trans (h3.mono h2.size)).trans (hb2.mono (by have := h2.size; simp; omega))

theorem wakes_hid : Hid (∀ w, Calls Try.prog 13 #[] w fun e w' => e = .returned (.bool true) ∧ Below w.heap.size w w') := wakes_walk
end Go.Proofs.Ythjnkoagmjcjfaa
