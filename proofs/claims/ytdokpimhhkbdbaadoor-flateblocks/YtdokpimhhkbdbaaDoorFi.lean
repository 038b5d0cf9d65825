/-
  huff.Fixed.
-/
import Derived.Test.YtdokpimhhkbdbaaDoorAh
set_option linter.unusedSimpArgs false
set_option linter.unusedVariables false
namespace Go.Proofs.YtdokpimhhkbdbaaDoor
open Go.RowKit

set_option maxHeartbeats 1000000 in
theorem again_walk (w : World) (B : Nat) (v : Value) (n : Nat) (xs : List Value) (x t : Nat) (ho : w.ownsRow B 3 1 v n xs) (hB : B ≤ w.heap.size) (hn : n ≤ 1000) (ht : t ≤ 1000) :
    Calls Tryd.prog 61 #[v, .int .i64 (x : Int), .int .i64 (t : Int)] w fun e w' => ∃ v', e = .returned v' ∧ w'.ownsRow B 3 1 v' (n + t) (xs ++ List.replicate t (natV x)) ∧ Below B w w' := by
  go_enter Tryd.func61, Tryd.ntmps61
  go_wp2
  go_loopw [0, 8] (fun u i wr => ∃ k : Nat, k ≤ t ∧ i = .int .i64 (k : Int) ∧ wr.ownsRow B 3 1 u (n + k) (xs ++ List.replicate k (natV x)) ∧ Below B w wr) (fun _ i _ => t - (intOf i).toNat)
  case atStart => exact ⟨0, by omega, rfl, by simpa using ho, Below.refl _ _⟩
  case round =>
    obtain ⟨k, hk, rfl, ho2, hb⟩ := hrel
    have hBr : B ≤ wr.heap.size := Nat.le_trans hB hb.size
    by_cases hkt : k < t
    · go_wp2_with (at_builtin; refine wpList_push rfl (.tmp 10) (.tmp 12) rfl B _ (n + k) _ rfl ho2 (x : Int) wr.heap.size rfl rfl (by omega) hBr ?_; intro g2 cap2 w2 ho3 hf3 hat3 hb3)
      go_roundw
      case rel =>
        refine ⟨k + 1, by omega, by go_num, ?_, hb.trans hb3⟩
        rw [List.replicate_succ', ← List.append_assoc]
        exact ho3
      case measure => simp [intOf]; omega
    · have hkk : k = t := by omega
      subst hkk
      go_wp2
      go_ret
      exact ⟨_, rfl, ho2, hb⟩

def litsL : List Nat := List.replicate 144 8 ++ List.replicate 112 9 ++ List.replicate 24 7 ++ List.replicate 8 8
def distsL : List Nat := List.replicate 32 5

theorem lits_ok : OK (castL litsL) := by decide +kernel
theorem dists_ok : OK (castL distsL) := by decide +kernel
theorem lits_len : litsL.length = 288 := by decide +kernel
theorem dists_len : distsL.length = 32 := by decide +kernel
theorem lits_256 : nth litsL 256 = 7 ∧ code litsL 256 = 0 := by decide +kernel
theorem lits_144 : nth litsL 144 = 9 ∧ code litsL 144 = 400 := by decide +kernel

set_option maxRecDepth 100000 in
theorem fixed_walk (w : World) : Calls Tryd.prog 47 #[] w fun e w' => ∃ ao cap bo cap', e = .returned (.tuple #[.slice ao 288 cap, .slice bo 32 cap']) ∧ Ints w' (.slice ao 288 cap) (castL litsL) ∧ Ints w' (.slice bo 32 cap') (castL distsL) ∧ Below w.heap.size w w' := by
  obtain ⟨B, hB⟩ : ∃ B, B = w.heap.size := ⟨_, rfl⟩
  have h1 : Hid (Calls Tryd.prog 61 #[.slice none 0 0, .int .i64 8, .int .i64 144] w fun e w' => ∃ v', e = .returned v' ∧ w'.ownsRow B 3 1 v' 144 (List.replicate 144 (natV 8)) ∧ Below B w w') := by
    refine (again_walk w B _ 0 [] 8 144 (World.ownsRow_nil _ _ _ _) (by omega) (by omega) (by omega)).mono ?_
    rintro e w' ⟨v', rfl, ho, hb⟩
    exact ⟨v', rfl, by simpa using ho, hb⟩
  have h2 : Hid (∀ w1 v1, w1.ownsRow B 3 1 v1 144 (List.replicate 144 (natV 8)) → Below B w w1 → Calls Tryd.prog 61 #[v1, .int .i64 9, .int .i64 112] w1 fun e w' => ∃ v', e = .returned v' ∧ w'.ownsRow B 3 1 v' 256 (List.replicate 144 (natV 8) ++ List.replicate 112 (natV 9)) ∧ Below B w w') := by
    intro w1 v1 ho hb
    refine (again_walk w1 B v1 144 _ 9 112 ho (by have := hb.size; omega) (by omega) (by omega)).mono ?_
    rintro e w' ⟨v', rfl, ho2, hb2⟩
    exact ⟨v', rfl, ho2, hb.trans hb2⟩
  have h3 : Hid (∀ w1 v1, w1.ownsRow B 3 1 v1 256 (List.replicate 144 (natV 8) ++ List.replicate 112 (natV 9)) → Below B w w1 → Calls Tryd.prog 61 #[v1, .int .i64 7, .int .i64 24] w1 fun e w' => ∃ v', e = .returned v' ∧ w'.ownsRow B 3 1 v' 280 (List.replicate 144 (natV 8) ++ List.replicate 112 (natV 9) ++ List.replicate 24 (natV 7)) ∧ Below B w w') := by
    intro w1 v1 ho hb
    refine (again_walk w1 B v1 256 _ 7 24 ho (by have := hb.size; omega) (by omega) (by omega)).mono ?_
    rintro e w' ⟨v', rfl, ho2, hb2⟩
    exact ⟨v', rfl, ho2, hb.trans hb2⟩
  have h4 : Hid (∀ w1 v1, w1.ownsRow B 3 1 v1 280 (List.replicate 144 (natV 8) ++ List.replicate 112 (natV 9) ++ List.replicate 24 (natV 7)) → Below B w w1 → Calls Tryd.prog 61 #[v1, .int .i64 8, .int .i64 8] w1 fun e w' => ∃ ao cap, e = .returned (.slice ao 288 cap) ∧ w'.ownsRow B 3 1 (.slice ao 288 cap) 288 (litsL.map natV) ∧ Below B w w') := by
    intro w1 v1 ho hb
    refine (again_walk w1 B v1 280 _ 8 8 ho (by have := hb.size; omega) (by omega) (by omega)).mono ?_
    rintro e w' ⟨v', rfl, ho2, hb2⟩
    obtain ⟨g, cap, rfl, -, -⟩ := ho2.form (by omega)
    refine ⟨_, cap, rfl, ?_, hb.trans hb2⟩
    have e : litsL.map natV = List.replicate 144 (natV 8) ++ List.replicate 112 (natV 9) ++ List.replicate 24 (natV 7) ++ List.replicate 8 (natV 8) := by
      unfold litsL
      rw [List.map_append, List.map_append, List.map_append, List.map_replicate, List.map_replicate, List.map_replicate, List.map_replicate]
    rw [e]
    exact ho2
  have h5 : Hid (∀ w1 ao cap, w1.ownsRow B 3 1 (.slice ao 288 cap) 288 (litsL.map natV) → Below B w w1 → Calls Tryd.prog 61 #[.slice none 0 0, .int .i64 5, .int .i64 32] w1 fun e w' => ∃ bo cap', e = .returned (.slice bo 32 cap') ∧ Ints w' (.slice ao 288 cap) (castL litsL) ∧ Ints w' (.slice bo 32 cap') (castL distsL) ∧ Below B w w') := by
    intro w1 ao cap ho hb
    refine (again_walk w1 w1.heap.size _ 0 [] 5 32 (World.ownsRow_nil _ _ _ _) (by omega) (by omega) (by omega)).mono ?_
    rintro e w' ⟨v', rfl, ho2, hb2⟩
    obtain ⟨g, cap', rfl, -, -⟩ := ho2.form (by omega)
    have hI1 : Ints w1 (.slice ao 288 cap) (castL litsL) := ints_own (B := B) (by rw [castL_map]; exact ho) (by rw [castL_length]; exact lits_len)
    refine ⟨_, cap', rfl, hI1.old hb2, ?_, hb.trans (hb2.mono (by have := hb.size; omega))⟩
    have e : distsL.map natV = List.replicate 32 (natV 5) := by unfold distsL; rw [List.map_replicate]
    refine ints_own (B := w1.heap.size) (n := 32) ?_ (by rw [castL_length]; exact dists_len)
    rw [castL_map, e]
    exact owns_cast ho2 (Nat.zero_add 32) (List.nil_append _)
  go_enter Tryd.func47, Tryd.ntmps47
  go_wp2_with (first
    | (go_at_call 61; (with_reducible refine h1.out.mono ?_); rintro e w1 ⟨v1, rfl, o1, b1⟩)
    | (go_at_call 61; (with_reducible refine (h2.out _ _ o1 b1).mono ?_); rintro e w2 ⟨v2, rfl, o2, b2⟩)
    | (go_at_call 61; (with_reducible refine (h3.out _ _ o2 b2).mono ?_); rintro e w3 ⟨v3, rfl, o3, b3⟩)
    | (go_at_call 61; (with_reducible refine (h4.out _ _ o3 b3).mono ?_); rintro e w4 ⟨ao, cap, rfl, o4, b4⟩)
    | (go_at_call 61; (with_reducible refine (h5.out _ _ _ o4 b4).mono ?_); rintro e w5 ⟨bo, cap', rfl, i4, i5, b5⟩))
  go_ret2
  rw [← hB]
  exact ⟨ao, cap, bo, cap', rfl, i4, i5, b5⟩

end Go.Proofs.YtdokpimhhkbdbaaDoor
