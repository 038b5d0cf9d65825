/-
  Copy and Cut of bytes.
-/
import Derived.Test.YtnldjcjhhenppaaGa
import Derived.Deep.DeepAppendWide
set_option linter.unusedSimpArgs false
set_option linter.unusedVariables false
namespace Go.Proofs.Ytnldjcjhhenppaa
open Go.RowKit

set_option maxRecDepth 100000 in
theorem copy_walk (w : World) (v : Value) (bs : List Nat) (hv : Lies w v bs) (hl : bs.length ≤ 140737488400000) :
    Calls Try.prog 9 #[v] w fun e w' => ∃ v', e = .returned v' ∧ w'.ownsRow w.heap.size 5 1 v' bs.length (bs.map byteV) ∧ Below w.heap.size w w' := by
  obtain ⟨i, hi, hz0, hz1, hz2⟩ := info_parts Try.info5
  obtain ⟨ao, cap, rfl, h2, h3, h4⟩ := hv
  cases ao with
  | none =>
    have hc := h3 rfl
    subst hc
    have : bs = [] := List.length_eq_zero_iff.1 (by omega)
    subst this
    go_enter Try.func9, Try.ntmps9
    go_wp2_with (at_builtin; refine wpList_append_own_none rfl (.const (.slice none 0 0)) (.tmp 3) 22 rfl w.heap.size 5 i 1 Try.underlying22 hi (.slice none 0 0) 0 [] rfl (World.ownsRow_nil _ _ _ _) rfl ?_)
    go_ret
    exact ⟨_, rfl, World.ownsRow_nil _ _ _ _, Below.refl _ _⟩
  | some a =>
    have hc := h4 a rfl
    clear h4 h3
    go_enter Try.func9, Try.ntmps9
    go_wp2_with (at_builtin; refine wpList_append_own_wide _ rfl (.const (.slice none 0 0)) (.tmp 3) 22 rfl w.heap.size 5 i (.int .u8 0) 1 1 Try.underlying22 hi hz0 hz1 hz2 rfl (by decide) (.slice none 0 0) 0 [] rfl (World.ownsRow_nil _ _ _ _) a bs.length cap (bs.map byteV) rfl (by simp) hc (bytes_one bs) (by unfold maxLen; omega) (by omega) (Nat.le_refl _) ?_)
    intro v' w' hown hgrow _
    go_wp2
    go_ret
    exact ⟨_, rfl, by simpa using hown, (Below.refl _ w).grown hgrow (Nat.le_refl _) (fun k hk => by simp [Value.ownBlock] at hk)⟩

theorem Lies.take {w : World} {ao : Option Addr} {cap : Nat} {bs : List Nat} (m : Nat) (hm : m ≤ bs.length) (h : Lies w (.slice ao bs.length cap) bs) : Lies w (.slice ao m cap) (bs.take m) := by
  obtain ⟨ao', cap', h1, h2, h3, h4⟩ := h
  cases h1
  have e : (bs.take m).length = m := by rw [List.length_take]; omega
  refine ⟨ao, cap, by rw [e], by omega, h3, fun a ha j u hu => ?_⟩
  rw [List.map_take, List.getElem?_take] at hu
  split at hu
  · exact h4 a ha j u hu
  · cases hu

theorem cut_walk (w : World) (v : Value) (bs : List Nat) (n : Nat) (hn : n < 1000000) (hv : Lies w v bs) (hl : bs.length ≤ 140737488400000) :
    Calls Try.prog 20 #[v, .int .i64 n] w fun e w' => ∃ v', e = .returned v' ∧ w'.ownsRow w.heap.size 5 1 v' (bs.take n).length ((bs.take n).map byteV) ∧ Below w.heap.size w w' := by
  have hv0 := hv
  obtain ⟨ao, cap, rfl, h2, h3, h4⟩ := hv
  clear h3 h4
  by_cases hle : bs.length ≤ n
  · have e : bs.take n = bs := List.take_of_length_le hle
    rw [e]
    have hc : Hid (Calls Try.prog 9 #[.slice ao bs.length cap] w fun e w' => ∃ v', e = .returned v' ∧ w'.ownsRow w.heap.size 5 1 v' bs.length (bs.map byteV) ∧ Below w.heap.size w w') := copy_walk w _ bs hv0 hl
    clear hv0 e
    cases ao
    all_goals
      go_enter Try.func20, Try.ntmps20
      go_wp2_with (go_at_call 9; (with_reducible refine hc.out.mono ?_); rintro e w' ⟨v', rfl, ho, hb⟩)
      go_ret
      exact ⟨_, rfl, ho, hb⟩
  · have hv1 := hv0.take n (by omega)
    have hc : Hid (Calls Try.prog 9 #[.slice ao n cap] w fun e w' => ∃ v', e = .returned v' ∧ w'.ownsRow w.heap.size 5 1 v' (bs.take n).length ((bs.take n).map byteV) ∧ Below w.heap.size w w') := copy_walk w _ _ hv1 (by rw [List.length_take]; omega)
    clear hv0 hv1
    cases ao
    all_goals
      go_enter Try.func20, Try.ntmps20
      go_wp2_with (go_at_call 9; (with_reducible refine hc.out.mono ?_); rintro e w' ⟨v', rfl, ho, hb⟩)
      go_ret
      exact ⟨_, rfl, ho, hb⟩

end Go.Proofs.Ytnldjcjhhenppaa
