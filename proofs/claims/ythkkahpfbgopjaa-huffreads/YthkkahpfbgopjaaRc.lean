/-
  Copy and Cut of bytes.
-/
import Derived.Test.YthkkahpfbgopjaaRb
set_option linter.unusedSimpArgs false
set_option linter.unusedVariables false
namespace Go.Proofs.Ythkkahpfbgopjaa
open Go.RowKit

set_option maxRecDepth 100000 in
theorem copy_walk (w : World) (v : Value) (bs : List Nat) (hv : Lies w v bs) (hl : bs.length ≤ 140737488355328) :
    Calls Try.prog 22 #[v] w fun e w' => ∃ v', e = .returned v' ∧ w'.ownsRow w.heap.size 5 1 v' bs.length (bs.map byteV) ∧ Below w.heap.size w w' := by
  obtain ⟨i, hi, hz0, hz1, hz2⟩ := info_parts Try.info5
  obtain ⟨ao, cap, rfl, h2, h3, h4⟩ := hv
  cases ao with
  | none =>
    have hc := h3 rfl
    subst hc
    have : bs = [] := List.length_eq_zero_iff.1 (by omega)
    subst this
    go_enter Try.func22, Try.ntmps22
    go_wp2_with (at_builtin; refine wpList_append_own_none rfl (.const (.slice none 0 0)) (.tmp 3) 35 rfl w.heap.size 5 i 1 Try.underlying35 hi (.slice none 0 0) 0 [] rfl (World.ownsRow_nil _ _ _ _) rfl ?_)
    go_ret
    exact ⟨_, rfl, World.ownsRow_nil _ _ _ _, Below.refl _ _⟩
  | some a =>
    have hc := h4 a rfl
    clear h4 h3
    go_enter Try.func22, Try.ntmps22
    go_wp2_with (at_builtin; refine wpList_append_own _ rfl (.const (.slice none 0 0)) (.tmp 3) 35 rfl w.heap.size 5 i (.int .u8 0) 1 1 Try.underlying35 hi hz0 hz1 hz2 rfl (by decide) (.slice none 0 0) 0 [] rfl (World.ownsRow_nil _ _ _ _) a bs.length cap (bs.map byteV) rfl (by simp) hc (bytes_one bs) (by unfold maxLen; omega) (by omega) (Nat.le_refl _) ?_)
    intro v' w' hown hgrow _
    go_wp2
    go_ret
    exact ⟨_, rfl, by simpa using hown, (Below.refl _ w).grown hgrow (Nat.le_refl _) (fun k hk => by simp [Value.ownBlock] at hk)⟩

theorem Lies.take {w : World} {ao : Option Addr} {cap : Nat} {bs : List Nat} (m : Nat) (hm : m ≤ bs.length) (h : Lies w (.slice ao bs.length cap) bs) : Lies w (.slice ao m cap) (bs.take m) := by
  obtain ⟨ao', cap', h1, h2, h3, h4⟩ := h
  cases h1
  have e : (bs.take m).length = m := by rw [List.length_take]; omega
  refine ⟨ao, cap, by rw [e], by omega, h3, fun a ha j u hu => ?_⟩
  rw [List.map_take, List.getElem?_take] at hu
  split at hu
  · exact h4 a ha j u hu
  · cases hu

end Go.Proofs.Ythkkahpfbgopjaa
