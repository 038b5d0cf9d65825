/-
  Print, wakes walked.
-/
import Derived.Test.YtfkfaaifchafjaaDoorRa
import Derived.Test.YtfkfaaifchafjaaDoorSha
set_option linter.unusedSimpArgs false
set_option linter.unusedVariables false
namespace Go.Proofs.YtfkfaaifchafjaaDoor
open Go.RowKit

theorem itoa_hid (n : Nat) (hn : n < 100) (d : ByteArray) (hd : d = ⟨(Lib.decDigits n).toArray⟩) : Hid (∀ w, Calls Tryd.prog 57 #[.int .i64 (n : Int)] w fun e w' => e = .returned (.string d) ∧ w' = w) := by
  subst hd
  exact fun w => Tryd.strconv_Itoa_small n hn w

theorem below_then {w w1 w2 : World} (h : Below w.heap.size w w1) (k : Below w1.heap.size w1 w2) : Below w.heap.size w w2 := h.trans (k.mono h.size)

theorem digits_two (n : Nat) (hn : n < 100) : (Lib.decDigits n).length ≤ 2 := by
  have : ∀ k : Fin 100, (Lib.decDigits k.val).length ≤ 2 := by decide +kernel
  exact this ⟨n, hn⟩

set_option maxHeartbeats 1000000 in
theorem print_some (p : ByteArray) (n : Nat) (hn : n < 100) (d : ByteArray) (hd : d = ⟨(Lib.decDigits n).toArray⟩) (hp : p.size ≤ 1000000) (h00 : ¬ (p.data.toList = [] ∧ n = 0)) (w : World) :
    Calls Tryd.prog 39 #[.agg #[.string p, .int .i64 (n : Int)]] w fun e w' => e = .returned (.string (p ++ ⟨#[46]⟩ ++ d)) ∧ Below w.heap.size w w' := by
  have h0 : ¬ (p.toList = [] ∧ n = 0) := by rw [ByteArray.toList_eq]; exact h00
  clear h00
  have k1 := itoa_hid n hn d hd
  have hd2 : d.size ≤ 2 := by rw [hd]; exact digits_two n hn
  clear hd
  by_cases hp0 : p.toList = []
  · have hn0 : ¬ n = 0 := fun h => h0 ⟨hp0, h⟩
    clear h0
    go_enter Tryd.func39, Tryd.ntmps39
    go_wp2
    go_quiet ((go_at_call 57; exact Calls.quiet_of_same (k1.out _)))
    go_wp2
    go_ret
    exact ⟨rfl, ((Below.refl _ w).alloc (Nat.le_refl _) _).trans ⟨rfl, rfl, rfl, Nat.le_refl _, fun _ _ => rfl⟩⟩
  · clear h0
    go_enter Tryd.func39, Tryd.ntmps39
    go_wp2
    go_quiet ((go_at_call 57; exact Calls.quiet_of_same (k1.out _)))
    go_wp2
    go_ret
    exact ⟨rfl, ((Below.refl _ w).alloc (Nat.le_refl _) _).trans ⟨rfl, rfl, rfl, Nat.le_refl _, fun _ _ => rfl⟩⟩

set_option maxHeartbeats 1000000 in
theorem print_none (w : World) :
    Calls Tryd.prog 39 #[.agg #[.string ⟨#[]⟩, .int .i64 0]] w fun e w' => e = .returned (.string ⟨#[45]⟩) ∧ Below w.heap.size w w' := by
  go_enter Tryd.func39, Tryd.ntmps39
  go_wp2
  go_ret
  exact ⟨rfl, ((Below.refl _ w).alloc (Nat.le_refl _) _)⟩

theorem print_lit (p : ByteArray) (n : Nat) (hn : n < 100) (s : ByteArray) (hs : s = p ++ ⟨#[46]⟩ ++ ⟨(Lib.decDigits n).toArray⟩) (hp : p.size ≤ 1000000) (h0 : ¬ (p.data.toList = [] ∧ n = 0)) :
    Hid (∀ w, Calls Tryd.prog 39 #[.agg #[.string p, .int .i64 (n : Int)]] w fun e w' => e = .returned (.string s) ∧ Below w.heap.size w w') := by
  intro w
  rw [hs]
  exact print_some p n hn _ rfl hp h0 w

end Go.Proofs.YtfkfaaifchafjaaDoor
