/-
  LzCodes: its walk.
-/
import Derived.Test.YtdokpimhhkbdbaaDoorZKb
set_option linter.unusedSimpArgs false
set_option linter.unusedVariables false
namespace Go.Proofs.YtdokpimhhkbdbaaDoor.Lz
open Go.RowKit
theorem pow_small (b : Nat) (h : b < 16) : wrap64 (2 ^ b) = ((2 ^ b : Nat) : Int) := by
  have : (2 : Nat) ^ b ≤ 32768 := Nat.le_trans (Nat.pow_le_pow_right (by decide) (by omega : b ≤ 15)) (by decide)
  have e : ((2 : Int) ^ b) = ((2 ^ b : Nat) : Int) := by push_cast; rfl
  rw [e]
  generalize (2 : Nat) ^ b = z at *
  unfold wrap64
  omega

theorem lenN_small : ∀ c, c ≤ 28 → lenN c < 16 := by decide
theorem disN_small : ∀ c, c ≤ 29 → disN c < 16 := by decide

end Go.Proofs.YtdokpimhhkbdbaaDoor.Lz
