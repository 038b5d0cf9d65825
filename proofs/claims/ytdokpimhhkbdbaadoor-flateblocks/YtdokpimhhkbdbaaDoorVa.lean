/-
  Bytes that the laws write out, and what they say.
-/
import Derived.Test.YtdokpimhhkbdbaaDoorUm
set_option linter.unusedSimpArgs false
set_option linter.unusedVariables false
namespace Go.Proofs.YtdokpimhhkbdbaaDoor.Q
open Go.RowKit

/-- The answer, to be compared. -/
def same (a b : Except Nat (List Nat)) : Bool :=
  match a, b with
  | .ok x, .ok y => x == y
  | .error n, .error m => n == m
  | _, _ => false

theorem same_eq {a b : Except Nat (List Nat)} (h : same a b = true) : a = b := by
  unfold same at h
  split at h
  · rw [eq_of_beq h]
  · rw [eq_of_beq h]
  · cases h

theorem u_a : unp [75, 4, 0] = .ok [97] := same_eq (by decide +kernel)
theorem u_nil : unp [3, 0] = .ok [] := same_eq (by decide +kernel)
theorem u_abc : unp [75, 76, 74, 6, 0] = .ok [97, 98, 99] := same_eq (by decide +kernel)
theorem u_hi : unp [1, 2, 0, 253, 255, 104, 105] = .ok [104, 105] := same_eq (by decide +kernel)
theorem u_hi2 : unp [0, 1, 0, 254, 255, 104, 1, 1, 0, 254, 255, 105] = .ok [104, 105] := same_eq (by decide +kernel)
theorem u_0 : unp [] = .error 2 := same_eq (by decide +kernel)
theorem u_1 : unp [1] = .error 2 := same_eq (by decide +kernel)
theorem u_2 : unp [7, 0] = .error 2 := same_eq (by decide +kernel)
theorem u_3 : unp [1, 2, 0, 252, 255, 104, 105] = .error 2 := same_eq (by decide +kernel)
theorem u_4 : unp [1, 2, 0, 253, 255, 104] = .error 2 := same_eq (by decide +kernel)
theorem u_5 : unp [3, 0, 0] = .error 2 := same_eq (by decide +kernel)
theorem u_6 : unp [3, 4] = .error 2 := same_eq (by decide +kernel)
theorem u_7 : unp [0, 0, 0, 255, 255] = .error 2 := same_eq (by decide +kernel)
theorem u_8 : unp [75, 4] = .error 2 := same_eq (by decide +kernel)
theorem u_9 : unp [6, 0, 0] = .error 2 := same_eq (by decide +kernel)
theorem u_10 : unp [7, 0, 0] = .error 2 := same_eq (by decide +kernel)
end Go.Proofs.YtdokpimhhkbdbaaDoor.Q
