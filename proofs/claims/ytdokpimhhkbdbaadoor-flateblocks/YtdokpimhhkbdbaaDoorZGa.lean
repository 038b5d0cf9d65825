/-
  What the texts on lz stand on.
-/
import Derived.Test.YtdokpimhhkbdbaaDoorPu
import Derived.Test.YtdokpimhhkbdbaaDoorLe
import Derived.Deep.WholeRow
import Derived.Laws.ResultCell
import Derived.Deep.MidRow
set_option linter.unusedSimpArgs false
set_option linter.unusedVariables false
namespace Go.Proofs.YtdokpimhhkbdbaaDoor.Lz
open Go.RowKit

theorem Tryd.underlying23 : Tryd.prog.underlying 22 = some (.slice 5) := by kernel_rfl
theorem Tryd.info27 : (Tryd.prog.info? 71).map (fun i => (i.zero, i.size, i.bytes)) = some (some (.agg #[.int .u8 0, .int .i64 0, .int .i64 0]), 3, 24) := by kernel_rfl
theorem Tryd.size27 : (Tryd.prog.info? 71).map (·.size) = some 3 := by kernel_rfl
theorem Tryd.underlying24 : Tryd.prog.underlying 68 = some (.slice 71) := by kernel_rfl
abbrev Code3 (F : Nat) (n : Int) (c e b : Int) : Prop := Hid (∀ w, Calls Tryd.prog F #[.int .i64 n] w fun en w' => en = .returned (.tuple #[.int .i64 c, .int .i64 e, .int .i64 b]) ∧ w' = w)
abbrev Of3 (F : Nat) (c : Int) (e b : Int) (ok : Bool) : Prop := Hid (∀ w, Calls Tryd.prog F #[.int .i64 c] w fun en w' => en = .returned (.tuple #[.int .i64 e, .int .i64 b, .bool ok]) ∧ w' = w)

end Go.Proofs.YtdokpimhhkbdbaaDoor.Lz
