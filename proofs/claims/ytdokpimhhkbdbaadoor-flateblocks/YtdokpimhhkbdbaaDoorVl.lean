/-
  A world for the witness that holds the row's listed table (flate.order).
-/
import Derived.Test.YtdokpimhhkbdbaaDoorCards
import Derived.Test.YtdokpimhhkbdbaaDoorTie
import Derived.Test.YtdokpimhhkbdbaaDoorBa
import Derived.Test.YtdokpimhhkbdbaaDoorAh
import Derived.WalkKit
import Derived.ProofKit
import Derived.OpenShut
import Derived.SizedLaws
import Derived.Deep.DeepHandedRow
import Derived.Lib.LaidTab
import Derived.LaidSub
namespace Go.Proofs.YtdokpimhhkbdbaaDoor.lay
open Go.ChangeShapes Go.WideShapes Go.ChangeAt Go.RowKit

theorem Tryd.underlying22 : Tryd.prog.underlying 22 = some (.slice 5) := by kernel_rfl
theorem Tryd.underlying37 : Tryd.prog.underlying 37 = some (.slice 3) := by kernel_rfl

/-- the list of every row of this seat -/
def laid : List (String × DataW Unit) := [("florilegium/flate.order", Rows.laid_florilegium_flate_order)]

def fill (cs : List Value) : Obj → Obj
  | .cells _ t frozen => .cells cs.toArray t frozen
  | o => o
def orderL : List Value := [16, 17, 18, 0, 8, 7, 9, 6, 10, 5, 11, 4, 12, 3, 13, 2, 14, 1, 15].map (Value.int .i64)
def filled (h : Array Obj) : Array Obj := h.modify 0 (fill orderL)
theorem laid_met (os : Os) (args : Array Value) : laidMet Tryd.prog laid (({ World.holding Tryd.prog os ⟨#[], #[], []⟩ with heap := filled (World.holding Tryd.prog os ⟨#[], #[], []⟩).heap } : World).forCall (fun _ _ => 0) ⟨#[], args, []⟩).memory :=
  laidMet_of_run' 80 (by kernel_rfl) (by kernel_rfl)
end Go.Proofs.YtdokpimhhkbdbaaDoor.lay
