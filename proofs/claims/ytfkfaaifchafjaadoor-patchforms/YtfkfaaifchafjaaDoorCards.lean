/-
  DERIVED. GIVEN WITH THE SEED: THE CARDS: each row of YtfkfaaifchafjaaDoorRows.lean that lists a variable, with what it lists TIED to the program's text (the seventh form; the later family's looks); each row that meets fmt, with fmt's text TOLD by the authors' own Lean function (tested against real Go, not proved from fmt's source: count such statements apart). THE CARD IS WHAT COUNTS. Prove the row's statement (the work); the ties are given (YtfkfaaifchafjaaDoorTie.lean); close each card by the builder's one call (the guide's Derived/Test/ToyasCard.lean, 'card_holds'). Laid BY PROGRAM, IN A SANDBOX (cutbox-door.mjs). By AI agents, Wed Nov 11 2026. No macro, syntax, notation, axiom, sorry.
-/
import Derived.Test.YtfkfaaifchafjaaDoorRows
import GoSem.ClaimSeven
namespace Go.Proofs.YtfkfaaifchafjaaDoor
namespace Rows

/-- THE TIED CARD OF 'florilegiumlaw08.PatchForms'. -/
def patchFormsCard : Claim7 := { stood := { row := patchFormsRow, standIns := [], harness := (true, "9263c31afec75efea3aa0c31d6b63c8fd7d4c3d089eedac469c4ca7024cd072f"), looks := true }, kinds := [], alts := [], laidByText := true, laidKinds := [.data, .data, .data, .data, .sentinel, .sentinel, .pinned], laidTests := true, laidLooks := .later }
def PatchFormsCardSaid : Prop := Claim7.holds Tryd.pinned (.plain (OpenSpec.ofChange patchFormsSpec)) patchFormsCard

/-- THE TIED CARD OF 'florilegiumlaw08.PatchErrors'. -/
def patchErrorsCard : Claim7 := { stood := { row := patchErrorsRow, standIns := [], harness := (true, "9263c31afec75efea3aa0c31d6b63c8fd7d4c3d089eedac469c4ca7024cd072f"), looks := true }, kinds := [], alts := [], laidByText := true, laidKinds := [.data, .data, .data], laidTests := true, laidLooks := .later }
def PatchErrorsCardSaid : Prop := Claim7.holds Tryd.pinned (.plain (OpenSpec.ofChange patchErrorsSpec)) patchErrorsCard

/-- THE TIED CARD OF 'florilegiumlaw08.PatchLines'. -/
def patchLinesCard : Claim7 := { stood := { row := patchLinesRow, standIns := [], harness := (true, "9263c31afec75efea3aa0c31d6b63c8fd7d4c3d089eedac469c4ca7024cd072f"), looks := true }, kinds := [], alts := [], laidByText := true, laidKinds := [.data, .data, .data, .data, .sentinel, .sentinel, .pinned], laidTests := true, laidLooks := .later }
def PatchLinesCardSaid : Prop := Claim7.holds Tryd.pinned (.plain (OpenSpec.ofChange patchLinesSpec)) patchLinesCard

/-- THE TIED CARD OF 'florilegiumlaw08.PatchPrints'. -/
def patchPrintsCard : Claim7 := { stood := { row := patchPrintsRow, standIns := [], harness := (true, "9263c31afec75efea3aa0c31d6b63c8fd7d4c3d089eedac469c4ca7024cd072f"), looks := true }, kinds := [], alts := [], laidByText := true, laidKinds := [.data, .data, .data], laidTests := true, laidLooks := .later }
def PatchPrintsCardSaid : Prop := Claim7.holds Tryd.pinned (.plain (OpenSpec.ofChange patchPrintsSpec)) patchPrintsCard

/-- THE SECOND FORM's CARD OF 'florilegiumlaw08.PatchForms'. -/
def patchFormsUptoCard : Claim7 := { stood := { row := patchFormsUptoRow, standIns := [], harness := (true, "9263c31afec75efea3aa0c31d6b63c8fd7d4c3d089eedac469c4ca7024cd072f"), looks := true }, kinds := [], alts := [], laidByText := true, laidKinds := [.data, .data, .data, .data, .sentinel, .sentinel, .pinned], laidTests := true, laidLooks := .later }
def PatchFormsUptoCardSaid : Prop := Claim7.holds Tryd.pinned (.plain (OpenSpec.upto patchFormsSpec)) patchFormsUptoCard

/-- THE SECOND FORM's CARD OF 'florilegiumlaw08.PatchErrors'. -/
def patchErrorsUptoCard : Claim7 := { stood := { row := patchErrorsUptoRow, standIns := [], harness := (true, "9263c31afec75efea3aa0c31d6b63c8fd7d4c3d089eedac469c4ca7024cd072f"), looks := true }, kinds := [], alts := [], laidByText := true, laidKinds := [.data, .data, .data], laidTests := true, laidLooks := .later }
def PatchErrorsUptoCardSaid : Prop := Claim7.holds Tryd.pinned (.plain (OpenSpec.upto patchErrorsSpec)) patchErrorsUptoCard

/-- THE SECOND FORM's CARD OF 'florilegiumlaw08.PatchLines'. -/
def patchLinesUptoCard : Claim7 := { stood := { row := patchLinesUptoRow, standIns := [], harness := (true, "9263c31afec75efea3aa0c31d6b63c8fd7d4c3d089eedac469c4ca7024cd072f"), looks := true }, kinds := [], alts := [], laidByText := true, laidKinds := [.data, .data, .data, .data, .sentinel, .sentinel, .pinned], laidTests := true, laidLooks := .later }
def PatchLinesUptoCardSaid : Prop := Claim7.holds Tryd.pinned (.plain (OpenSpec.upto patchLinesSpec)) patchLinesUptoCard

/-- THE SECOND FORM's CARD OF 'florilegiumlaw08.PatchPrints'. -/
def patchPrintsUptoCard : Claim7 := { stood := { row := patchPrintsUptoRow, standIns := [], harness := (true, "9263c31afec75efea3aa0c31d6b63c8fd7d4c3d089eedac469c4ca7024cd072f"), looks := true }, kinds := [], alts := [], laidByText := true, laidKinds := [.data, .data, .data], laidTests := true, laidLooks := .later }
def PatchPrintsUptoCardSaid : Prop := Claim7.holds Tryd.pinned (.plain (OpenSpec.upto patchPrintsSpec)) patchPrintsUptoCard
end Rows
end Go.Proofs.YtfkfaaifchafjaaDoor
