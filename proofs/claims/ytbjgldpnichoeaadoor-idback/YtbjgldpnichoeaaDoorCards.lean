/-
  DERIVED. GIVEN WITH THE SEED: THE CARDS: each row of YtbjgldpnichoeaaDoorRows.lean that lists a variable, with what it lists TIED to the program's text (the seventh form; the later family's looks); each row that meets fmt, with fmt's text TOLD by the authors' own Lean function (tested against real Go, not proved from fmt's source: count such statements apart). THE CARD IS WHAT COUNTS. Prove the row's statement (the work); the ties are given (YtbjgldpnichoeaaDoorTie.lean); close each card by the builder's one call (the guide's Derived/Test/ToyasCard.lean, 'card_holds'). Laid BY PROGRAM, IN A SANDBOX (cutbox-door.mjs). By AI agents, Wed Nov 11 2026. No macro, syntax, notation, axiom, sorry.
-/
import Derived.Test.YtbjgldpnichoeaaDoorRows
import GoSem.ClaimSeven
namespace Go.Proofs.YtbjgldpnichoeaaDoor
namespace Rows

/-- THE TIED CARD OF 'florilegiumlaw07.IdForms'. -/
def idFormsCard : Claim7 := { stood := { row := idFormsRow, standIns := [], harness := (true, "ec43bd62ea436198b7b44d6dc6b67dd87fe61aa45c83c275b0e129079d090349"), looks := true }, kinds := [], alts := [], laidByText := true, laidKinds := [.data, .data, .data], laidTests := true, laidLooks := .later }
def IdFormsCardSaid : Prop := Claim7.holds Tryd.pinned (.plain (OpenSpec.ofChange idFormsSpec)) idFormsCard

/-- THE TIED CARD OF 'florilegiumlaw07.IdBack'. -/
def idBackCard : Claim7 := { stood := { row := idBackRow, standIns := [], harness := (true, "ec43bd62ea436198b7b44d6dc6b67dd87fe61aa45c83c275b0e129079d090349"), looks := true }, kinds := [], alts := [], laidByText := true, laidKinds := [.data, .data, .data, .sentinel, .sentinel], laidTests := true, laidLooks := .later }
def IdBackCardSaid : Prop := Claim7.holds Tryd.pinned (.plain (OpenSpec.ofChange idBackSpec)) idBackCard

/-- THE TIED CARD OF 'florilegiumlaw07.IdSets'. -/
def idSetsCard : Claim7 := { stood := { row := idSetsRow, standIns := [], harness := (true, "ec43bd62ea436198b7b44d6dc6b67dd87fe61aa45c83c275b0e129079d090349"), looks := true }, kinds := [], alts := [], laidByText := true, laidKinds := [.data, .data, .data], laidTests := true, laidLooks := .later }
def IdSetsCardSaid : Prop := Claim7.holds Tryd.pinned (.plain (OpenSpec.ofChange idSetsSpec)) idSetsCard

/-- THE SECOND FORM's CARD OF 'florilegiumlaw07.IdForms'. -/
def idFormsUptoCard : Claim7 := { stood := { row := idFormsUptoRow, standIns := [], harness := (true, "ec43bd62ea436198b7b44d6dc6b67dd87fe61aa45c83c275b0e129079d090349"), looks := true }, kinds := [], alts := [], laidByText := true, laidKinds := [.data, .data, .data], laidTests := true, laidLooks := .later }
def IdFormsUptoCardSaid : Prop := Claim7.holds Tryd.pinned (.plain (OpenSpec.upto idFormsSpec)) idFormsUptoCard

/-- THE SECOND FORM's CARD OF 'florilegiumlaw07.IdBack'. -/
def idBackUptoCard : Claim7 := { stood := { row := idBackUptoRow, standIns := [], harness := (true, "ec43bd62ea436198b7b44d6dc6b67dd87fe61aa45c83c275b0e129079d090349"), looks := true }, kinds := [], alts := [], laidByText := true, laidKinds := [.data, .data, .data, .sentinel, .sentinel], laidTests := true, laidLooks := .later }
def IdBackUptoCardSaid : Prop := Claim7.holds Tryd.pinned (.plain (OpenSpec.upto idBackSpec)) idBackUptoCard

/-- THE SECOND FORM's CARD OF 'florilegiumlaw07.IdSets'. -/
def idSetsUptoCard : Claim7 := { stood := { row := idSetsUptoRow, standIns := [], harness := (true, "ec43bd62ea436198b7b44d6dc6b67dd87fe61aa45c83c275b0e129079d090349"), looks := true }, kinds := [], alts := [], laidByText := true, laidKinds := [.data, .data, .data], laidTests := true, laidLooks := .later }
def IdSetsUptoCardSaid : Prop := Claim7.holds Tryd.pinned (.plain (OpenSpec.upto idSetsSpec)) idSetsUptoCard
end Rows
end Go.Proofs.YtbjgldpnichoeaaDoor
