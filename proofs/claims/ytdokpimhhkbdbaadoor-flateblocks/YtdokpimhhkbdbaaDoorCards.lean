/-
  DERIVED. GIVEN WITH THE SEED: THE CARDS: each row of YtdokpimhhkbdbaaDoorRows.lean that lists a variable, with what it lists TIED to the program's text (the seventh form; the later family's looks); each row that meets fmt, with fmt's text TOLD by the authors' own Lean function (tested against real Go, not proved from fmt's source: count such statements apart). THE CARD IS WHAT COUNTS. Prove the row's statement (the work); the ties are given (YtdokpimhhkbdbaaDoorTie.lean); close each card by the builder's one call (the guide's Derived/Test/ToyasCard.lean, 'card_holds'). Laid BY PROGRAM, IN A SANDBOX (cutbox-door.mjs). By AI agents, Wed Nov 11 2026. No macro, syntax, notation, axiom, sorry.
-/
import Derived.Test.YtdokpimhhkbdbaaDoorRows
import GoSem.ClaimSeven
namespace Go.Proofs.YtdokpimhhkbdbaaDoor
namespace Rows

/-- THE TIED CARD OF 'florilegiumlaw05.FlateForms'. -/
def flateFormsCard : Claim7 := { stood := { row := flateFormsRow, standIns := [], harness := (true, "682a8b72e6b3a5100a887aedde370074a34b252493d18c45f4cfaa1f957c66dc"), looks := true }, kinds := [], alts := [], laidByText := true, laidKinds := [.data], laidTests := true, laidLooks := .later }
def FlateFormsCardSaid : Prop := Claim7.holds Tryd.pinned (.plain (OpenSpec.ofChange flateFormsSpec)) flateFormsCard

/-- THE TIED CARD OF 'florilegiumlaw05.FlateBlocks'. -/
def flateBlocksCard : Claim7 := { stood := { row := flateBlocksRow, standIns := [], harness := (true, "682a8b72e6b3a5100a887aedde370074a34b252493d18c45f4cfaa1f957c66dc"), looks := true }, kinds := [], alts := [], laidByText := true, laidKinds := [.data], laidTests := true, laidLooks := .later }
def FlateBlocksCardSaid : Prop := Claim7.holds Tryd.pinned (.plain (OpenSpec.ofChange flateBlocksSpec)) flateBlocksCard

/-- THE TIED CARD OF 'florilegiumlaw05.FlateMost'. -/
def flateMostCard : Claim7 := { stood := { row := flateMostRow, standIns := [], harness := (true, "682a8b72e6b3a5100a887aedde370074a34b252493d18c45f4cfaa1f957c66dc"), looks := true }, kinds := [], alts := [], laidByText := true, laidKinds := [.data], laidTests := true, laidLooks := .later }
def FlateMostCardSaid : Prop := Claim7.holds Tryd.pinned (.plain (OpenSpec.ofChange flateMostSpec)) flateMostCard

/-- THE TIED CARD OF 'florilegiumlaw05.FlatePacks'. -/
def flatePacksCard : Claim7 := { stood := { row := flatePacksRow, standIns := [], harness := (true, "682a8b72e6b3a5100a887aedde370074a34b252493d18c45f4cfaa1f957c66dc"), looks := true }, kinds := [], alts := [], laidByText := true, laidKinds := [.data], laidTests := true, laidLooks := .later }
def FlatePacksCardSaid : Prop := Claim7.holds Tryd.pinned (.plain (OpenSpec.ofChange flatePacksSpec)) flatePacksCard

/-- THE TIED CARD OF 'florilegiumlaw05.FlateBack'. -/
def flateBackCard : Claim7 := { stood := { row := flateBackRow, standIns := [], harness := (true, "682a8b72e6b3a5100a887aedde370074a34b252493d18c45f4cfaa1f957c66dc"), looks := true }, kinds := [], alts := [], laidByText := true, laidKinds := [.data], laidTests := true, laidLooks := .later }
def FlateBackCardSaid : Prop := Claim7.holds Tryd.pinned (.plain (OpenSpec.ofChange flateBackSpec)) flateBackCard

/-- THE SECOND FORM's CARD OF 'florilegiumlaw05.FlateForms'. -/
def flateFormsUptoCard : Claim7 := { stood := { row := flateFormsUptoRow, standIns := [], harness := (true, "682a8b72e6b3a5100a887aedde370074a34b252493d18c45f4cfaa1f957c66dc"), looks := true }, kinds := [], alts := [], laidByText := true, laidKinds := [.data], laidTests := true, laidLooks := .later }
def FlateFormsUptoCardSaid : Prop := Claim7.holds Tryd.pinned (.plain (OpenSpec.upto flateFormsSpec)) flateFormsUptoCard

/-- THE SECOND FORM's CARD OF 'florilegiumlaw05.FlateBlocks'. -/
def flateBlocksUptoCard : Claim7 := { stood := { row := flateBlocksUptoRow, standIns := [], harness := (true, "682a8b72e6b3a5100a887aedde370074a34b252493d18c45f4cfaa1f957c66dc"), looks := true }, kinds := [], alts := [], laidByText := true, laidKinds := [.data], laidTests := true, laidLooks := .later }
def FlateBlocksUptoCardSaid : Prop := Claim7.holds Tryd.pinned (.plain (OpenSpec.upto flateBlocksSpec)) flateBlocksUptoCard

/-- THE SECOND FORM's CARD OF 'florilegiumlaw05.FlateMost'. -/
def flateMostUptoCard : Claim7 := { stood := { row := flateMostUptoRow, standIns := [], harness := (true, "682a8b72e6b3a5100a887aedde370074a34b252493d18c45f4cfaa1f957c66dc"), looks := true }, kinds := [], alts := [], laidByText := true, laidKinds := [.data], laidTests := true, laidLooks := .later }
def FlateMostUptoCardSaid : Prop := Claim7.holds Tryd.pinned (.plain (OpenSpec.upto flateMostSpec)) flateMostUptoCard

/-- THE SECOND FORM's CARD OF 'florilegiumlaw05.FlatePacks'. -/
def flatePacksUptoCard : Claim7 := { stood := { row := flatePacksUptoRow, standIns := [], harness := (true, "682a8b72e6b3a5100a887aedde370074a34b252493d18c45f4cfaa1f957c66dc"), looks := true }, kinds := [], alts := [], laidByText := true, laidKinds := [.data], laidTests := true, laidLooks := .later }
def FlatePacksUptoCardSaid : Prop := Claim7.holds Tryd.pinned (.plain (OpenSpec.upto flatePacksSpec)) flatePacksUptoCard

/-- THE SECOND FORM's CARD OF 'florilegiumlaw05.FlateBack'. -/
def flateBackUptoCard : Claim7 := { stood := { row := flateBackUptoRow, standIns := [], harness := (true, "682a8b72e6b3a5100a887aedde370074a34b252493d18c45f4cfaa1f957c66dc"), looks := true }, kinds := [], alts := [], laidByText := true, laidKinds := [.data], laidTests := true, laidLooks := .later }
def FlateBackUptoCardSaid : Prop := Claim7.holds Tryd.pinned (.plain (OpenSpec.upto flateBackSpec)) flateBackUptoCard
end Rows
end Go.Proofs.YtdokpimhhkbdbaaDoor
