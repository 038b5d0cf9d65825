/-
  DERIVED. GIVEN WITH THE SEED: THE CARDS: each row of YtghalbecgiepmaaDoorRows.lean that lists a variable, with what it lists TIED to the program's text (the seventh form; the later family's looks); each row that meets fmt, with fmt's text TOLD by the authors' own Lean function (tested against real Go, not proved from fmt's source: count such statements apart). THE CARD IS WHAT COUNTS. Prove the row's statement (the work); the ties are given (YtghalbecgiepmaaDoorTie.lean); close each card by the builder's one call (the guide's Derived/Test/ToyasCard.lean, 'card_holds'). Laid BY PROGRAM, IN A SANDBOX (cutbox-door.mjs). By AI agents, Wed Nov 11 2026. No macro, syntax, notation, axiom, sorry.
-/
import Derived.Test.YtghalbecgiepmaaDoorRows
import GoSem.ClaimSeven
namespace Go.Proofs.YtghalbecgiepmaaDoor
namespace Rows

/-- THE TIED CARD OF 'florilegiumlaw01.GaugeEdges'. -/
def gaugeEdgesCard : Claim7 := { stood := { row := gaugeEdgesRow, standIns := [], harness := (true, "234abc2f14bd84ee94e150de1d59e7ec8a4d6e07699a42caa81368d35d2bfc17"), looks := false }, kinds := [], alts := [], laidByText := true, laidKinds := [.data, .data, .data], laidTests := true, laidLooks := .later }
def GaugeEdgesCardSaid : Prop := Claim7.holds Tryd.pinned (.plain (OpenSpec.ofChange gaugeEdgesSpec)) gaugeEdgesCard

/-- THE TIED CARD OF 'florilegiumlaw01.GaugeTexts'. -/
def gaugeTextsCard : Claim7 := { stood := { row := gaugeTextsRow, standIns := [], harness := (true, "234abc2f14bd84ee94e150de1d59e7ec8a4d6e07699a42caa81368d35d2bfc17"), looks := false }, kinds := [], alts := [], laidByText := true, laidKinds := [.data, .data, .data], laidTests := true, laidLooks := .later }
def GaugeTextsCardSaid : Prop := Claim7.holds Tryd.pinned (.plain (OpenSpec.ofChange gaugeTextsSpec)) gaugeTextsCard

/-- THE TIED CARD OF 'florilegiumlaw01.GaugeTells'. -/
def gaugeTellsCard : Claim7 := { stood := { row := gaugeTellsRow, standIns := [], harness := (true, "234abc2f14bd84ee94e150de1d59e7ec8a4d6e07699a42caa81368d35d2bfc17"), looks := false }, kinds := [], alts := [], laidByText := true, laidKinds := [.data, .data, .data], laidTests := true, laidLooks := .later }
def GaugeTellsCardSaid : Prop := Claim7.holds Tryd.pinned (.plain (OpenSpec.ofChange gaugeTellsSpec)) gaugeTellsCard

/-- THE TIED CARD OF 'florilegiumlaw01.GaugeBest'. -/
def gaugeBestCard : Claim7 := { stood := { row := gaugeBestRow, standIns := [], harness := (true, "234abc2f14bd84ee94e150de1d59e7ec8a4d6e07699a42caa81368d35d2bfc17"), looks := false }, kinds := [], alts := [], laidByText := true, laidKinds := [.data, .data, .data], laidTests := true, laidLooks := .later }
def GaugeBestCardSaid : Prop := Claim7.holds Tryd.pinned (.plain (OpenSpec.ofChange gaugeBestSpec)) gaugeBestCard

/-- THE TIED CARD OF 'florilegiumlaw01.GaugeOrder'. -/
def gaugeOrderCard : Claim7 := { stood := { row := gaugeOrderRow, standIns := [], harness := (true, "234abc2f14bd84ee94e150de1d59e7ec8a4d6e07699a42caa81368d35d2bfc17"), looks := false }, kinds := [], alts := [], laidByText := true, laidKinds := [.data, .data, .data], laidTests := true, laidLooks := .later }
def GaugeOrderCardSaid : Prop := Claim7.holds Tryd.pinned (.plain (OpenSpec.ofChange gaugeOrderSpec)) gaugeOrderCard

/-- THE SECOND FORM's CARD OF 'florilegiumlaw01.GaugeEdges'. -/
def gaugeEdgesUptoCard : Claim7 := { stood := { row := gaugeEdgesUptoRow, standIns := [], harness := (true, "234abc2f14bd84ee94e150de1d59e7ec8a4d6e07699a42caa81368d35d2bfc17"), looks := false }, kinds := [], alts := [], laidByText := true, laidKinds := [.data, .data, .data], laidTests := true, laidLooks := .later }
def GaugeEdgesUptoCardSaid : Prop := Claim7.holds Tryd.pinned (.plain (OpenSpec.upto gaugeEdgesSpec)) gaugeEdgesUptoCard

/-- THE SECOND FORM's CARD OF 'florilegiumlaw01.GaugeTexts'. -/
def gaugeTextsUptoCard : Claim7 := { stood := { row := gaugeTextsUptoRow, standIns := [], harness := (true, "234abc2f14bd84ee94e150de1d59e7ec8a4d6e07699a42caa81368d35d2bfc17"), looks := false }, kinds := [], alts := [], laidByText := true, laidKinds := [.data, .data, .data], laidTests := true, laidLooks := .later }
def GaugeTextsUptoCardSaid : Prop := Claim7.holds Tryd.pinned (.plain (OpenSpec.upto gaugeTextsSpec)) gaugeTextsUptoCard

/-- THE SECOND FORM's CARD OF 'florilegiumlaw01.GaugeTells'. -/
def gaugeTellsUptoCard : Claim7 := { stood := { row := gaugeTellsUptoRow, standIns := [], harness := (true, "234abc2f14bd84ee94e150de1d59e7ec8a4d6e07699a42caa81368d35d2bfc17"), looks := false }, kinds := [], alts := [], laidByText := true, laidKinds := [.data, .data, .data], laidTests := true, laidLooks := .later }
def GaugeTellsUptoCardSaid : Prop := Claim7.holds Tryd.pinned (.plain (OpenSpec.upto gaugeTellsSpec)) gaugeTellsUptoCard

/-- THE SECOND FORM's CARD OF 'florilegiumlaw01.GaugeBest'. -/
def gaugeBestUptoCard : Claim7 := { stood := { row := gaugeBestUptoRow, standIns := [], harness := (true, "234abc2f14bd84ee94e150de1d59e7ec8a4d6e07699a42caa81368d35d2bfc17"), looks := false }, kinds := [], alts := [], laidByText := true, laidKinds := [.data, .data, .data], laidTests := true, laidLooks := .later }
def GaugeBestUptoCardSaid : Prop := Claim7.holds Tryd.pinned (.plain (OpenSpec.upto gaugeBestSpec)) gaugeBestUptoCard

/-- THE SECOND FORM's CARD OF 'florilegiumlaw01.GaugeOrder'. -/
def gaugeOrderUptoCard : Claim7 := { stood := { row := gaugeOrderUptoRow, standIns := [], harness := (true, "234abc2f14bd84ee94e150de1d59e7ec8a4d6e07699a42caa81368d35d2bfc17"), looks := false }, kinds := [], alts := [], laidByText := true, laidKinds := [.data, .data, .data], laidTests := true, laidLooks := .later }
def GaugeOrderUptoCardSaid : Prop := Claim7.holds Tryd.pinned (.plain (OpenSpec.upto gaugeOrderSpec)) gaugeOrderUptoCard
end Rows
end Go.Proofs.YtghalbecgiepmaaDoor
