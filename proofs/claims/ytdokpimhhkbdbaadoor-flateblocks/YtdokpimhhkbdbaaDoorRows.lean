/-
  NARROWER THAN 'FOR EVERY INPUT', by the rows' own cells (each row's printed sentence says how): FlateForms: laid · FlateBlocks: laid · FlateMost: laid · FlatePacks: laid · FlateBack: laid.
  DERIVED. THE GIVEN ROWS OF THIS SEAT. 5 by the template 'for every input the law returns true; each argument reads behind the call as it read before'; 0 by the template 'total and deterministic' (their statements: YtdokpimhhkbdbaaDoorTotals.lean).
  GIVEN WITH THE SEED: the statements are not yours to turn. If you find one false, say at which input.
  Laid BY PROGRAM, IN A SANDBOX (cutbox-rows.mjs): the forced cells as the released guide's own fill.sh prints them over the translation 44c897d3852bb504… (all of the seat's roots in one cut). By AI agents, Wed Nov 11 2026. No macro, syntax, notation, axiom, sorry.
-/
import Derived.Test.YtdokpimhhkbdbaaDoorChecked
import GoSem.Claim
import GoSem.ClaimJoined
import GoSem.ClaimMapViews
import Derived.JoinedTies
import Derived.KernelRfl
namespace Go.Proofs.YtdokpimhhkbdbaaDoor
/- THE CELL 'sum', in the pinned program and in every row, IS THE sha256 OF THE DUMP (.gsa) THAT YtdokpimhhkbdbaaDoorProg.lean LOADS. Nothing in Lean hashes anything: it is a label: what it is worth is what the hold of that sum in a sandbox is worth. -/
noncomputable def Tryd.pinned : Pinned := { name := "ytdokpimhhkbdbaadoor", sum := "44c897d3852bb504dc525767be434d701c4fc1eb1e3024ef3ea31b6dc2497cf6", checked := Tryd.checked }
namespace Rows
def none {H : Type} : Left H := { results := [], args := [] }

/- WHAT THE LISTED PACKAGE-LEVEL VARIABLES READ AS WHEN THE CALL BEGINS. Each datum BY PROGRAM (the guide's laid-datum.mjs) off the statement by which the dump's own 'gosem.cut.vars' lays the variable. In a bare row this is a premise. The card (YtdokpimhhkbdbaaDoorCards.lean) ties it to the program's text. -/
def laid_florilegium_flate_order {H : Type} : DataW H := .agg [.lit (.int .i64 16), .lit (.int .i64 17), .lit (.int .i64 18), .lit (.int .i64 0), .lit (.int .i64 8), .lit (.int .i64 7), .lit (.int .i64 9), .lit (.int .i64 6), .lit (.int .i64 10), .lit (.int .i64 5), .lit (.int .i64 11), .lit (.int .i64 4), .lit (.int .i64 12), .lit (.int .i64 3), .lit (.int .i64 13), .lit (.int .i64 2), .lit (.int .i64 14), .lit (.int .i64 1), .lit (.int .i64 15)]

/-- 'florilegiumlaw05.FlateForms': WHATEVER THE INPUT: true; the input reads as it did. -/
def flateFormsSpec : ChangeSpec := { name := "flateForms", fn := fun _ => fun
  | [d] => { results := [.lit (.bool true)], args := [d] }
  | _ => none }
def flateFormsRow : OpenClaim := { program := "ytdokpimhhkbdbaadoor", sum := "44c897d3852bb504dc525767be434d701c4fc1eb1e3024ef3ea31b6dc2497cf6", func := "florilegium/florilegiumlaw05.FlateForms", spec := "flateForms", unfollowed := true, recurses := true, named := ["florilegium/flate.order"], apart := false, laid := [("florilegium/flate.order", laid_florilegium_flate_order)] }
def FlateFormsSaid : Prop := flateFormsRow.holds Tryd.pinned (OpenSpec.ofChange flateFormsSpec)

/-- ITS FALSE NEIGHBOUR: 'it returns false'. Refute it at one input. -/
def flateFormsWrong : ChangeSpec := { name := "flateForms", fn := fun _ => fun
  | [d] => { results := [.lit (.bool false)], args := [d] }
  | _ => none }
def FlateFormsWrongFalsely : Prop := flateFormsRow.holds Tryd.pinned (OpenSpec.ofChange flateFormsWrong)

/-- 'florilegiumlaw05.FlateBlocks': WHATEVER THE INPUT: true; the input reads as it did. -/
def flateBlocksSpec : ChangeSpec := { name := "flateBlocks", fn := fun _ => fun
  | [d1, d2, d3] => { results := [.lit (.bool true)], args := [d1, d2, d3] }
  | _ => none }
def flateBlocksRow : OpenClaim := { program := "ytdokpimhhkbdbaadoor", sum := "44c897d3852bb504dc525767be434d701c4fc1eb1e3024ef3ea31b6dc2497cf6", func := "florilegium/florilegiumlaw05.FlateBlocks", spec := "flateBlocks", unfollowed := true, recurses := true, named := ["florilegium/flate.order"], apart := false, laid := [("florilegium/flate.order", laid_florilegium_flate_order)] }
def FlateBlocksSaid : Prop := flateBlocksRow.holds Tryd.pinned (OpenSpec.ofChange flateBlocksSpec)

/-- ITS FALSE NEIGHBOUR: 'it returns false'. Refute it at one input. -/
def flateBlocksWrong : ChangeSpec := { name := "flateBlocks", fn := fun _ => fun
  | [d1, d2, d3] => { results := [.lit (.bool false)], args := [d1, d2, d3] }
  | _ => none }
def FlateBlocksWrongFalsely : Prop := flateBlocksRow.holds Tryd.pinned (OpenSpec.ofChange flateBlocksWrong)

/-- 'florilegiumlaw05.FlateMost': WHATEVER THE INPUT: true; the input reads as it did. -/
def flateMostSpec : ChangeSpec := { name := "flateMost", fn := fun _ => fun
  | [d1, d2] => { results := [.lit (.bool true)], args := [d1, d2] }
  | _ => none }
def flateMostRow : OpenClaim := { program := "ytdokpimhhkbdbaadoor", sum := "44c897d3852bb504dc525767be434d701c4fc1eb1e3024ef3ea31b6dc2497cf6", func := "florilegium/florilegiumlaw05.FlateMost", spec := "flateMost", unfollowed := true, recurses := true, named := ["florilegium/flate.order"], apart := false, laid := [("florilegium/flate.order", laid_florilegium_flate_order)] }
def FlateMostSaid : Prop := flateMostRow.holds Tryd.pinned (OpenSpec.ofChange flateMostSpec)

/-- ITS FALSE NEIGHBOUR: 'it returns false'. Refute it at one input. -/
def flateMostWrong : ChangeSpec := { name := "flateMost", fn := fun _ => fun
  | [d1, d2] => { results := [.lit (.bool false)], args := [d1, d2] }
  | _ => none }
def FlateMostWrongFalsely : Prop := flateMostRow.holds Tryd.pinned (OpenSpec.ofChange flateMostWrong)

/-- 'florilegiumlaw05.FlatePacks': WHATEVER THE INPUT: true; the input reads as it did. -/
def flatePacksSpec : ChangeSpec := { name := "flatePacks", fn := fun _ => fun
  | [d1, d2, d3, d4] => { results := [.lit (.bool true)], args := [d1, d2, d3, d4] }
  | _ => none }
def flatePacksRow : OpenClaim := { program := "ytdokpimhhkbdbaadoor", sum := "44c897d3852bb504dc525767be434d701c4fc1eb1e3024ef3ea31b6dc2497cf6", func := "florilegium/florilegiumlaw05.FlatePacks", spec := "flatePacks", unfollowed := true, recurses := true, named := ["florilegium/flate.order"], apart := false, laid := [("florilegium/flate.order", laid_florilegium_flate_order)] }
def FlatePacksSaid : Prop := flatePacksRow.holds Tryd.pinned (OpenSpec.ofChange flatePacksSpec)

/-- ITS FALSE NEIGHBOUR: 'it returns false'. Refute it at one input. -/
def flatePacksWrong : ChangeSpec := { name := "flatePacks", fn := fun _ => fun
  | [d1, d2, d3, d4] => { results := [.lit (.bool false)], args := [d1, d2, d3, d4] }
  | _ => none }
def FlatePacksWrongFalsely : Prop := flatePacksRow.holds Tryd.pinned (OpenSpec.ofChange flatePacksWrong)

/-- 'florilegiumlaw05.FlateBack': WHATEVER THE INPUT: true; the input reads as it did. -/
def flateBackSpec : ChangeSpec := { name := "flateBack", fn := fun _ => fun
  | [d1, d2, d3, d4, d5] => { results := [.lit (.bool true)], args := [d1, d2, d3, d4, d5] }
  | _ => none }
def flateBackRow : OpenClaim := { program := "ytdokpimhhkbdbaadoor", sum := "44c897d3852bb504dc525767be434d701c4fc1eb1e3024ef3ea31b6dc2497cf6", func := "florilegium/florilegiumlaw05.FlateBack", spec := "flateBack", unfollowed := true, recurses := true, named := ["florilegium/flate.order"], apart := false, laid := [("florilegium/flate.order", laid_florilegium_flate_order)] }
def FlateBackSaid : Prop := flateBackRow.holds Tryd.pinned (OpenSpec.ofChange flateBackSpec)

/-- ITS FALSE NEIGHBOUR: 'it returns false'. Refute it at one input. -/
def flateBackWrong : ChangeSpec := { name := "flateBack", fn := fun _ => fun
  | [d1, d2, d3, d4, d5] => { results := [.lit (.bool false)], args := [d1, d2, d3, d4, d5] }
  | _ => none }
def FlateBackWrongFalsely : Prop := flateBackRow.holds Tryd.pinned (OpenSpec.ofChange flateBackWrong)

/- THE SECOND FORM. 'bulk': how many values and letters a reading holds, each counted each time it is reached (what is shared counts as often as it is met; a slice's spare places count too). A statement '..UptoSaid' is the law's where the arguments, and the package variables that the reading takes, are together of bulk at most 1048576: NARROWER than '..Said'. Prove '..Said' where nothing that the law and all that it calls make is longer than what came in: it says more and counts as full. Else prove '..UptoSaid'. A law counts once. -/
mutual
def uptoBulk {H : Type} : DataW H → Nat
  | .lit (.string bytes) => bytes.length + 1
  | .lit _ => 1
  | .nil => 1
  | .ptr d => uptoBulk d + 1
  | .slice elems spare => uptoBulkAll elems + uptoBulkAll spare + 1
  | .agg parts => uptoBulkAll parts + 1
  | .iface _ d => uptoBulk d + 1
  | .map entries => uptoBulkEntries entries + 1
  | .held _ => 1
def uptoBulkAll {H : Type} : List (DataW H) → Nat
  | [] => 0
  | d :: r => uptoBulk d + uptoBulkAll r
def uptoBulkEntries {H : Type} : List (Lit × DataW H) → Nat
  | [] => 0
  | x :: r => uptoBulkEntry x + uptoBulkEntries r
def uptoBulkEntry {H : Type} : Lit × DataW H → Nat
  | (.string bytes, d) => bytes.length + uptoBulk d + 1
  | (_, d) => uptoBulk d + 1
 end
def uptoSmall : (H : Type) → List (DataW H) → Bool := fun _ ds => decide (uptoBulkAll ds ≤ 1048576)
def OpenSpec.upto (s : _root_.Go.ChangeSpec) : _root_.Go.OpenSpec := { _root_.Go.OpenSpec.ofChange s with cond := some uptoSmall }

/-- 'florilegiumlaw05.FlateForms', WHERE WHAT IT READS IS OF BULK AT MOST 1048576: true; the input reads as it did. -/
def flateFormsUptoRow : OpenClaim := { program := "ytdokpimhhkbdbaadoor", sum := "44c897d3852bb504dc525767be434d701c4fc1eb1e3024ef3ea31b6dc2497cf6", func := "florilegium/florilegiumlaw05.FlateForms", spec := "flateForms", unfollowed := true, recurses := true, named := ["florilegium/flate.order"], apart := false, laid := [("florilegium/flate.order", laid_florilegium_flate_order)], narrowed := true }
def FlateFormsUptoSaid : Prop := flateFormsUptoRow.holds Tryd.pinned (OpenSpec.upto flateFormsSpec)

/-- 'florilegiumlaw05.FlateBlocks', WHERE WHAT IT READS IS OF BULK AT MOST 1048576: true; the input reads as it did. -/
def flateBlocksUptoRow : OpenClaim := { program := "ytdokpimhhkbdbaadoor", sum := "44c897d3852bb504dc525767be434d701c4fc1eb1e3024ef3ea31b6dc2497cf6", func := "florilegium/florilegiumlaw05.FlateBlocks", spec := "flateBlocks", unfollowed := true, recurses := true, named := ["florilegium/flate.order"], apart := false, laid := [("florilegium/flate.order", laid_florilegium_flate_order)], narrowed := true }
def FlateBlocksUptoSaid : Prop := flateBlocksUptoRow.holds Tryd.pinned (OpenSpec.upto flateBlocksSpec)

/-- 'florilegiumlaw05.FlateMost', WHERE WHAT IT READS IS OF BULK AT MOST 1048576: true; the input reads as it did. -/
def flateMostUptoRow : OpenClaim := { program := "ytdokpimhhkbdbaadoor", sum := "44c897d3852bb504dc525767be434d701c4fc1eb1e3024ef3ea31b6dc2497cf6", func := "florilegium/florilegiumlaw05.FlateMost", spec := "flateMost", unfollowed := true, recurses := true, named := ["florilegium/flate.order"], apart := false, laid := [("florilegium/flate.order", laid_florilegium_flate_order)], narrowed := true }
def FlateMostUptoSaid : Prop := flateMostUptoRow.holds Tryd.pinned (OpenSpec.upto flateMostSpec)

/-- 'florilegiumlaw05.FlatePacks', WHERE WHAT IT READS IS OF BULK AT MOST 1048576: true; the input reads as it did. -/
def flatePacksUptoRow : OpenClaim := { program := "ytdokpimhhkbdbaadoor", sum := "44c897d3852bb504dc525767be434d701c4fc1eb1e3024ef3ea31b6dc2497cf6", func := "florilegium/florilegiumlaw05.FlatePacks", spec := "flatePacks", unfollowed := true, recurses := true, named := ["florilegium/flate.order"], apart := false, laid := [("florilegium/flate.order", laid_florilegium_flate_order)], narrowed := true }
def FlatePacksUptoSaid : Prop := flatePacksUptoRow.holds Tryd.pinned (OpenSpec.upto flatePacksSpec)

/-- 'florilegiumlaw05.FlateBack', WHERE WHAT IT READS IS OF BULK AT MOST 1048576: true; the input reads as it did. -/
def flateBackUptoRow : OpenClaim := { program := "ytdokpimhhkbdbaadoor", sum := "44c897d3852bb504dc525767be434d701c4fc1eb1e3024ef3ea31b6dc2497cf6", func := "florilegium/florilegiumlaw05.FlateBack", spec := "flateBack", unfollowed := true, recurses := true, named := ["florilegium/flate.order"], apart := false, laid := [("florilegium/flate.order", laid_florilegium_flate_order)], narrowed := true }
def FlateBackUptoSaid : Prop := flateBackUptoRow.holds Tryd.pinned (OpenSpec.upto flateBackSpec)

end Rows
end Go.Proofs.YtdokpimhhkbdbaaDoor
