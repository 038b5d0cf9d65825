/-
  Which signs may stand in names and lines; nothing of a program.
-/
namespace Go.Proofs.YtfkfaaifchafjaaDoor
def rsB (c : UInt8) : Bool := (decide (97 ≤ (c.toNat : Int)) && decide ((c.toNat : Int) ≤ 122)) || (decide (48 ≤ (c.toNat : Int)) && decide ((c.toNat : Int) ≤ 57))
def rightL (l : List UInt8) : Bool := decide (1 ≤ l.length) && decide (l.length ≤ 8) && l.all rsB
def lsB (c : UInt8) : Bool := decide (32 ≤ (c.toNat : Int)) && decide ((c.toNat : Int) ≤ 126)
def lineL (l : List UInt8) : Bool := decide (l.length ≤ 40) && l.all lsB
end Go.Proofs.YtfkfaaifchafjaaDoor
