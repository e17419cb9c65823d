import Derived.Test.YtlfflmoegfibgaaSX
import Derived.Test.YtlfflmoegfibgaaVLTable
import Derived.Test.YtlfflmoegfibgaaVLA
/- A part of the proof: CA1. No conditions of its own. -/
namespace Go.Proofs.Ytlfflmoegfibgaa
open Go.VL
attribute [local irreducible] VWr VOps VD Calls

/-- A list of all numbers below its length, which fits. -/
def IsWhole (l : List Int) : Prop := 1 ≤ l.length ∧ l.length ≤ 14 ∧ IsPerm l.length l
/-- The zigzag's number at the place k. -/
def zigC (n k : Nat) : Int := if k % 2 = 0 then ((k / 2 : Nat) : Int) else (n : Int) - 1 - ((k / 2 : Nat) : Int)
def zigR (n : Int) : List Int × Int := if 1 ≤ n ∧ n ≤ 14 then (lst n.toNat (zigC n.toNat), 0) else ([], 2)
end Go.Proofs.Ytlfflmoegfibgaa
