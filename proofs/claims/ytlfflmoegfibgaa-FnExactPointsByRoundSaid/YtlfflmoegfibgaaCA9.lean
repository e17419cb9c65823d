import Derived.Test.YtlfflmoegfibgaaCI
import Derived.Test.YtlfflmoegfibgaaVLMatrix
import Derived.Test.YtlfflmoegfibgaaVLA
/- A part of the proof: CA9. No conditions of its own. -/
namespace Go.Proofs.Ytlfflmoegfibgaa
open Go.VL
attribute [local irreducible] VWr VOps VD Calls

abbrev mvM (n : Nat) (g : Nat → Nat → Int) : Value := .agg (ints (matN n 14 14 g)).toArray
/-- A balanced matrix, as far as the row i and there the column j. -/
def balP (n i j x y : Nat) : Int := if x < n ∧ y < n ∧ x ≠ y ∧ (x < i ∨ x = i ∧ y < j) then 1 else 0
/-- All numbers of different ones are 1, those of equal ones 0. -/
def BalM (n : Nat) (g : Nat → Nat → Int) : Prop := ∀ a b, a < n → b < n → g a b = if a = b then 0 else 1
end Go.Proofs.Ytlfflmoegfibgaa
