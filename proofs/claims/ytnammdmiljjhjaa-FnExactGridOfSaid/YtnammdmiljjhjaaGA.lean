import Derived.Test.YtnammdmiljjhjaaX1
import Derived.Test.YtnammdmiljjhjaaSX
import Derived.Test.YtnammdmiljjhjaaSA
import Derived.Test.YtnammdmiljjhjaaVLSquare
import Derived.Test.YtnammdmiljjhjaaVLGolf
import Derived.Test.YtnammdmiljjhjaaVLArr
/- Parts of the proof, one after another. No conditions of their own. -/
/- A part of the proof: X3. No conditions of its own. -/
namespace Go.Proofs.Ytnammdmiljjhjaa
open Go.VL
attribute [local irreducible] VWr VOps VD Calls

/-- Numbers of players and sizes that fit. -/
def SizeOk (n g most : Int) : Prop := 2 ≤ n ∧ n ≤ most ∧ 2 ≤ g ∧ n % g = 0
/-- The bound. -/
def boundR (n g : Int) : Int × Int := if 2 ≤ n ∧ n ≤ 1000 ∧ 2 ≤ g ∧ g ≤ n then ((n - 1) / (g - 1), 0) else (0, 2)
end Go.Proofs.Ytnammdmiljjhjaa

