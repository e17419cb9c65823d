import Derived.Test.YtngpongdpphncaaP19
import Derived.Test.YtngpongdpphncaaVLArr
/- A part of the proof: P20. No conditions of its own. -/
namespace Go.Proofs.Ytngpongdpphncaa
open Go.VL
attribute [local irreducible] VWr VOps VD Calls

/-- Who is in a pair. -/
def MetOf (n : Nat) (r : List Int) (met : List Bool) : Prop := met.length = n ∧ ∀ j : Nat, j < n → (met.getD j false = true ↔ r.getD j 0 ≠ j)

end Go.Proofs.Ytngpongdpphncaa
