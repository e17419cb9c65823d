import Derived.Test.YtnammdmiljjhjaaUA
import Derived.Test.YtnammdmiljjhjaaSX
import Derived.Test.YtnammdmiljjhjaaVLPlay
import Derived.Test.YtnammdmiljjhjaaVLArr
/- Parts of the proof, one after another. No conditions of their own. -/
/- A part of the proof: W8. No conditions of its own. -/
namespace Go.Proofs.Ytnammdmiljjhjaa
open Go.VL
attribute [local irreducible] VWr VOps VD Calls

end Go.Proofs.Ytnammdmiljjhjaa

