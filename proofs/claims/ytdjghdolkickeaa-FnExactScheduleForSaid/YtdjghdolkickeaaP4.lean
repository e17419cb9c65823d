import Derived.Test.YtdjghdolkickeaaP3
import Derived.Test.YtdjghdolkickeaaVLArr
/- A part of the proof: P4. No conditions of its own. -/
namespace Go.Proofs.Ytdjghdolkickeaa
open Go.VL
attribute [local irreducible] VWr VOps VD Calls

end Go.Proofs.Ytdjghdolkickeaa
