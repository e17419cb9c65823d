import Derived.Test.YtlfflmoegfibgaaSX
import Derived.Test.YtlfflmoegfibgaaVLA
/- A part of the proof: P4. No conditions of its own. -/
namespace Go.Proofs.Ytlfflmoegfibgaa
open Go.VL
attribute [local irreducible] VWr VOps VD Calls

end Go.Proofs.Ytlfflmoegfibgaa
