import Derived.Test.YtgaaiplodbnnjaaDoorR3
import Derived.Test.YtgaaiplodbnnjaaDoorVLArr
/- A part of the proof: R5. No conditions of its own. -/
namespace Go.Proofs.YtgaaiplodbnnjaaDoor
open Go.VL
attribute [local irreducible] VWr VOps VD Calls

end Go.Proofs.YtgaaiplodbnnjaaDoor
