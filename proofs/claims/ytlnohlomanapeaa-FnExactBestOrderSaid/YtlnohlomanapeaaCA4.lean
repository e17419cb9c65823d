import Derived.Test.YtlnohlomanapeaaCA3
import Derived.Test.YtlnohlomanapeaaVLPanic
import Derived.Test.YtlnohlomanapeaaVLA
/- A part of the proof: CA4. No conditions of its own. -/
namespace Go.Proofs.Ytlnohlomanapeaa
open Go.VL
attribute [local irreducible] VWr VOps VD Calls

end Go.Proofs.Ytlnohlomanapeaa
