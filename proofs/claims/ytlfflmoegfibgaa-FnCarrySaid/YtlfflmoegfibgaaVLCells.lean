import Derived.Test.YtlfflmoegfibgaaVLTabD
import Derived.Test.YtlfflmoegfibgaaVLRanR
/-! Two results in cells, the first one a struct. -/
namespace Go.VL
section
variable {P : Program} {Γ : Ctx} {n : Nat} {f : Nat → Value} {own : Own}
end
end Go.VL
