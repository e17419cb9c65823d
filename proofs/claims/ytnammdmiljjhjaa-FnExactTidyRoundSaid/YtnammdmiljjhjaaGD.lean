import Derived.Shelf.SlGeneric
import Derived.Ground.SlgnProg
import Derived.Shelf.SortG.Plain
import Derived.Shelf.SortG.SortNone
import Derived.Test.YtnammdmiljjhjaaTab
import Derived.Shelf.Lay
import Derived.Shelf.SlSortCmp.Whole1
import Derived.Ground.SlsfProg
import Derived.Test.YtnammdmiljjhjaaSA
import Derived.Test.YtnammdmiljjhjaaVLSort
import Derived.Lib.RowBridge
import Derived.Test.YtnammdmiljjhjaaVLArr
/- Parts of the proof, one after another. No conditions of their own. -/
/- A part of the proof: XS0. No conditions of its own. -/
namespace Go.Proofs
open Go.Shelf
shelf_lay_g SlLaysN.n53 Slgn 53 at Try 61 as Try.sortI
end Go.Proofs

/- A part of the proof: XS2. No conditions of its own. -/
namespace Go.Proofs
open Go.Shelf
shelf_lay_g SlLaysF.n6 Slsf 6 at Try 70 as Try.sortF
end Go.Proofs

/- A part of the proof: XS1. No conditions of its own. -/
namespace Go.Proofs.Ytnammdmiljjhjaa
open Go.VL
attribute [local irreducible] VWr VOps VD Calls

end Go.Proofs.Ytnammdmiljjhjaa

