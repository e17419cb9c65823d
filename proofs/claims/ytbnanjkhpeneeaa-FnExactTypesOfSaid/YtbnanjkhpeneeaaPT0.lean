import Derived.Shelf.SlGeneric
import Derived.Shelf.Lay
import Derived.Shelf.SlSortCmp.Whole1
import Derived.Ground.SlsfProg
import Derived.Test.YtbnanjkhpeneeaaTab
/- A part of the proof: PT0. No conditions of its own. -/
namespace Go.Proofs
open Go.Shelf
shelf_lay_g SlLaysF.n6 Slsf 6 at Try 93 as Try.sortF
end Go.Proofs
