import Derived.Shelf.SlGeneric
import Derived.Ground.SlgnProg
import Derived.Shelf.SortG.Plain
import Derived.Shelf.SortG.SortNone
import Derived.Test.YtnammdmiljjhjaaTab
/- A part of the proof: XS0. No conditions of its own. -/
namespace Go.Proofs
open Go.Shelf
shelf_lay_g SlLaysN.n53 Slgn 53 at Try 61 as Try.sortI
end Go.Proofs
