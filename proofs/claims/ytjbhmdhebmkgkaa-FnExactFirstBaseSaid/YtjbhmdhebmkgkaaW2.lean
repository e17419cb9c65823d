import Derived.Test.YtjbhmdhebmkgkaaSO
import Derived.Test.YtjbhmdhebmkgkaaVLArr
/- A part of the proof: W2. No conditions of its own. -/
namespace Go.Proofs.Ytjbhmdhebmkgkaa
open Go.VL
attribute [local irreducible] VWr VOps VD Calls

/-! evenings, as the laws take them -/
end Go.Proofs.Ytjbhmdhebmkgkaa
