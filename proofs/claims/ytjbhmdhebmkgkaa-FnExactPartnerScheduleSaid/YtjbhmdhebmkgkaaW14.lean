import Derived.Test.YtjbhmdhebmkgkaaUE
import Derived.Test.YtjbhmdhebmkgkaaSF
import Derived.Test.YtjbhmdhebmkgkaaVLArr
/- A part of the proof: W14. No conditions of its own. -/
namespace Go.Proofs.Ytjbhmdhebmkgkaa
open Go.VL
attribute [local irreducible] VWr VOps VD Calls

end Go.Proofs.Ytjbhmdhebmkgkaa
