import Derived.Test.YtjbhmdhebmkgkaaW1
import Derived.Test.YtjbhmdhebmkgkaaW5
import Derived.Test.YtjbhmdhebmkgkaaR4
import Derived.Test.YtjbhmdhebmkgkaaVLPlay
import Derived.Test.YtjbhmdhebmkgkaaVLArr
/- A part of the proof: W8. No conditions of its own. -/
namespace Go.Proofs.Ytjbhmdhebmkgkaa
open Go.VL
attribute [local irreducible] VWr VOps VD Calls

end Go.Proofs.Ytjbhmdhebmkgkaa
