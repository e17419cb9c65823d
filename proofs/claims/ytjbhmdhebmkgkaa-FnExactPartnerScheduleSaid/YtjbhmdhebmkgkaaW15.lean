import Derived.Test.YtjbhmdhebmkgkaaW14
import Derived.Test.YtjbhmdhebmkgkaaUD
import Derived.Test.YtjbhmdhebmkgkaaVLArr
/- A part of the proof: W15. No conditions of its own. -/
namespace Go.Proofs.Ytjbhmdhebmkgkaa
open Go.VL
attribute [local irreducible] VWr VOps VD Calls

/-- As many rounds as a whist evening has, and as many players in each. -/
def WholeR (n : Int) (es : List (List Int)) : Prop := n % 4 ≤ 1 ∧ (es.length : Int) = n - 1 + n % 4 ∧ ∀ r ∈ es, (r.length : Int) = n - n % 4
def Whist (n : Int) (es : List (List Int)) : Prop := WholeR n es ∧ EachIs n.toNat [1] es 1 ∧ EachIs n.toNat [2, 3] es 2
open Classical in
noncomputable def whistR (n : Int) (es : List (List Int)) : Bool × Int := if IsEv n es then (decide (Whist n es), 0) else (false, 1)
open Classical in
noncomputable def tripleR (n : Int) (es : List (List Int)) : Bool × Int := if IsEv n es then (decide (Whist n es ∧ EachIs n.toNat [2] es 1), 0) else (false, 1)
end Go.Proofs.Ytjbhmdhebmkgkaa
