import Derived.Test.YtjbhmdhebmkgkaaUB
import Derived.Test.YtjbhmdhebmkgkaaUA
import Derived.Test.YtjbhmdhebmkgkaaUC
import Derived.Test.YtjbhmdhebmkgkaaSF
import Derived.Test.YtjbhmdhebmkgkaaVLArr
/- Parts of the proof, one after another. No conditions of their own. -/
/- A part of the proof: W12. No conditions of its own. -/
namespace Go.Proofs.Ytjbhmdhebmkgkaa
open Go.VL
attribute [local irreducible] VWr VOps VD Calls

/-- The table when q pairs have been counted. -/
def hitG (P : List (List Int)) (q : Nat) (x y : Nat) : Int := (hits (P.take q) x y : Int)
end Go.Proofs.Ytjbhmdhebmkgkaa

/- A part of the proof: W13. No conditions of its own. -/
namespace Go.Proofs.Ytjbhmdhebmkgkaa
open Go.VL
attribute [local irreducible] VWr VOps VD Calls

open Classical in
noncomputable def partR (n : Int) (es : List (List Int)) : List (List Int) × Int := if IsEv n es then (relT n.toNat [1] es, 0) else ([], 1)
open Classical in
noncomputable def oppR (n : Int) (es : List (List Int)) (k : Int) : List (List Int) × Int :=
  if IsEv n es then (if k = 0 then (relT n.toNat [2, 3] es, 0) else if k = 1 then (relT n.toNat [2] es, 0) else if k = 2 then (relT n.toNat [3] es, 0) else ([], 2)) else ([], 1)
end Go.Proofs.Ytjbhmdhebmkgkaa

