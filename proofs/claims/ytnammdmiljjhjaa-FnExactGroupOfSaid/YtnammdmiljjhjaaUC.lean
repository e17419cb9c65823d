import Derived.Test.YtnammdmiljjhjaaUA
import Derived.Test.YtnammdmiljjhjaaSX
import Derived.Test.YtnammdmiljjhjaaVLPlay
import Derived.Test.YtnammdmiljjhjaaVLArr
import Derived.Test.YtnammdmiljjhjaaVLTabD
/- Parts of the proof, one after another. No conditions of their own. -/
/- A part of the proof: W8. No conditions of its own. -/
namespace Go.Proofs.Ytnammdmiljjhjaa
open Go.VL
attribute [local irreducible] VWr VOps VD Calls

end Go.Proofs.Ytnammdmiljjhjaa

/- A part of the proof: W6. No conditions of its own. -/
namespace Go.Proofs.Ytnammdmiljjhjaa
open Go.VL
attribute [local irreducible] VWr VOps VD Calls

/-- A list in the making. -/
def preW (k i : Nat) (g : Nat → Int) : List Int := lst k fun j => if j < i then g j else 0
/-- New numbers for the players. -/
def renRow (q r : List Int) : List Int := lst r.length fun j => q.getD (r.getD j 0).toNat 0
def renP (q : List Int) (es : List (List Int)) : List (List Int) := es.map (renRow q)
open Classical in
noncomputable def renPR (n : Int) (es : List (List Int)) (q : List Int) : (Int × List (List Int)) × Int :=
  if IsEv n es then (if IsPerm n q then ((n, renP q es), 0) else ((0, []), 2)) else ((0, []), 1)
end Go.Proofs.Ytnammdmiljjhjaa

