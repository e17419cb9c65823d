import Derived.Test.YtlfflmoegfibgaaP4
import Derived.Test.YtlfflmoegfibgaaVLA
/- A part of the proof: P5. No conditions of its own. -/
namespace Go.Proofs.Ytlfflmoegfibgaa
open Go.VL
attribute [local irreducible] VWr VOps VD Calls

open Classical in
/-- The code of a schedule and teams. -/
noncomputable def teamsCode (n : Int) (rs : List (List Int)) (l : List Int) : Int := if IsSch n rs then (if ∀ x ∈ l, 0 ≤ x ∧ x < n then 0 else 2) else 1
/-- The opponents of a team. -/
def oppOf (a : Int) (rs : List (List Int)) : List Int := rs.map fun r => if r.getD a.toNat 0 = a then -1 else r.getD a.toNat 0
open Classical in
noncomputable def opponents (n : Int) (rs : List (List Int)) (a : Int) : List Int × Int :=
  if IsSch n rs then (if 0 ≤ a ∧ a < n then (oppOf a rs, 0) else ([], 2)) else ([], 1)
end Go.Proofs.Ytlfflmoegfibgaa
