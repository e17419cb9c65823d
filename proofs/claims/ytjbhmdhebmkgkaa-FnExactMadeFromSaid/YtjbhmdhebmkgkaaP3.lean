import Derived.Test.YtjbhmdhebmkgkaaSA
import Derived.Test.YtjbhmdhebmkgkaaVLArr
/- A part of the proof: P3. No conditions of its own. -/
namespace Go.Proofs.Ytjbhmdhebmkgkaa
open Go.VL
attribute [local irreducible] VWr VOps VD Calls

open Classical in
/-- The code of a schedule and the number of a round. -/
noncomputable def codeOf (n : Int) (rs : List (List Int)) (i : Int) : Int := if IsSch n rs then (if 0 ≤ i ∧ i < rs.length then 0 else 2) else 1
/-- The free teams of a round, as far as k. -/
def freeOf (r : List Int) (k : Nat) : List Int := collect (fun a => decide (r.getD a 0 = (a : Int))) (fun a => (a : Int)) k
open Classical in
noncomputable def freeTeams (n : Int) (rs : List (List Int)) (i : Int) : List Int × Int :=
  if IsSch n rs then (if 0 ≤ i ∧ i < rs.length then (freeOf (rs.getD i.toNat []) n.toNat, 0) else ([], 2)) else ([], 1)

end Go.Proofs.Ytjbhmdhebmkgkaa
