import Derived.Test.YtlnohlomanapeaaSA
import Derived.Test.YtlnohlomanapeaaVLA
import Derived.Test.YtlnohlomanapeaaVLAlloc
/- Parts of the proof, one after another. No conditions of their own. -/
/- A part of the proof: P3. No conditions of its own. -/
namespace Go.Proofs.Ytlnohlomanapeaa
open Go.VL
attribute [local irreducible] VWr VOps VD Calls

open Classical in
/-- The code of a schedule and the number of a round. -/
noncomputable def codeOf (n : Int) (rs : List (List Int)) (i : Int) : Int := if IsSch n rs then (if 0 ≤ i ∧ i < rs.length then 0 else 2) else 1
/-- The free teams of a round, as far as k. -/
def freeOf (r : List Int) (k : Nat) : List Int := collect (fun a => decide (r.getD a 0 = (a : Int))) (fun a => (a : Int)) k
open Classical in
noncomputable def freeTeams (n : Int) (rs : List (List Int)) (i : Int) : List Int × Int :=
  if IsSch n rs then (if 0 ≤ i ∧ i < rs.length then (freeOf (rs.getD i.toNat []) n.toNat, 0) else ([], 2)) else ([], 1)

end Go.Proofs.Ytlnohlomanapeaa

/- A part of the proof: P7. No conditions of its own. -/
namespace Go.Proofs.Ytlnohlomanapeaa
open Go.VL
attribute [local irreducible] VWr VOps VD Calls

/-- A new list of rounds, as a value. -/
def RsR (rs : List (List Int)) (u : Value) (new : Own) : Prop := ∃ p cap, u = .slice p rs.length cap ∧ NewR 90 14 rs (.slice p rs.length cap) new
end Go.Proofs.Ytlnohlomanapeaa

/- A part of the proof: P8. No conditions of its own. -/
namespace Go.Proofs.Ytlnohlomanapeaa
open Go.VL
attribute [local irreducible] VWr VOps VD Calls

open Classical in
noncomputable def addRound (n : Int) (rs : List (List Int)) (r : List Int) : (Int × List (List Int)) × Int :=
  if IsSch n rs then (if IsRd n r then (if rs.length = 40 then ((0, []), 3) else ((n, rs ++ [r]), 0)) else ((0, []), 2)) else ((0, []), 1)
end Go.Proofs.Ytlnohlomanapeaa

/- A part of the proof: P9. No conditions of its own. -/
namespace Go.Proofs.Ytlnohlomanapeaa
open Go.VL
attribute [local irreducible] VWr VOps VD Calls

open Classical in
noncomputable def dropRound (n : Int) (rs : List (List Int)) (i : Int) : (Int × List (List Int)) × Int :=
  if IsSch n rs then (if 0 ≤ i ∧ i < rs.length then ((n, (rs.take i.toNat).drop 0 ++ (rs.take rs.length).drop (i.toNat + 1)), 0) else ((0, []), 2)) else ((0, []), 1)
end Go.Proofs.Ytlnohlomanapeaa

/- A part of the proof: P11. No conditions of its own. -/
namespace Go.Proofs.Ytlnohlomanapeaa
open Go.VL
attribute [local irreducible] VWr VOps VD Calls

end Go.Proofs.Ytlnohlomanapeaa

