import Derived.Test.YtgaaiplodbnnjaaDoorSC
import Derived.Test.YtgaaiplodbnnjaaDoorVLArr
import Derived.Test.YtgaaiplodbnnjaaDoorVLMid
/- Parts of the proof, one after another. No conditions of their own. -/
/- A part of the proof: Q9. No conditions of its own. -/
namespace Go.Proofs.YtgaaiplodbnnjaaDoor
open Go.VL
attribute [local irreducible] VWr VOps VD Calls Last

/-- The sums of pairs. -/
def sums (m : Int) (ls : List (List Int)) : List Int := ls.map fun p => (p.getD 0 0 + p.getD 1 0) % m
end Go.Proofs.YtgaaiplodbnnjaaDoor

/- A part of the proof: Q10. No conditions of its own. -/
namespace Go.Proofs.YtgaaiplodbnnjaaDoor
open Go.VL
attribute [local irreducible] VWr VOps VD Calls Last

/-- What SumsOf hands back. -/
noncomputable def sumsOfR (m : Int) (ls : List (List Int)) : List Int × Int := if stCode m ls = 0 then (sums m ls, 0) else ([], stCode m ls)
end Go.Proofs.YtgaaiplodbnnjaaDoor

/- A part of the proof: Q11. No conditions of its own. -/
namespace Go.Proofs.YtgaaiplodbnnjaaDoor
open Go.VL
attribute [local irreducible] VWr VOps VD Calls Last

/-- No sum is 0, and none comes twice. -/
def StrongL (S : List Int) : Prop := ∀ i : Nat, i < S.length → S.getD i 0 ≠ 0 ∧ S.getD i 0 ∉ S.take i
end Go.Proofs.YtgaaiplodbnnjaaDoor

/- A part of the proof: Q12. No conditions of its own. -/
namespace Go.Proofs.YtgaaiplodbnnjaaDoor
open Go.VL
attribute [local irreducible] VWr VOps VD Calls Last

/-- What IsStrong hands back. -/
noncomputable def strongR (m : Int) (ls : List (List Int)) : Bool × Int := open Classical in if stCode m ls = 0 then (decide (StrongL (sums m ls)), 0) else (false, stCode m ls)
end Go.Proofs.YtgaaiplodbnnjaaDoor

