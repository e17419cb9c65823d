import Derived.Test.YtgaaiplodbnnjaaDoorSD
import Derived.Test.YtgaaiplodbnnjaaDoorVLArr
import Derived.Test.YtgaaiplodbnnjaaDoorVLMid
/- Parts of the proof, one after another. No conditions of their own. -/
/- A part of the proof: Q15. No conditions of its own. -/
namespace Go.Proofs.YtgaaiplodbnnjaaDoor
open Go.VL
attribute [local irreducible] VWr VOps VD Calls Last

/-- The numbers that the first pairs make with the first numbers of a list. -/
def madeOf (m : Int) (ls : List (List Int)) (ad : List Int) (i : Nat) : List Int := ((List.range i).map fun j => [((ls.getD j []).getD 0 0 + ad.getD j 0) % m, ((ls.getD j []).getD 1 0 + ad.getD j 0) % m]).flatten
/-- What an adder asks of its number i. -/
def AdAt (m : Int) (ls : List (List Int)) (ad : List Int) (i : Nat) : Prop :=
  ((ls.getD i []).getD 0 0 + ad.getD i 0) % m ∉ [0] ++ madeOf m ls ad i ∧ ((ls.getD i []).getD 1 0 + ad.getD i 0) % m ∉ [0] ++ madeOf m ls ad i ∧ ad.getD i 0 ∉ ad.take i
def AdderL (m : Int) (ls : List (List Int)) (ad : List Int) : Prop := ∀ i : Nat, i < ad.length → AdAt m ls ad i

end Go.Proofs.YtgaaiplodbnnjaaDoor

/- A part of the proof: Q16. No conditions of its own. -/
namespace Go.Proofs.YtgaaiplodbnnjaaDoor
open Go.VL
attribute [local irreducible] VWr VOps VD Calls Last

/-- 2: not as told; 1: no starter; 0: a starter, and a list of as many numbers. -/
noncomputable def adCode (m : Int) (ls : List (List Int)) (ad : List Int) : Int := open Classical in if (IsMod m ∧ PairsQ m ls) ∧ NumsOk m ls.length ad then if Starter m ls then 0 else 1 else 2
noncomputable def adPan (m : Int) (ls : List (List Int)) (ad : List Int) (a0 a1 : Addr) : Option Value := if adCode m ls ad = 0 then none else if adCode m ls ad = 1 then some (er a1) else some (er a0)

/-- What IsAdder hands back. -/
noncomputable def adderR (m : Int) (ls : List (List Int)) (ad : List Int) : Bool × Int := open Classical in if adCode m ls ad = 0 then (decide (AdderL m ls ad), 0) else (false, adCode m ls ad)

end Go.Proofs.YtgaaiplodbnnjaaDoor

/- A part of the proof: Q17. No conditions of its own. -/
namespace Go.Proofs.YtgaaiplodbnnjaaDoor
open Go.VL
attribute [local irreducible] VWr VOps VD Calls Last

end Go.Proofs.YtgaaiplodbnnjaaDoor

/- A part of the proof: Q18. No conditions of its own. -/
namespace Go.Proofs.YtgaaiplodbnnjaaDoor
open Go.VL
attribute [local irreducible] VWr VOps VD Calls Last

end Go.Proofs.YtgaaiplodbnnjaaDoor

