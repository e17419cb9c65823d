import Derived.Test.YtnammdmiljjhjaaGB
import Derived.Test.YtnammdmiljjhjaaUC
import Derived.Test.YtnammdmiljjhjaaVLArr
/- A part of the proof: X8. No conditions of its own. -/
namespace Go.Proofs.Ytnammdmiljjhjaa
open Go.VL
attribute [local irreducible] VWr VOps VD Calls

/-- Social golfs, and full ones. -/
def Social (n g : Nat) (ls : List (List Int)) : Prop := ∀ x y : Nat, x < n → y < n → metN g ls x y ≤ 1
def FullG (n g : Nat) (ls : List (List Int)) : Prop := ∀ x y : Nat, x < n → y < x → metN g ls x y = 1
open Classical in
noncomputable def socialR (n g : Int) (ls : List (List Int)) : Bool × Int := if IsGf n g ls then (decide (Social n.toNat g.toNat ls), 0) else (false, 1)
open Classical in
noncomputable def fullR (n g : Int) (ls : List (List Int)) : Bool × Int := if IsGf n g ls then (decide (FullG n.toNat g.toNat ls), 0) else (false, 1)
end Go.Proofs.Ytnammdmiljjhjaa
