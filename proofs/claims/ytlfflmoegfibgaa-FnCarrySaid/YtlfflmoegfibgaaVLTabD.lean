import Derived.Test.YtlfflmoegfibgaaVLTable
/-! Structs of two numbers in drawn regions. -/
namespace Go.VL
section
variable {P : Program} {T : Nat → Option TI} {Γ : Ctx} {ops : Array Oper} {Q : (Nat → Value) → Own → Prop} {f : Nat → Value} {own base : Own}
variable {ty : TypeId} {pos : String} {aft : Array Edge} {L : List Nat} {listed : Array Bool} {i d : Nat} {g : Option (Nat × Bool)}
end
end Go.VL
