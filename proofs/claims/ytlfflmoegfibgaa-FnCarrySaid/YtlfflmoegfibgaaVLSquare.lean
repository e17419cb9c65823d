import Derived.Test.YtlfflmoegfibgaaVLLol
import Derived.Test.YtlfflmoegfibgaaVLPanic
import Derived.Test.YtlfflmoegfibgaaVLBA
import Derived.Laws.StructEq
import Derived.Laws.Small
/-! Arguments that are a number and rows of numbers; structs of two numbers; quotients, the lesser and the greater of two, slices with three indexes. -/
namespace Go.VL
open Go.RowKit Go.ChangeShapes Go.WideShapes Go.ChangeAt

/-- n is a number of 64 bits. -/
def In64 (n : Int) : Prop := -9223372036854775808 ≤ n ∧ n ≤ 9223372036854775807
section
variable {H : Type} {enc : TypeId × Value → H} {P : Program} {T : Nat → Option TI} {w : World} {spare : Nat → Bool} {held : Bool}
end

/-- A struct of two numbers. -/
abbrev cellV (a b : Int) : Value := .agg #[.int .i64 a, .int .i64 b]
/-- t is a struct of two numbers of the type e. -/
def twoNums (P : Program) (t e : Nat) : Bool := !P.stoodInHeld t && match P.underlying t with
  | some (.struct fs) => match fs.toList with
    | [f0, f1] => f0.name != "_" && f1.name != "_" && f0.offset == 0 && f1.offset == 1 && f0.type == e && f1.type == e
    | _ => false
  | _ => false
section
variable {P : Program} {T : Nat → Option TI} {Γ : Ctx} {ops : Array Oper} {Q : (Nat → Value) → Own → Prop} {rest : List Oper} {f : Nat → Value} {own : Own}
variable {ty : TypeId} {pos : String} {aft : Array Edge}
end
end Go.VL
