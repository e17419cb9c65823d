import Derived.Test.YtlfflmoegfibgaaVLSquare
import Derived.Test.YtlfflmoegfibgaaVLTable
import Derived.Test.YtlfflmoegfibgaaVLCells
import Derived.Deep.Strs
/-! Structs of two numbers and a list of lists. -/
namespace Go.VL
open Go.RowKit Go.ChangeShapes Go.WideShapes Go.ChangeAt Go.Deep
section
variable {H : Type} {enc : TypeId × Value → H} {P : Program} {T : Nat → Option TI} {w : World} {spare : Nat → Bool} {held : Bool}
end
/-- A new golf. -/
def GfG (eo ei : Nat) (m g : Int) (ls : List (List Int)) (u : Value) (new : Own) : Prop := ∃ p cap, u = .agg #[.int .i64 m, .int .i64 g, .slice p ls.length cap] ∧ NewT eo ei ls (.slice p ls.length cap) new
/-- Two results: a golf, and a code. -/
def PairGf (eo ei : Nat) (r : (Int × Int × List (List Int)) × Int) (v : Value) (new : Own) : Prop := ∃ p cap, v = .tuple #[.agg #[.int .i64 r.1.1, .int .i64 r.1.2.1, .slice p r.1.2.2.length cap], .int .i64 r.2] ∧ NewT eo ei r.1.2.2 (.slice p r.1.2.2.length cap) new
section
variable {P : Program} {T : Nat → Option TI} {Γ : Ctx} {f : Nat → Value} {own : Own}
end
end Go.VL
namespace Go.VL
theorem out_ic {P : Program} {Γ : Ctx} {f : Nat → Value} {own : Own} {n t u : Nat} {fn : Func} {b c : Int} {r : Int × Int} (h : fn.results = #[.tmp t, .tmp u]) (hv : f t = .int .i64 b) (hx : f u = .int .i64 c) (hr : r = (b, c)) : Out P Γ n fn (Is (.tuple #[.int .i64 r.1, .int .i64 r.2])) .ret f own := by
  subst hr
  exact out2 (new := []) h hv hx List.nodup_nil (fun _ h => by cases h) ⟨rfl, rfl⟩
end Go.VL
