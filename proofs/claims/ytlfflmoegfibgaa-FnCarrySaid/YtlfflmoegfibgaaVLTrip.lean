import Derived.Test.YtlfflmoegfibgaaVLClo
/-! Three results. -/
namespace Go.VL
open Go.RowKit
/-- Three results: a schedule, a list of lists, a code. -/
def TripST (es eo ei : Nat) (r : ((Int × List (List Int)) × List (List Int)) × Int) (v : Value) (new : Own) : Prop :=
  ∃ p cap q c2 new1 new2, v = .tuple #[.agg #[.int .i64 r.1.1.1, .slice p r.1.1.2.length cap], .slice q r.1.2.length c2, .int .i64 r.2] ∧ NewR es 14 r.1.1.2 (.slice p r.1.1.2.length cap) new1 ∧ NewT eo ei r.1.2 (.slice q r.1.2.length c2) new2 ∧ new = new1 ++ new2
section
variable {P : Program} {T : Nat → Option TI} {Γ : Ctx} {f : Nat → Value} {own : Own}
end
end Go.VL
