import Derived.Test.YtlfflmoegfibgaaS1
import Derived.Test.YtlfflmoegfibgaaSA
import Derived.Test.YtlfflmoegfibgaaVLClo
import Derived.Test.YtlfflmoegfibgaaVLA
/- Parts of the proof, one after another. No conditions of their own. -/
/- A part of the proof: S4. No conditions of its own. -/
namespace Go.Proofs.Ytlfflmoegfibgaa
open Go.VL
attribute [local irreducible] VWr VOps VD Calls

theorem out_bv {P : Program} {Γ : Ctx} {f : Nat → Value} {own : Own} {n t u : Nat} {fn : Func} {b b' : Bool} {c : Int} {r : Bool × Int} (h : fn.results = #[.tmp t, .tmp u]) (hv : f t = .bool b) (hx : f u = .int .i64 c) (hb : b = b') (hr : r = (b', c)) : Out P Γ n fn (Is (.tuple #[.bool r.1, .int .i64 r.2])) .ret f own := by
  subst hb; subst hr
  exact out2 (new := []) h hv hx List.nodup_nil sub_nil ⟨rfl, rfl⟩
end Go.Proofs.Ytlfflmoegfibgaa

