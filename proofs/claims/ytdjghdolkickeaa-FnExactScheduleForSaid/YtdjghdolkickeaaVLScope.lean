import Derived.Test.YtdjghdolkickeaaVLSort
import Derived.Scope
namespace Go.VL
/-- No jump leaves. -/
@[reducible] def NoGoto (Q : Post) : Post
  | .goto _, _, _ => False
  | e, f, own => Q e f own
/-- A scope through which the run goes without a jump. -/
theorem vw_scope {P : Program} {Γ : Ctx} {n : Nat} {c : Code} {Q : Post} {f : Nat → Value} {own : Own} (h : VW P Γ n c (NoGoto Q) f own) : VW P Γ n (.scope c) Q f own := by
  intro a w ha hg hm
  refine wpIn_wide.2 (wp_scope_straight (wp_mono (wpIn_wide.1 (h a w ha hg hm)) ?_))
  rintro e a' w' ⟨f', own', h1, h2, h3, h4⟩
  cases e with
  | goto l => exact h4.elim
  | _ => exact ⟨f', own', h1, h2, h3, h4⟩
end Go.VL
