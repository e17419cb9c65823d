import Derived.Test.YtngpongdpphncaaVLCells
/-! What is wanted behind a loop as a variable: the walk through the loop does not carry it. -/
namespace Go.VL
theorem vw_post {ro : Option Nat} {P : Program} {Γ : Ctx} {n : Nat} {c : Code} {Q : Post} {f : Nat → Value} {own : Own} (h : ∀ Q' : Post, Q' = Q → VWr ro P Γ n c Q' f own) : VWr ro P Γ n c Q f own := h Q rfl
end Go.VL
