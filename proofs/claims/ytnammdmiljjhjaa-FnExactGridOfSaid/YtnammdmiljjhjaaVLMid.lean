import Derived.Test.YtnammdmiljjhjaaVLBuild
/-! What holds between two statements. -/
namespace Go.VL
theorem vw_mid {ro : Option Nat} {P : Program} {Γ : Ctx} {n : Nat} {c : Code} {K0 : (Nat → Value) → Own → Prop} {Q : Post} {f : Nat → Value} {own : Own} (K : (Nat → Value) → Own → Prop)
    (h : VWr ro P Γ n c (Then K (fun _ _ _ => False)) f own) (k : ∀ f own, K f own → K0 f own) : VWr ro P Γ n c (Then K0 Q) f own :=
  vw_mono h fun e f own h => by
    cases e with
    | normal => exact k f own h
    | _ => exact h.elim
end Go.VL
