import Derived.Test.YtnammdmiljjhjaaGC
import Derived.Test.YtnammdmiljjhjaaGD
import Derived.Test.YtnammdmiljjhjaaUD
import Derived.Test.YtnammdmiljjhjaaVLArr
/- A part of the proof: X11. No conditions of its own. -/
namespace Go.Proofs.Ytnammdmiljjhjaa
open Go.VL
attribute [local irreducible] VWr VOps VD Calls

open Classical in
noncomputable def groupR (n g : Int) (ls : List (List Int)) (i a : Int) : List Int × Int :=
  if IsGf n g ls then (if (0 ≤ i ∧ i < ls.length) ∧ (0 ≤ a ∧ a < n) then (sortL (grpAt g.toNat (ls.getD i.toNat []) a.toNat), 0) else ([], 2)) else ([], 1)
theorem gf_dvd {k d : Nat} {ls : List (List Int)} (h : IsGf k d ls) : k % d = 0 := by have h := h.2.2.2.1; exact_mod_cast h

end Go.Proofs.Ytnammdmiljjhjaa
