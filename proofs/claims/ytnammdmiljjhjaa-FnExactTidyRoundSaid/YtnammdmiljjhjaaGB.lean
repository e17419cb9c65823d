import Derived.Test.YtnammdmiljjhjaaGA
import Derived.Test.YtnammdmiljjhjaaSY
import Derived.Test.YtnammdmiljjhjaaVLArr
/- Parts of the proof, one after another. No conditions of their own. -/
/- A part of the proof: X7. No conditions of its own. -/
namespace Go.Proofs.Ytnammdmiljjhjaa
open Go.VL
attribute [local irreducible] VWr VOps VD Calls

/-- What the places below q add. -/
def rowC (g : Nat) (r : List Int) (q x y : Nat) : Int := if SameG g r x y ∧ posI r x < q then 1 else 0
/-- .. and of the place q the z first of its group. -/
def celC (r : List Int) (q o z b : Nat) : Int := if posI r b ≠ q ∧ o ≤ posI r b ∧ posI r b < o + z then 1 else 0
end Go.Proofs.Ytnammdmiljjhjaa

/- A part of the proof: X7S. No conditions of its own. -/
namespace Go.Proofs.Ytnammdmiljjhjaa
open Go.VL
attribute [local irreducible] VWr VOps VD Calls

open Classical in
noncomputable def meetR (n g : Int) (ls : List (List Int)) : List (List Int) × Int := if IsGf n g ls then (metT n.toNat g.toNat ls, 0) else ([], 1)
theorem IsGf.nat {n g : Int} {ls : List (List Int)} (h : IsGf n g ls) : ∃ k d : Nat, n = (k : Int) ∧ g = (d : Int) := ⟨n.toNat, g.toNat, by have := h.1; omega, by have := h.2.2.1; omega⟩
end Go.Proofs.Ytnammdmiljjhjaa

