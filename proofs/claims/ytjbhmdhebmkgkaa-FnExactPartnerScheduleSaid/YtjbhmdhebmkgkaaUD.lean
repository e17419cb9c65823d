import Derived.Test.YtjbhmdhebmkgkaaUC
import Derived.Test.YtjbhmdhebmkgkaaUB
import Derived.Test.YtjbhmdhebmkgkaaVLArr
/- Parts of the proof, one after another. No conditions of their own. -/
/- A part of the proof: W7. No conditions of its own. -/
namespace Go.Proofs.Ytjbhmdhebmkgkaa
open Go.VL
attribute [local irreducible] VWr VOps VD Calls

/-- A base round of n players. -/
def IsBase (n : Int) (q : List Int) : Prop := 4 ≤ n ∧ n ≤ 16 ∧ n % 4 ≤ 1 ∧ (q.length : Int) = n - n % 4 ∧ DiffL n q
open Classical in
noncomputable def madeR (n : Int) (q : List Int) : (Int × List (List Int)) × Int := if IsBase n q then ((n, madeT (mOf n.toNat) q (mOf n.toNat)), 0) else ((0, []), 2)
/-- A list, of which the first k have been turned. -/
def mixW (l k : Nat) (g h : Nat → Int) : List Int := lst l fun j => if j < k then g j else h j
end Go.Proofs.Ytjbhmdhebmkgkaa

