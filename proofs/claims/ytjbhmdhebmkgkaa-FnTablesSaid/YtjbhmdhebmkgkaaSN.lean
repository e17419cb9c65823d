import Derived.Test.YtjbhmdhebmkgkaaSA
import Derived.Test.YtjbhmdhebmkgkaaSI
import Derived.Test.YtjbhmdhebmkgkaaVLLol
import Derived.Test.YtjbhmdhebmkgkaaVLArr
/- Parts of the proof, one after another. No conditions of their own. -/
/- A part of the proof: P18. No conditions of its own. -/
namespace Go.Proofs.Ytjbhmdhebmkgkaa
open Go.VL
attribute [local irreducible] VWr VOps VD Calls

/-- A pair, laid into a round. -/
def lay (r p : List Int) : List Int := (r.set (p.getD 0 0).toNat (p.getD 1 0)).set (p.getD 1 0).toNat (p.getD 0 0)
def layAll (r : List Int) : List (List Int) → List Int
  | [] => r
  | p :: ps => layAll (lay r p) ps
def canLay (r p : List Int) : Prop := r.getD (p.getD 0 0).toNat 0 = p.getD 0 0 ∧ r.getD (p.getD 1 0).toNat 0 = p.getD 1 0
instance (r p : List Int) : Decidable (canLay r p) := by unfold canLay; infer_instance
/-- The pairs, laid one by one, as long as both are free. -/
def place (r : List Int) : List (List Int) → Option (List Int)
  | [] => some r
  | p :: ps => if canLay r p then place (lay r p) ps else none
def PairOk (n : Int) (p : List Int) : Prop := p.length = 2 ∧ (0 ≤ p.getD 0 0 ∧ p.getD 0 0 < n) ∧ (0 ≤ p.getD 1 0 ∧ p.getD 1 0 < n) ∧ p.getD 0 0 ≠ p.getD 1 0
def PairsOk (n : Int) (ls : List (List Int)) : Prop := ∀ p ∈ ls, PairOk n p
open Classical in
noncomputable def roundOf (n : Int) (ls : List (List Int)) : List Int × Int :=
  if 2 ≤ n ∧ n ≤ 14 ∧ ls.length ≤ 14 ∧ PairsOk n ls then (match place (freeTo n) ls with | some r => (r, 0) | none => (List.replicate 14 0, 5)) else (List.replicate 14 0, 2)
/-- A round and a code. -/
def rdV (r : List Int × Int) : Value := .tuple #[.agg (ints r.1).toArray, .int .i64 r.2]
end Go.Proofs.Ytjbhmdhebmkgkaa

/- A part of the proof: P19. No conditions of its own. -/
namespace Go.Proofs.Ytjbhmdhebmkgkaa
open Go.VL
attribute [local irreducible] VWr VOps VD Calls

end Go.Proofs.Ytjbhmdhebmkgkaa

/- A part of the proof: P20. No conditions of its own. -/
namespace Go.Proofs.Ytjbhmdhebmkgkaa
open Go.VL
attribute [local irreducible] VWr VOps VD Calls

/-- Who is in a pair. -/
def MetOf (n : Nat) (r : List Int) (met : List Bool) : Prop := met.length = n ∧ ∀ j : Nat, j < n → (met.getD j false = true ↔ r.getD j 0 ≠ j)

end Go.Proofs.Ytjbhmdhebmkgkaa

