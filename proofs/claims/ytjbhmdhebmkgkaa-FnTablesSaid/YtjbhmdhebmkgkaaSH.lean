import Derived.Test.YtjbhmdhebmkgkaaSO
import Derived.Test.YtjbhmdhebmkgkaaVLRanF
import Derived.Test.YtjbhmdhebmkgkaaVLArr
/- Parts of the proof, one after another. No conditions of their own. -/
/- A part of the proof: P22. No conditions of its own. -/
namespace Go.Proofs.Ytjbhmdhebmkgkaa
open Go.VL
attribute [local irreducible] VWr VOps VD Calls

/-- The pairs of a round, as far as the team k. -/
def pairsTo (r : List Int) (k : Nat) : List (List Int) := ((List.range k).filter fun (a : Nat) => decide ((a : Int) < r.getD a 0)).map fun (a : Nat) => [(a : Int), r.getD a 0]
/-- What pairsIn hands on. -/
def pairVals (n : Int) (r : List Int) : List (List Value) := (pairsTo r n.toNat).map ints
def PairsCap (n : Int) (r : List Int) (b2 b3 : Nat) : Own := [(b3, ⟨ints r, 72, (ints r).length, none⟩), (b2, ⟨[.int .i64 n], 2, 1, none⟩)]
def PairsF (n : Int) (r : List Int) (v : Value) (new : Own) : Prop := ∃ b2 b3, v = .func (.func 261) #[] [.pointer (some ⟨b2, 0, none⟩), .pointer (some ⟨b3, 0, none⟩)].toArray ∧ new = PairsCap n r b2 b3 ∧ b3 ≠ b2

end Go.Proofs.Ytjbhmdhebmkgkaa

/- A part of the proof: P23. No conditions of its own. -/
namespace Go.Proofs.Ytjbhmdhebmkgkaa
open Go.VL
attribute [local irreducible] VWr VOps VD Calls

noncomputable def pairsOf (n : Int) (r : List Int) : List (List Int) × Int := if IsRd n r then (pairsTo r n.toNat, 0) else ([], 2)
end Go.Proofs.Ytjbhmdhebmkgkaa

