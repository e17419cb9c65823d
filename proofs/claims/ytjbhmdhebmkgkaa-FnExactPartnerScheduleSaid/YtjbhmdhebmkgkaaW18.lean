import Derived.Test.YtjbhmdhebmkgkaaW15
import Derived.Test.YtjbhmdhebmkgkaaVLArr
/- A part of the proof: W18. No conditions of its own. -/
namespace Go.Proofs.Ytjbhmdhebmkgkaa
open Go.VL
attribute [local irreducible] VWr VOps VD Calls

abbrev fnV (g : Nat) : Value := .func (.func g) #[] #[]
/-- What an evening has to pass. -/
def tests3 : List Value := [fnV 222, fnV 223, fnV 224]
/-- Tests that are read. -/
def RdTs (w : World) (v : Value) (fs : List (Nat × Bool)) : Prop := ∃ b o cap, v = .slice (some ⟨b, o, none⟩) fs.length cap ∧ ∀ (j : Nat) (p : Nat × Bool), fs[j]? = some p → w.cell? ⟨b, o + j, none⟩ = some (fnV p.1)
open Classical in
/-- What an evening has to pass, and whether it does. -/
noncomputable def whistT (k : Nat) (es : List (List Int)) : List (Nat × Bool) := [(222, decide (WholeR k es)), (223, decide (EachIs k [1] es 1)), (224, decide (EachIs k [2, 3] es 2))]
open Classical in
noncomputable def tripleT (k : Nat) (es : List (List Int)) : List (Nat × Bool) := whistT k es ++ [(139, decide (EachIs k [2] es 1))]
end Go.Proofs.Ytjbhmdhebmkgkaa
