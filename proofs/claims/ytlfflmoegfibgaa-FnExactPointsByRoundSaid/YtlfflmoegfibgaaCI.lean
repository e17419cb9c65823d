import Derived.Test.YtlfflmoegfibgaaCA1
import Derived.Test.YtlfflmoegfibgaaVLNb
import Derived.Test.YtlfflmoegfibgaaVLA
/- Parts of the proof, one after another. No conditions of their own. -/
/- A part of the proof: CA3. No conditions of its own. -/
namespace Go.Proofs.Ytlfflmoegfibgaa
open Go.VL
attribute [local irreducible] VWr VOps VD Calls

/-- Each number and the one behind it. -/
def nbP (t : List Int) : List (List Value) := (List.range (t.length - 1)).map fun k => ints [t.getD k 0, t.getD (k + 1) 0]
def NbB (v : Value) (b : Nat) : Own := [(b, ⟨[v], 135, 1, none⟩)]
/-- The steps of a list, modulo n. -/
def stepsOf (t : List Int) (m : Nat) : List Int := (List.range m).map fun k => (t.getD (k + 1) 0 - t.getD k 0 + t.length) % t.length
/-- All steps are different. -/
def Steps (t : List Int) : Prop := (stepsOf t (t.length - 1)).Nodup
open Classical in
noncomputable def stepR (t : List Int) : Bool × Int := if IsWhole t then (decide (Steps t), 0) else (false, 2)
end Go.Proofs.Ytlfflmoegfibgaa

