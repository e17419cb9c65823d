import Derived.Test.YtjbhmdhebmkgkaaSH
import Derived.Test.YtjbhmdhebmkgkaaVLArr
/- Parts of the proof, one after another. No conditions of their own. -/
/- A part of the proof: P24. No conditions of its own. -/
namespace Go.Proofs.Ytjbhmdhebmkgkaa
open Go.VL
attribute [local irreducible] VWr VOps VD Calls

/-- In how many of the rounds a meets b. -/
def cnt (l : List (List Int)) (a b : Nat) : Nat := if a = b then 0 else (l.filter fun r => decide (r.getD a 0 = (b : Int))).length
/-- A table. -/
def tabOf (n : Nat) (g : Nat → Nat → Int) : List (List Int) := (List.range n).map fun a => (List.range n).map fun b => g a b
abbrev meetRow (n : Nat) (l : List (List Int)) (a : Nat) : List Int := (List.range n).map fun b => (cnt l a b : Int)
abbrev meetTab (n : Nat) (l : List (List Int)) : List (List Int) := tabOf n fun a b => (cnt l a b : Int)
end Go.Proofs.Ytjbhmdhebmkgkaa

/- A part of the proof: P25. No conditions of its own. -/
namespace Go.Proofs.Ytjbhmdhebmkgkaa
open Go.VL
attribute [local irreducible] VWr VOps VD Calls

/-- How often x and y are a pair. -/
def hits (ps : List (List Int)) (x y : Nat) : Nat := (ps.filter fun p => decide ((p.getD 0 0 = (x : Int) ∧ p.getD 1 0 = (y : Int)) ∨ (p.getD 0 0 = (y : Int) ∧ p.getD 1 0 = (x : Int)))).length
def sumF (f : Nat → Int) : Nat → Nat → Int
  | _, 0 => 0
  | s, n + 1 => f s + sumF f (s + 1) n
def sumL : List Int → Int
  | [] => 0
  | x :: l => x + sumL l
/-- What the entries with F tell, together. -/
def wts (F : List Int → Bool) (es : Ents) : List Int := es.map fun e => if F e.1 then e.2 else 0
/-- What the entry j adds to the place x, y. -/
def wt (es : Ents) (x y j : Nat) : Int := (wts (fun r => decide (x ≠ y ∧ r.getD x 0 = (y : Int))) es).getD j 0
/-- .. and the entries seen. -/
def seenSum (es : Ents) (seen : Array Nat) (x y : Nat) : Int := sumF (fun j => if seen.contains j then wt es x y j else 0) 0 es.length
def TabAt (ei : Nat) (tab : List (List Int)) (vs : List Value) (own : Own) : Prop := ∃ ns, Go.VL.RowsAt ei tab vs ns ∧ own.Perm ns.flatten
end Go.Proofs.Ytjbhmdhebmkgkaa

