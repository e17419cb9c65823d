import Derived.Test.YtnammdmiljjhjaaSY
import Derived.Test.YtnammdmiljjhjaaVLArr
/- A part of the proof: X1. No conditions of its own. -/
namespace Go.Proofs.Ytnammdmiljjhjaa
open Go.VL

/-! golfs: groups, and who meets -/
/-- A golf. -/
def IsGf (n g : Int) (ls : List (List Int)) : Prop := 2 ≤ n ∧ n ≤ 25 ∧ 2 ≤ g ∧ n % g = 0 ∧ ls.length ≤ 12 ∧ ∀ r ∈ ls, IsPerm n r
/-- The pairs of the place k of a group that begins at o, with all places before it. -/
def prO (r : List Int) (o k : Nat) : Nat → List (List Int)
  | 0 => []
  | j + 1 => prO r o k j ++ [[r.getD (o + k) 0, r.getD (o + j) 0]]
def grO (r : List Int) (o : Nat) : Nat → List (List Int)
  | 0 => []
  | k + 1 => grO r o k ++ prO r o k k
def rdP (g : Nat) (r : List Int) : Nat → List (List Int)
  | 0 => []
  | m + 1 => rdP g r m ++ grO r (g * m) g
def triN : Nat → Nat
  | 0 => 0
  | k + 1 => triN k + k
/-- Where a number stands in a list. -/
def posI (r : List Int) (x : Nat) : Nat := r.idxOf (x : Int)
/-- x and y, different, are in the same group. -/
def SameG (g : Nat) (r : List Int) (x y : Nat) : Prop := x ≠ y ∧ posI r x / g = posI r y / g
instance (g : Nat) (r : List Int) (x y : Nat) : Decidable (SameG g r x y) := inferInstanceAs (Decidable (_ ∧ _))
theorem SameG.symm {g : Nat} {r : List Int} {x y : Nat} (h : SameG g r x y) : SameG g r y x := ⟨h.1.symm, h.2.symm⟩
/-- In how many rounds x and y meet. -/
def metN (g : Nat) (ls : List (List Int)) (x y : Nat) : Nat := (ls.filter fun r => decide (SameG g r x y)).length
/-- The table of the meetings. -/
def metT (n g : Nat) (ls : List (List Int)) : List (List Int) := tabOf n fun x y => (metN g ls x y : Int)
end Go.Proofs.Ytnammdmiljjhjaa
