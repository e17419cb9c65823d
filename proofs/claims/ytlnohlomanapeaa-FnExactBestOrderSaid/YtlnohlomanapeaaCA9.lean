import Derived.Test.YtlnohlomanapeaaCA3
import Derived.Test.YtlnohlomanapeaaVLMatrix
import Derived.Test.YtlnohlomanapeaaVLA
/- A part of the proof: CA9. No conditions of its own. -/
namespace Go.Proofs.Ytlnohlomanapeaa
open Go.VL
attribute [local irreducible] VWr VOps VD Calls

theorem matN_congr {n : Int} {m k : Nat} {g g' : Nat → Nat → Int} (e : ∀ i j, i < m → j < k → g i j = g' i j) : matN n m k g = matN n m k g' := by
  unfold matN; rw [flatN_congr e]
abbrev mvM (n : Nat) (g : Nat → Nat → Int) : Value := .agg (ints (matN n 14 14 g)).toArray
/-- A balanced matrix, as far as the row i and there the column j. -/
def balP (n i j x y : Nat) : Int := if x < n ∧ y < n ∧ x ≠ y ∧ (x < i ∨ x = i ∧ y < j) then 1 else 0
/-- All numbers of different ones are 1, those of equal ones 0. -/
def BalM (n : Nat) (g : Nat → Nat → Int) : Prop := ∀ a b, a < n → b < n → g a b = if a = b then 0 else 1
end Go.Proofs.Ytlnohlomanapeaa
