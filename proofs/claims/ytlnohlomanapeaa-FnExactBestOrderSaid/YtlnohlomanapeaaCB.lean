import Derived.Test.YtlnohlomanapeaaCA1
import Derived.Test.YtlnohlomanapeaaUA
import Derived.Test.YtlnohlomanapeaaVLTable
import Derived.Test.YtlnohlomanapeaaVLCells
import Derived.Test.YtlnohlomanapeaaVLA
import Derived.Test.YtlnohlomanapeaaSX
/- Parts of the proof, one after another. No conditions of their own. -/
/- A part of the proof: CA5. No conditions of its own. -/
namespace Go.Proofs.Ytlnohlomanapeaa
open Go.VL
attribute [local irreducible] VWr VOps VD Calls

/-- The first k opponents of the digit round robin's round x. -/
def digP (x k : Nat) : List Int := lst 14 fun a => if a < k then ((a ^^^ x : Nat) : Int) else 0
def digRows (n : Nat) (l : List Int) : List (List Int) := l.map fun x => digP x.toNat n
end Go.Proofs.Ytlnohlomanapeaa

/- A part of the proof: CA6. No conditions of its own. -/
namespace Go.Proofs.Ytlnohlomanapeaa
open Go.VL
attribute [local irreducible] VWr VOps VD Calls

/-- A number of teams and an order of digits. -/
def IsDig (n : Int) (l : List Int) : Prop := (n = 2 ∨ n = 4 ∨ n = 8) ∧ (l.length : Int) = n - 1 ∧ (∀ x ∈ l, 1 ≤ x ∧ x ≤ n - 1) ∧ l.Nodup
def digR0 (n : Int) (l : List Int) : (Int × List (List Int)) × Int := ((n, digRows n.toNat l), 0)
open Classical in
noncomputable def digR (n : Int) (l : List Int) : (Int × List (List Int)) × Int := if IsDig n l then digR0 n l else ((0, []), 2)
end Go.Proofs.Ytlnohlomanapeaa

