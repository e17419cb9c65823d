import Derived.Test.YtlnohlomanapeaaCB
import Derived.Test.YtlnohlomanapeaaCD
import Derived.Test.YtlnohlomanapeaaVLOrd
import Derived.Test.YtlnohlomanapeaaVLA
/- A part of the proof: CB6. No conditions of its own. -/
namespace Go.Proofs.Ytlnohlomanapeaa
open Go.VL
attribute [local irreducible] VWr VOps VD Calls

/-- A number that a list of different numbers below n lacks leaves it shorter than n. -/
theorem full_mem {n : Nat} {l : List Int} (hl : l.length = n) (hb : ∀ x ∈ l, 0 ≤ x ∧ x < n) (hnd : l.Nodup) {x : Nat} (hx : x < n) : (x : Int) ∈ l := by
  apply Classical.byContradiction
  intro hn
  have := pigeon n ((x : Int) :: l) (List.nodup_cons.2 ⟨hn, hnd⟩) (fun y hy => by
    rcases List.mem_cons.1 hy with rfl | hy
    · omega
    · exact hb y hy)
  rw [List.length_cons] at this
  omega
/-- The orders of digits, in their order. -/
def incL (t : List Int) : List Int := t.map fun x => x + 1
def digs (m : Nat) : List (List Int) := (ordR m m []).map incL
def ones1 (l : List Int) : List (List Int) := l.map fun x => [x]
end Go.Proofs.Ytlnohlomanapeaa
