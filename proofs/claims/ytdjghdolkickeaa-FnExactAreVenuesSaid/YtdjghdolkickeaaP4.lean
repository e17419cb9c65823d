import Derived.Test.YtdjghdolkickeaaP3
import Derived.Test.YtdjghdolkickeaaVLArr
/- A part of the proof: P4. No conditions of its own. -/
namespace Go.Proofs.Ytdjghdolkickeaa
open Go.VL
attribute [local irreducible] VWr VOps VD Calls

theorem freeTeams_len (n : Int) (rs : List (List Int)) (i : Int) : (freeTeams n rs i).1.length ≤ 1048576 := by
  unfold freeTeams
  split
  · rename_i h
    split
    · have := collect_le (fun a => decide ((rs.getD i.toNat []).getD a 0 = (a : Int))) (fun a => (a : Int)) n.toNat
      have h2 := h.2.1
      simp only [freeOf]; omega
    · simp
  · simp
end Go.Proofs.Ytdjghdolkickeaa
