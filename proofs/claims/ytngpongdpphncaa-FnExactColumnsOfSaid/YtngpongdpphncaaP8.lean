import Derived.Test.YtngpongdpphncaaP7
import Derived.Test.YtngpongdpphncaaVLArr
/- A part of the proof: P8. No conditions of its own. -/
namespace Go.Proofs.Ytngpongdpphncaa
open Go.VL
attribute [local irreducible] VWr VOps VD Calls

open Classical in
noncomputable def addRound (n : Int) (rs : List (List Int)) (r : List Int) : (Int × List (List Int)) × Int :=
  if IsSch n rs then (if IsRd n r then (if rs.length = 40 then ((0, []), 3) else ((n, rs ++ [r]), 0)) else ((0, []), 2)) else ((0, []), 1)
theorem addRound_ok (n : Int) (rs : List (List Int)) (r : List Int) (hr : ∀ r ∈ rs, r.length = 14) (hl : rs.length ≤ 1048576) (hrl : r.length = 14) : (∀ q ∈ (addRound n rs r).1.2, q.length = 14) ∧ (addRound n rs r).1.2.length ≤ 1048576 := by
  unfold addRound
  split
  · rename_i h
    have := h.2.2.1
    split
    · split
      · simp
      · exact ⟨all14 hr (by simpa using hrl), by simp; omega⟩
    · simp
  · simp
end Go.Proofs.Ytngpongdpphncaa
