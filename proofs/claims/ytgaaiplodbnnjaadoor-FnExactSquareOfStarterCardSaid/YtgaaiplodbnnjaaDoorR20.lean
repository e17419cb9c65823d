import Derived.Test.YtgaaiplodbnnjaaDoorSM
import Derived.Test.YtgaaiplodbnnjaaDoorVLArr
/- A part of the proof: R20. No conditions of its own. -/
-- FAST
namespace Go.Proofs.YtgaaiplodbnnjaaDoor
open Go.VL
attribute [local irreducible] VWr VOps VD Calls

theorem tabN_row {m k i : Nat} {g : Nat → Nat → Int} {ei : Nat} {vs : List Value} {X : Own} (h : TabAt ei (tabN m k g) vs X) (hi : i < m) (hk : 0 < k) :
    ∃ br cap R, vs[i]? = some (.slice (some ⟨br, 0, none⟩) k cap) ∧ X.Perm ((br, ⟨ints (lst k (g i)), ei, cap * 1, none⟩) :: R) ∧ ∀ h' : Nat → Int, TabAt ei (tabN m k fun a b => if a = i then h' b else g a b) vs ((br, ⟨ints (lst k h'), ei, cap * 1, none⟩) :: R) := by
  obtain ⟨br, cap, R, h1, h2, h3, h4⟩ := h.row (tabN_get hi) (by rw [lst_length]; exact hk)
  rw [lst_length] at h1 h4
  refine ⟨br, cap, R, h1, h2, fun h' => ?_⟩
  rw [← tabN_set]
  exact h4 (lst k h') (lst_length _ _)

end Go.Proofs.YtgaaiplodbnnjaaDoor
