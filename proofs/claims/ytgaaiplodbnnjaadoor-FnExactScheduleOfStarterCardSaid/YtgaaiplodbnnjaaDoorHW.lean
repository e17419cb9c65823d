import Derived.Test.YtgaaiplodbnnjaaDoorSQ
/- A part of the proof: HW. No conditions of its own. -/
namespace Go.Proofs.YtgaaiplodbnnjaaDoor
open Go.VL
theorem rest_add {M p j : Int} (h0 : 0 ≤ p) (h1 : p < M) (hj0 : 0 ≤ j) (hj : j < M) : (p + j) % M = if p + j < M then p + j else p + j - M := by
  split
  · exact Int.emod_eq_of_lt (by omega) (by omega)
  · have : (p + j) % M = (p + j - M) % M := (Int.sub_emod_right (p + j) M).symm
    rw [this]
    exact Int.emod_eq_of_lt (by omega) (by omega)
theorem rest_ne {M p q j : Int} (h0 : 0 ≤ p) (h1 : p < M) (h2 : 0 ≤ q) (h3 : q < M) (hj0 : 0 ≤ j) (hj : j < M) (hne : p ≠ q) : (p + j) % M ≠ (q + j) % M := by
  rw [rest_add h0 h1 hj0 hj, rest_add h2 h3 hj0 hj]
  split <;> split <;> omega
end Go.Proofs.YtgaaiplodbnnjaaDoor
