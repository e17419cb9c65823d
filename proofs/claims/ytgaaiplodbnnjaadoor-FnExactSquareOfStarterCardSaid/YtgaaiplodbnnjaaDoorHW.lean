import Derived.Test.YtgaaiplodbnnjaaDoorSQ
/- A part of the proof: HW. No conditions of its own. -/
namespace Go.Proofs.YtgaaiplodbnnjaaDoor
open Go.VL
/-- What is known of a starter's pairs and its adder. -/
structure HowOk (M : Nat) (ls : List (List Int)) (ad : List Int) : Prop where
  m3 : 3 ≤ M
  m13 : M ≤ 13
  len : ad.length = ls.length
  few : ls.length ≤ 6
  pair : ∀ i, i < ls.length → (ls.getD i []).length = 2 ∧ 0 ≤ (ls.getD i []).getD 0 0 ∧ (ls.getD i []).getD 0 0 < M ∧ 0 ≤ (ls.getD i []).getD 1 0 ∧ (ls.getD i []).getD 1 0 < M
  add : ∀ i, i < ls.length → 1 ≤ ad.getD i 0 ∧ ad.getD i 0 < M
theorem adder_yes {m : Int} {ls : List (List Int)} {ad : List Int} (h : (adderR m ls ad).1 = true) : ∃ M : Nat, m = M ∧ HowOk M ls ad ∧ (adderR m ls ad).2 = 0 := by
  by_cases hc : adCode m ls ad = 0
  · obtain ⟨⟨hm, hp⟩, hn, hst⟩ := adCode_zero hc
    obtain ⟨M, rfl⟩ : ∃ M : Nat, m = M := ⟨m.toNat, by have := hm.1; omega⟩
    have hm3 := hm.1
    have hm13 := hm.2.1
    have hl := hst.1
    refine ⟨M, rfl, ⟨by omega, by omega, hn.1, by omega, fun i hi => ?_, fun i hi => ?_⟩, by unfold adderR; rw [if_pos hc]⟩
    · have hgl : ls[i]? = some (ls.getD i []) := by rw [List.getD_eq_getElem?_getD, List.getElem?_eq_getElem hi]; rfl
      obtain ⟨⟨h1, h2⟩, _⟩ := hp i _ hgl
      have h3 := h2 0 (by omega)
      have h4 := h2 1 (by omega)
      exact ⟨h1, by omega, by omega, by omega, by omega⟩
    · have := hn.2 i (by have := hn.1; omega)
      omega
  · unfold adderR at h
    rw [if_neg hc] at h
    cases h
/-- The numbers of a pair differ. -/
theorem adder_ne {m : Int} {ls : List (List Int)} {ad : List Int} (h : (adderR m ls ad).1 = true) : ∀ i, i < ls.length → (ls.getD i []).getD 0 0 ≠ (ls.getD i []).getD 1 0 := by
  intro i hi
  by_cases hc : adCode m ls ad = 0
  · obtain ⟨⟨hm, hp⟩, hn, hst⟩ := adCode_zero hc
    have hgl : ls[i]? = some (ls.getD i []) := by rw [List.getD_eq_getElem?_getD, List.getElem?_eq_getElem hi]; rfl
    exact (hp i _ hgl).2
  · unfold adderR at h
    rw [if_neg hc] at h
    cases h
theorem rest_add {M p j : Int} (h0 : 0 ≤ p) (h1 : p < M) (hj0 : 0 ≤ j) (hj : j < M) : (p + j) % M = if p + j < M then p + j else p + j - M := by
  split
  · exact Int.emod_eq_of_lt (by omega) (by omega)
  · have : (p + j) % M = (p + j - M) % M := (Int.sub_emod_right (p + j) M).symm
    rw [this]
    exact Int.emod_eq_of_lt (by omega) (by omega)
theorem rest_ne {M p q j : Int} (h0 : 0 ≤ p) (h1 : p < M) (h2 : 0 ≤ q) (h3 : q < M) (hj0 : 0 ≤ j) (hj : j < M) (hne : p ≠ q) : (p + j) % M ≠ (q + j) % M := by
  rw [rest_add h0 h1 hj0 hj, rest_add h2 h3 hj0 hj]
  split <;> split <;> omega
end Go.Proofs.YtgaaiplodbnnjaaDoor
