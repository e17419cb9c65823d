import Derived.Test.YtngpongdpphncaaR17
import Derived.Test.YtngpongdpphncaaSJ
import Derived.Test.YtngpongdpphncaaSF
import Derived.Test.YtngpongdpphncaaVLArr
/- A part of the proof: R21. No conditions of its own. -/
namespace Go.Proofs.Ytngpongdpphncaa
open Go.VL
attribute [local irreducible] VWr VOps VD Calls

/-- The cell i, j of the square of two schedules of n teams. -/
def sqCell (n : Nat) (s t : List (List Int)) (i j : Nat) : Option Int := comCell (comOf (t.getD j []) (pairsTo (s.getD i []) n))
open Classical in
noncomputable def sqR (sn tn : Int) (s t : List (List Int)) : (Int × List (List Int)) × Int :=
  if IsSch sn s ∧ IsSch tn t then (if (sn - 1) % 2 = 1 ∧ tn = sn ∧ (s.length : Int) = sn - 1 ∧ (t.length : Int) = sn - 1 then
    (if ∀ i j : Nat, i < s.length → j < s.length → sqCell sn.toNat s t i j ≠ none then ((sn - 1, tabN s.length s.length fun i j => (sqCell sn.toNat s t i j).getD 0), 0) else ((0, []), 5)) else ((0, []), 2)) else ((0, []), 1)
theorem sqR_ok (sn tn : Int) (s t : List (List Int)) : (sqR sn tn s t).1.2.length ≤ 1048576 ∧ (∀ l ∈ (sqR sn tn s t).1.2, l.length ≤ 1048576) ∧ sumLen (sqR sn tn s t).1.2 ≤ 1048576 := by
  unfold sqR
  split
  · rename_i h
    have h14 := h.1.2.1
    split
    · rename_i h2
      have hl : s.length ≤ 13 := by omega
      split
      · refine ⟨by show (tabN _ _ _).length ≤ _; rw [tabN_length]; omega, fun l hl => ?_, ?_⟩
        · obtain ⟨i, _, rfl⟩ := tabN_mem (show l ∈ tabN _ _ _ from hl); rw [lst_length]; omega
        · show sumLen (tabN _ _ _) ≤ _
          rw [sumLen_tab]
          have := mul_le13 (i := s.length) (k := s.length) (by omega) (by omega); omega
      · simp [sumLen]
    · simp [sumLen]
  · simp [sumLen]
/-- What numberOf makes of the common pair. -/
theorem com_num {n : Nat} {r q : List Int} {c : Int} (h : comCell (comOf q (pairsTo r n)) = some c) (hr : ∀ a : Nat, a < n → r.getD a 0 ≤ 13) (hn : n ≤ 14) :
    ∃ lo hi : Int, comV (comOf q (pairsTo r n)) = .tuple #[cellV lo hi, .bool true] ∧ 0 ≤ lo ∧ lo ≤ 13 ∧ 0 ≤ hi ∧ hi ≤ 13 ∧ c = if lo = 0 ∧ hi = 0 then -1 else 14 * lo + hi := by
  have hsub : ∀ p ∈ comOf q (pairsTo r n), ∃ a : Nat, a < n ∧ (a : Int) < r.getD a 0 ∧ p = [(a : Int), r.getD a 0] := fun p hp => mem_pairs (List.mem_filter.1 hp).1
  generalize comOf q (pairsTo r n) = l at *
  match l, h, hsub with
  | [], h, _ =>
    refine ⟨0, 0, rfl, by omega, by omega, by omega, by omega, ?_⟩
    have : (-1 : Int) = c := Option.some.inj h
    rw [if_pos ⟨rfl, rfl⟩, this]
  | [p], h, hs =>
    obtain ⟨a, ha, hlt, rfl⟩ := hs p (by simp)
    have := hr a ha
    refine ⟨a, r.getD a 0, rfl, by omega, by omega, by omega, by omega, ?_⟩
    have e : 14 * (a : Int) + r.getD a 0 = c := Option.some.inj h
    rw [if_neg (by omega), e]
  | _ :: _ :: _, h, _ => cases h
theorem comV_none {l : List (List Int)} (h : comCell l = none) : comV l = .tuple #[cellV 0 0, .bool false] := by
  match l, h with
  | _ :: _ :: _, _ => rfl

end Go.Proofs.Ytngpongdpphncaa
