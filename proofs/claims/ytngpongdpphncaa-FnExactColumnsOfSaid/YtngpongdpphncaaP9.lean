import Derived.Test.YtngpongdpphncaaP8
import Derived.Test.YtngpongdpphncaaVLArr
/- A part of the proof: P9. No conditions of its own. -/
namespace Go.Proofs.Ytngpongdpphncaa
open Go.VL
attribute [local irreducible] VWr VOps VD Calls

theorem take14 {rs : List (List Int)} (h : ∀ r ∈ rs, r.length = 14) (k l : Nat) : ∀ r ∈ (rs.take k).drop l, r.length = 14 := fun r hr => h r (List.mem_of_mem_take (List.mem_of_mem_drop hr))
open Classical in
noncomputable def dropRound (n : Int) (rs : List (List Int)) (i : Int) : (Int × List (List Int)) × Int :=
  if IsSch n rs then (if 0 ≤ i ∧ i < rs.length then ((n, (rs.take i.toNat).drop 0 ++ (rs.take rs.length).drop (i.toNat + 1)), 0) else ((0, []), 2)) else ((0, []), 1)
theorem dropRound_ok (n : Int) (rs : List (List Int)) (i : Int) (hr : ∀ r ∈ rs, r.length = 14) (hl : rs.length ≤ 1048576) : (∀ q ∈ (dropRound n rs i).1.2, q.length = 14) ∧ (dropRound n rs i).1.2.length ≤ 1048576 := by
  unfold dropRound
  split
  · split
    · exact ⟨all14 (take14 hr _ _) (take14 hr _ _), by simp; omega⟩
    · simp
  · simp
theorem rdS_cap {w : World} {a : Option Addr} {n c : Nat} {rs : List (List Int)} (h : RdS w (.slice a n c) rs) : n = rs.length := by
  rcases h with ⟨a', cap, h1, h2⟩ | ⟨b, o, cap, h1, _⟩
  · cases h1; subst h2; rfl
  · cases h1; rfl
theorem capOf {e k : Nat} {rs : List (List Int)} {p : Option Addr} {n cap : Nat} {new : Own} (h : NewR e k rs (.slice p n cap) new) : ∀ a m c, Value.slice p n cap = .slice a m c → m ≤ c := by
  intro a m c he
  cases he
  rcases h.2 with ⟨h1, h2, _⟩ | ⟨b, c', h1, h2, _⟩
  · cases h1; exact Nat.le_refl _
  · cases h1; exact h2
end Go.Proofs.Ytngpongdpphncaa
