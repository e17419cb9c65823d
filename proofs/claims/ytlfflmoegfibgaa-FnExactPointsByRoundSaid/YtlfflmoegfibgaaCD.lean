import Derived.Test.YtlfflmoegfibgaaCA9
import Derived.Test.YtlfflmoegfibgaaSY
import Derived.Test.YtlfflmoegfibgaaVLSum
import Derived.Test.YtlfflmoegfibgaaVLA
/- Parts of the proof, one after another. No conditions of their own. -/
/- A part of the proof: CA13. No conditions of its own. -/
namespace Go.Proofs.Ytlfflmoegfibgaa
open Go.VL
attribute [local irreducible] VWr VOps VD Calls

/-- A round robin of an even number of teams. -/
def EvenR (n : Int) (rs : List (List Int)) : Prop := IsSch n rs ∧ AllMeet n.toNat rs ∧ n % 2 = 0
open Classical in
noncomputable def codeE (n : Int) (rs : List (List Int)) : Int := if IsSch n rs then (if AllMeet n.toNat rs ∧ n % 2 = 0 then 0 else 5) else 1
theorem EvenR.len {k : Nat} {rs : List (List Int)} (h : EvenR k rs) : 2 ≤ k ∧ k ≤ 14 ∧ rs.length + 1 = k := by
  have h1 := h.1.1
  have h2 := h.1.2.1
  have h3 := h.2.1.1
  have h4 := h.2.2
  rw [Int.toNat_natCast] at h3
  unfold robinR at h3
  omega
/-- Where a team's opponent plays next. -/
def nxR (rs : List (List Int)) (i x : Nat) : Int := (rs.getD ((i + 1) % rs.length) []).getD ((rs.getD i []).getD x 0).toNat 0
/-- The carry over matrix of the first i rounds. -/
def carN (k : Nat) (rs : List (List Int)) : Nat → Nat → Nat → Int
  | 0, _, _ => 0
  | i + 1, x, y => carN k rs i x y + if x < k ∧ nxR rs i x = (y : Int) then 1 else 0
theorem rd_at {k : Nat} {r : List Int} (h : IsRd k r) {x : Nat} (hx : x < k) : 0 ≤ r.getD x 0 ∧ r.getD x 0 < k ∧ r.getD (r.getD x 0).toNat 0 = x := by
  have h14 := h.2.1
  have := (h.2.2 x (by omega)).2 (by omega)
  exact ⟨this.1, by omega, this.2.2⟩
theorem sch_get {k : Nat} {rs : List (List Int)} (h : IsSch k rs) {i : Nat} (hi : i < rs.length) : rs[i]? = some (rs.getD i []) ∧ IsRd k (rs.getD i []) := by
  have hg : rs[i]? = some (rs.getD i []) := by rw [List.getD_eq_getElem?_getD, List.getElem?_eq_getElem hi]; rfl
  exact ⟨hg, h.2.2.2 i _ hg⟩
/-- All numbers of different teams are 1. -/
def BalO (k : Nat) (g : Nat → Nat → Int) : Prop := ∀ a b, a < k → b < k → a ≠ b → g a b = 1
end Go.Proofs.Ytlfflmoegfibgaa

