import Derived.Test.YtgaaiplodbnnjaaDoorHW
import Derived.Test.YtgaaiplodbnnjaaDoorSJ
import Derived.Test.YtgaaiplodbnnjaaDoorSX
import Derived.Test.YtgaaiplodbnnjaaDoorVLArr
/- A part of the proof: Y0. No conditions of its own. -/
namespace Go.Proofs.YtgaaiplodbnnjaaDoor
open Go.VL
attribute [local irreducible] VWr VOps VD Calls

def setG (g : Nat → Nat → Int) (i j : Nat) (x : Int) : Nat → Nat → Int := fun a b => if a = i ∧ b = j then x else g a b
/-- The number of a cell with the teams x and y. -/
def numG (x y : Int) : Int := 14 * (if y < x then y else x) + (if y > x then y else x)
def colG (M j : Nat) (ad : List Int) (k : Nat) : Nat := (((j : Int) - ad.getD k 0 + M) % M).toNat
/-- The row j with the first k pairs. -/
def rowG (M : Nat) (ls : List (List Int)) (ad : List Int) (j : Nat) (g : Nat → Nat → Int) : Nat → Nat → Nat → Int
  | 0 => setG g j j (14 * j + M)
  | k + 1 => setG (rowG M ls ad j g k) j (colG M j ad k) (numG (((ls.getD k []).getD 0 0 + j) % M) (((ls.getD k []).getD 1 0 + j) % M))
def allG (M : Nat) (ls : List (List Int)) (ad : List Int) : Nat → Nat → Nat → Int
  | 0 => fun _ _ => -1
  | j + 1 => rowG M ls ad j (allG M ls ad j) ls.length
noncomputable def sqsR (m : Int) (ls : List (List Int)) (ad : List Int) : (Int × List (List Int)) × Int :=
  if (adderR m ls ad).2 = 0 then (if (adderR m ls ad).1 = true then ((m, tabN m.toNat m.toNat (allG m.toNat ls ad m.toNat)), 0) else ((0, []), 5)) else ((0, []), (adderR m ls ad).2)
theorem sqsR_ok (m : Int) (ls : List (List Int)) (ad : List Int) : (sqsR m ls ad).1.2.length ≤ 1048576 ∧ (∀ l ∈ (sqsR m ls ad).1.2, l.length ≤ 1048576) ∧ sumLen (sqsR m ls ad).1.2 ≤ 1048576 := by
  unfold sqsR
  split
  · split
    · rename_i h
      obtain ⟨M, rfl, hO, _⟩ := adder_yes h
      have h13 := hO.m13
      rw [Int.toNat_natCast]
      refine ⟨by show (tabN _ _ _).length ≤ _; rw [tabN_length]; omega, fun l hl => ?_, ?_⟩
      · obtain ⟨i, _, rfl⟩ := tabN_mem (show l ∈ tabN _ _ _ from hl)
        rw [lst_length]; omega
      · show sumLen (tabN M M _) ≤ _
        rw [sumLen_tab]
        calc M * M ≤ 13 * 13 := Nat.mul_le_mul h13 h13
          _ ≤ _ := by omega
    · simp [sumLen]
  · simp [sumLen]
theorem bcY {P : Program} {fn : Nat} {args : Array Value} {w : World} {r : Bool × Int} {b : Bool} {c : Int} (h : Calls P fn args w (Res w (Is (.tuple #[.bool r.1, .int .i64 r.2])))) (hr : r = (b, c)) : Calls P fn args w (Res w (Is (.tuple #[.bool b, .int .i64 c]))) := by
  subst hr; exact h
end Go.Proofs.YtgaaiplodbnnjaaDoor
