import Derived.Test.YtgaaiplodbnnjaaDoorR1
import Derived.Test.YtgaaiplodbnnjaaDoorSX
import Derived.Test.YtgaaiplodbnnjaaDoorSY
import Derived.Test.YtgaaiplodbnnjaaDoorVLTable
import Derived.Test.YtgaaiplodbnnjaaDoorVLArr
/- A part of the proof: R3. No conditions of its own. -/
namespace Go.Proofs.YtgaaiplodbnnjaaDoor
open Go.VL
attribute [local irreducible] VWr VOps VD Calls

/-- The cell in the row i and the column j. -/
def at2 (ls : List (List Int)) (i j : Nat) : Int := (ls.getD i []).getD j 0
theorem at2_row {ls : List (List Int)} {i : Nat} {l : List Int} (h : ls[i]? = some l) (j : Nat) : at2 ls i j = l.getD j 0 := by
  unfold at2; rw [List.getD_eq_getElem?_getD (l := ls), h]; rfl
theorem IsSq.tab {m : Int} {ls : List (List Int)} (h : IsSq m ls) : ls = tabN m.toNat m.toNat (at2 ls) := by
  obtain ⟨h1, h2, h3, h4, h5⟩ := h
  apply List.ext_getElem (by rw [tabN_length]; omega)
  intro i a b
  have hr : ls[i]? = some ls[i] := List.getElem?_eq_getElem a
  have hl := h5 _ (List.mem_of_getElem? hr)
  have ht := tabN_get (m := m.toNat) (k := m.toNat) (g := at2 ls) (i := i) (by omega)
  rw [List.getElem?_eq_getElem b] at ht
  rw [Option.some.inj ht]
  rw [lst_of ls[i]]
  have e : ls[i].length = m.toNat := by have := hl.1; omega
  rw [e]
  exact lst_congr fun j _ => (at2_row hr j).symm
theorem IsSq.row {m : Int} {ls : List (List Int)} (h : IsSq m ls) {i : Nat} (hi : i < m.toNat) : ls[i]? = some (lst m.toNat (at2 ls i)) := by
  have e := h.tab
  generalize at2 ls = g at *
  rw [e]; exact tabN_get hi
theorem IsSq.cell {m : Int} {ls : List (List Int)} (h : IsSq m ls) {i j : Nat} (hi : i < m.toNat) (hj : j < m.toNat) : CellOk m (at2 ls i j) := by
  have hr := h.row hi
  refine (h.2.2.2.2 _ (List.mem_of_getElem? hr)).2 _ ?_
  exact List.mem_map.2 ⟨j, List.mem_range.2 hj, rfl⟩
theorem isSq_tab {m : Int} {g : Nat → Nat → Int} (h1 : 1 ≤ m) (h2 : m ≤ 13) (h3 : m % 2 = 1) (h : ∀ i j, i < m.toNat → j < m.toNat → CellOk m (g i j)) : IsSq m (tabN m.toNat m.toNat g) := by
  refine ⟨h1, h2, h3, by rw [tabN_length]; omega, fun l hl => ?_⟩
  obtain ⟨i, hi, rfl⟩ := tabN_mem hl
  refine ⟨by rw [lst_length]; omega, fun x hx => ?_⟩
  obtain ⟨j, hj, rfl⟩ := lst_mem hx
  exact h i j hi hj
theorem CellOk.dm {m x : Int} (h : CellOk m x) (_hm : m ≤ 13) (hx : x ≠ -1) : 0 ≤ x ∧ x ≤ 195 ∧ cLow x = x / 14 ∧ cHigh x = x % 14 ∧ 0 ≤ cLow x ∧ cLow x < cHigh x ∧ cHigh x ≤ m ∧ x = 14 * cLow x + cHigh x := by
  rcases h with h | ⟨h0, h1, h2, h3⟩
  · exact absurd h hx
  · rcases tdm14 x with ⟨e0, e1, e2⟩ | ⟨e0, _⟩
    · unfold cLow cHigh
      rw [if_neg hx, if_neg hx, e1, e2]
      refine ⟨h0, h1, rfl, rfl, by omega, h2, h3, by omega⟩
    · omega
/-- The empty cell is the one without teams. -/
theorem CellOk.none {m x : Int} (h : CellOk m x) (hm : m ≤ 13) : (cLow x = 0 ∧ cHigh x = 0) ↔ x = -1 := by
  by_cases hx : x = -1
  · subst hx; exact ⟨fun _ => rfl, fun _ => ⟨rfl, rfl⟩⟩
  · have := h.dm hm hx; constructor <;> intro h2 <;> omega

/-! transposed -/
def transp (m : Int) (ls : List (List Int)) : List (List Int) := tabN m.toNat m.toNat fun i j => at2 ls j i
theorem IsSq.transp {m : Int} {ls : List (List Int)} (h : IsSq m ls) : IsSq m (transp m ls) :=
  isSq_tab h.1 h.2.1 h.2.2.1 fun _ _ hi hj => h.cell hj hi
open Classical in
noncomputable def transposeR (m : Int) (ls : List (List Int)) : (Int × List (List Int)) × Int := if IsSq m ls then ((m, transp m ls), 0) else ((0, []), 1)

/-! the pairs of a row -/
def rowPairs (l : List Int) : List (List Int) := (l.filter fun x => decide (x ≠ -1)).map fun x => [cLow x, cHigh x]
/-- The round of a row, if there is one. -/
def rowRd (n : Int) (l : List Int) : Option (List Int) := place (freeTo n) (rowPairs l)
def rowR (n : Int) (l : List Int) : List Int := (rowRd n l).getD []
def Rows (n : Int) (ls : List (List Int)) : Prop := ∀ l ∈ ls, rowRd n l ≠ none
def rowsTab (n : Int) (ls : List (List Int)) : List (List Int) := ls.map (rowR n)
open Classical in
noncomputable def rowsOf (m : Int) (ls : List (List Int)) : (Int × List (List Int)) × Int := if IsSq m ls then (if Rows (m + 1) ls then ((m + 1, rowsTab (m + 1) ls), 0) else ((0, []), 5)) else ((0, []), 1)
open Classical in
noncomputable def colsOf (m : Int) (ls : List (List Int)) : (Int × List (List Int)) × Int := if IsSq m ls then rowsOf m (transp m ls) else ((0, []), 1)
end Go.Proofs.YtgaaiplodbnnjaaDoor
