import Derived.Test.YtngpongdpphncaaR1
import Derived.Test.YtngpongdpphncaaSN
import Derived.Test.YtngpongdpphncaaSF
import Derived.Test.YtngpongdpphncaaVLTable
import Derived.Test.YtngpongdpphncaaVLArr
/- A part of the proof: R3. No conditions of its own. -/
namespace Go.Proofs.Ytngpongdpphncaa
open Go.VL
attribute [local irreducible] VWr VOps VD Calls

/-- The cell in the row i and the column j. -/
def at2 (ls : List (List Int)) (i j : Nat) : Int := (ls.getD i []).getD j 0
theorem at2_row {ls : List (List Int)} {i : Nat} {l : List Int} (h : ls[i]? = some l) (j : Nat) : at2 ls i j = l.getD j 0 := by
  unfold at2; rw [List.getD_eq_getElem?_getD (l := ls), h]; rfl
theorem at2_tab {m k i j : Nat} {g : Nat → Nat → Int} (hi : i < m) (hj : j < k) : at2 (tabN m k g) i j = g i j := by
  rw [at2_row (tabN_get hi), lst_getD hj]
theorem IsSq.tab {m : Int} {ls : List (List Int)} (h : IsSq m ls) : ls = tabN m.toNat m.toNat (at2 ls) := by
  obtain ⟨h1, h2, h3, h4, h5⟩ := h
  apply List.ext_getElem (by rw [tabN_length]; omega)
  intro i a b
  have hr : ls[i]? = some ls[i] := List.getElem?_eq_getElem a
  have hl := h5 _ (List.mem_of_getElem? hr)
  have ht := tabN_get (m := m.toNat) (k := m.toNat) (g := at2 ls) (i := i) (by omega)
  rw [List.getElem?_eq_getElem b] at ht
  rw [Option.some.inj ht]
  rw [lst_of ls[i]]
  have e : ls[i].length = m.toNat := by have := hl.1; omega
  rw [e]
  exact lst_congr fun j _ => (at2_row hr j).symm
theorem IsSq.row {m : Int} {ls : List (List Int)} (h : IsSq m ls) {i : Nat} (hi : i < m.toNat) : ls[i]? = some (lst m.toNat (at2 ls i)) := by
  have e := h.tab
  generalize at2 ls = g at *
  rw [e]; exact tabN_get hi
theorem IsSq.cell {m : Int} {ls : List (List Int)} (h : IsSq m ls) {i j : Nat} (hi : i < m.toNat) (hj : j < m.toNat) : CellOk m (at2 ls i j) := by
  have hr := h.row hi
  refine (h.2.2.2.2 _ (List.mem_of_getElem? hr)).2 _ ?_
  exact List.mem_map.2 ⟨j, List.mem_range.2 hj, rfl⟩
theorem isSq_tab {m : Int} {g : Nat → Nat → Int} (h1 : 1 ≤ m) (h2 : m ≤ 13) (h3 : m % 2 = 1) (h : ∀ i j, i < m.toNat → j < m.toNat → CellOk m (g i j)) : IsSq m (tabN m.toNat m.toNat g) := by
  refine ⟨h1, h2, h3, by rw [tabN_length]; omega, fun l hl => ?_⟩
  obtain ⟨i, hi, rfl⟩ := tabN_mem hl
  refine ⟨by rw [lst_length]; omega, fun x hx => ?_⟩
  obtain ⟨j, hj, rfl⟩ := lst_mem hx
  exact h i j hi hj
theorem CellOk.dm {m x : Int} (h : CellOk m x) (_hm : m ≤ 13) (hx : x ≠ -1) : 0 ≤ x ∧ x ≤ 195 ∧ cLow x = x / 14 ∧ cHigh x = x % 14 ∧ 0 ≤ cLow x ∧ cLow x < cHigh x ∧ cHigh x ≤ m ∧ x = 14 * cLow x + cHigh x := by
  rcases h with h | ⟨h0, h1, h2, h3⟩
  · exact absurd h hx
  · rcases tdm14 x with ⟨e0, e1, e2⟩ | ⟨e0, _⟩
    · unfold cLow cHigh
      rw [if_neg hx, if_neg hx, e1, e2]
      refine ⟨h0, h1, rfl, rfl, by omega, h2, h3, by omega⟩
    · omega
/-- The empty cell is the one without teams. -/
theorem CellOk.none {m x : Int} (h : CellOk m x) (hm : m ≤ 13) : (cLow x = 0 ∧ cHigh x = 0) ↔ x = -1 := by
  by_cases hx : x = -1
  · subst hx; exact ⟨fun _ => rfl, fun _ => ⟨rfl, rfl⟩⟩
  · have := h.dm hm hx; constructor <;> intro h2 <;> omega

/-! transposed -/
def transp (m : Int) (ls : List (List Int)) : List (List Int) := tabN m.toNat m.toNat fun i j => at2 ls j i
theorem IsSq.transp {m : Int} {ls : List (List Int)} (h : IsSq m ls) : IsSq m (transp m ls) :=
  isSq_tab h.1 h.2.1 h.2.2.1 fun _ _ hi hj => h.cell hj hi
open Classical in
noncomputable def transposeR (m : Int) (ls : List (List Int)) : (Int × List (List Int)) × Int := if IsSq m ls then ((m, transp m ls), 0) else ((0, []), 1)

/-! the pairs of a row -/
def rowPairs (l : List Int) : List (List Int) := (l.filter fun x => decide (x ≠ -1)).map fun x => [cLow x, cHigh x]
theorem rowPairs_yes {l : List Int} {x : Int} (h : x ≠ -1) : rowPairs (l ++ [x]) = rowPairs l ++ [[cLow x, cHigh x]] := by
  unfold rowPairs; rw [List.filter_append, List.map_append]; simp [h]
theorem rowPairs_no {l : List Int} {x : Int} (h : x = -1) : rowPairs (l ++ [x]) = rowPairs l := by
  unfold rowPairs; rw [List.filter_append, List.map_append]; simp [h]
theorem rowPairs_le (l : List Int) : (rowPairs l).length ≤ l.length := by
  unfold rowPairs; rw [List.length_map]; exact List.length_filter_le _ _
theorem rowPairs_two {l : List Int} : ∀ p ∈ rowPairs l, p.length = 2 := fun p hp => by
  obtain ⟨x, _, rfl⟩ := List.mem_map.1 hp; rfl
theorem rowPairs_ok {m : Int} {l : List Int} (hm : m ≤ 13) (h : RowOk m l) : PairsOk (m + 1) (rowPairs l) ∧ (rowPairs l).length ≤ 14 := by
  constructor
  · intro p hp
    obtain ⟨x, hx, rfl⟩ := List.mem_map.1 hp
    have hx2 := List.mem_filter.1 hx
    have hne : x ≠ -1 := by simpa using hx2.2
    have := (h.2 x hx2.1).dm hm hne
    refine ⟨rfl, ?_, ?_, ?_⟩ <;> simp only [List.getD_cons_zero, List.getD_cons_succ] <;> omega
  · have := rowPairs_le l; have := h.1; omega
theorem place_snoc : ∀ (ps : List (List Int)) (p r : List Int), place r (ps ++ [p]) = (place r ps).bind fun q => if canLay q p then some (lay q p) else none
  | [], p, r => rfl
  | a :: ps, p, r => by
    simp only [List.cons_append, place]
    by_cases h : canLay r a
    · rw [if_pos h, if_pos h]; exact place_snoc ps p _
    · rw [if_neg h, if_neg h]; rfl
theorem place_none : ∀ (ps qs : List (List Int)) (r : List Int), place r ps = none → place r (ps ++ qs) = none
  | [], qs, r, h => by cases h
  | a :: ps, qs, r, h => by
    simp only [List.cons_append, place] at h ⊢
    by_cases hc : canLay r a
    · rw [if_pos hc] at h ⊢; exact place_none ps qs _ h
    · rw [if_neg hc]
/-- The round of a row, if there is one. -/
def rowRd (n : Int) (l : List Int) : Option (List Int) := place (freeTo n) (rowPairs l)
theorem rowRd_len {n : Int} {l q : List Int} (h : rowRd n l = some q) : q.length = 14 := by rw [place_length h, freeTo_length]
theorem rowRd_cut {n : Int} {l : List Int} {j : Nat} (h : rowRd n (l.take j) = none) : rowRd n l = none := by
  have : rowPairs l = rowPairs (l.take j) ++ rowPairs (l.drop j) := by
    unfold rowPairs
    rw [← List.map_append, ← List.filter_append, List.take_append_drop]
  unfold rowRd at h ⊢
  rw [this]; exact place_none _ _ _ h
theorem rowRd_step {n : Int} {l q : List Int} {j : Nat} {x : Int} (hx : l[j]? = some x) (h : rowRd n (l.take j) = some q) :
    rowRd n (l.take (j + 1)) = if x = -1 then some q else if canLay q [cLow x, cHigh x] then some (lay q [cLow x, cHigh x]) else none := by
  have e : l.take (j + 1) = l.take j ++ [x] := by rw [List.take_add_one, hx]; rfl
  unfold rowRd at h ⊢
  rw [e]
  by_cases hx1 : x = -1
  · rw [if_pos hx1, rowPairs_no hx1, h]
  · rw [if_neg hx1, rowPairs_yes hx1, place_snoc, h]; rfl
def rowR (n : Int) (l : List Int) : List Int := (rowRd n l).getD []
def Rows (n : Int) (ls : List (List Int)) : Prop := ∀ l ∈ ls, rowRd n l ≠ none
theorem rowR_len {n : Int} {l : List Int} (h : rowRd n l ≠ none) : (rowR n l).length = 14 := by
  cases hq : rowRd n l with
  | none => exact absurd hq h
  | some q => unfold rowR; rw [hq]; exact rowRd_len hq
def rowsTab (n : Int) (ls : List (List Int)) : List (List Int) := ls.map (rowR n)
theorem rowsTab_len {n : Int} {ls : List (List Int)} (h : Rows n ls) : ∀ r ∈ rowsTab n ls, r.length = 14 := fun r hr => by
  obtain ⟨l, hl, rfl⟩ := List.mem_map.1 hr
  exact rowR_len (h l hl)
open Classical in
noncomputable def rowsOf (m : Int) (ls : List (List Int)) : (Int × List (List Int)) × Int := if IsSq m ls then (if Rows (m + 1) ls then ((m + 1, rowsTab (m + 1) ls), 0) else ((0, []), 5)) else ((0, []), 1)
open Classical in
noncomputable def colsOf (m : Int) (ls : List (List Int)) : (Int × List (List Int)) × Int := if IsSq m ls then rowsOf m (transp m ls) else ((0, []), 1)
theorem rowsOf_ok (m : Int) (ls : List (List Int)) : (∀ r ∈ (rowsOf m ls).1.2, r.length = 14) ∧ (rowsOf m ls).1.2.length ≤ 1048576 := by
  unfold rowsOf
  split
  · rename_i hs
    split
    · rename_i h
      exact ⟨rowsTab_len h, by show (rowsTab _ _).length ≤ _; unfold rowsTab; rw [List.length_map]; have := hs.2.2.2.1; have := hs.2.1; omega⟩
    · exact ⟨fun r hr => (List.not_mem_nil hr).elim, Nat.zero_le _⟩
  · exact ⟨fun r hr => (List.not_mem_nil hr).elim, Nat.zero_le _⟩
theorem colsOf_ok (m : Int) (ls : List (List Int)) : (∀ r ∈ (colsOf m ls).1.2, r.length = 14) ∧ (colsOf m ls).1.2.length ≤ 1048576 := by
  unfold colsOf
  split
  · exact rowsOf_ok _ _
  · exact ⟨fun r hr => (List.not_mem_nil hr).elim, Nat.zero_le _⟩
end Go.Proofs.Ytngpongdpphncaa
