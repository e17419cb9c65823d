import Derived.Test.YtnammdmiljjhjaaSY
import Derived.Test.YtnammdmiljjhjaaVLArr
/- A part of the proof: X1. No conditions of its own. -/
namespace Go.Proofs.Ytnammdmiljjhjaa
open Go.VL

/-! golfs: groups, and who meets -/
/-- A golf. -/
def IsGf (n g : Int) (ls : List (List Int)) : Prop := 2 ≤ n ∧ n ≤ 25 ∧ 2 ≤ g ∧ n % g = 0 ∧ ls.length ≤ 12 ∧ ∀ r ∈ ls, IsPerm n r
theorem IsGf.row {n g : Int} {ls : List (List Int)} (h : IsGf n g ls) {i : Nat} {r : List Int} (hi : ls[i]? = some r) : IsPerm n r := h.2.2.2.2.2 r (List.mem_of_getElem? hi)
theorem IsGf.gle {n g : Int} {ls : List (List Int)} (h : IsGf n g ls) : g ≤ n := by
  have h1 := h.1
  have h2 := h.2.2.1
  have h3 := h.2.2.2.1
  exact Int.le_of_dvd (by omega) (Int.dvd_of_emod_eq_zero h3)
/-- The pairs of the place k of a group that begins at o, with all places before it. -/
def prO (r : List Int) (o k : Nat) : Nat → List (List Int)
  | 0 => []
  | j + 1 => prO r o k j ++ [[r.getD (o + k) 0, r.getD (o + j) 0]]
def grO (r : List Int) (o : Nat) : Nat → List (List Int)
  | 0 => []
  | k + 1 => grO r o k ++ prO r o k k
def rdP (g : Nat) (r : List Int) : Nat → List (List Int)
  | 0 => []
  | m + 1 => rdP g r m ++ grO r (g * m) g
def triN : Nat → Nat
  | 0 => 0
  | k + 1 => triN k + k
/-- Where a number stands in a list. -/
def posI (r : List Int) (x : Nat) : Nat := r.idxOf (x : Int)
theorem getD_iff {n : Int} {r : List Int} (h : IsPerm n r) {x i : Nat} (hi : (i : Int) < n) : r.getD i 0 = (x : Int) ↔ posI r x = i := by
  have hl := h.1
  have hil : i < r.length := by omega
  have hget : r.getD i 0 = r[i] := by rw [List.getD_eq_getElem?_getD, List.getElem?_eq_getElem hil]; rfl
  rw [hget]
  unfold posI
  constructor
  · rintro h1
    rw [← h1]
    exact h.2.2.idxOf_getElem i hil
  · intro h1
    have h2 : r.idxOf (x : Int) < r.length := by omega
    have := List.getElem_idxOf h2
    simp only [h1] at this
    exact this
theorem perm_mem {n : Nat} {r : List Int} (h : IsPerm n r) {x : Nat} (hx : x < n) : (x : Int) ∈ r := by
  apply Classical.byContradiction
  intro hn
  have := pigeon n ((x : Int) :: r) (List.nodup_cons.2 ⟨hn, h.2.2⟩) (fun y hy => by
    rcases List.mem_cons.1 hy with rfl | hy
    · omega
    · exact h.2.1 y hy)
  have hl := h.1
  rw [List.length_cons] at this
  omega
theorem pos_lt {n : Nat} {r : List Int} (h : IsPerm n r) {x : Nat} (hx : x < n) : posI r x < n := by
  have := List.idxOf_lt_length_of_mem (perm_mem h hx)
  have hl := h.1
  unfold posI; omega
theorem pos_get {n : Nat} {r : List Int} (h : IsPerm n r) {x : Nat} (hx : x < n) : r.getD (posI r x) 0 = (x : Int) := (getD_iff h (by have := pos_lt h hx; omega)).2 rfl
/-- x and y, different, are in the same group. -/
def SameG (g : Nat) (r : List Int) (x y : Nat) : Prop := x ≠ y ∧ posI r x / g = posI r y / g
instance (g : Nat) (r : List Int) (x y : Nat) : Decidable (SameG g r x y) := inferInstanceAs (Decidable (_ ∧ _))
theorem SameG.symm {g : Nat} {r : List Int} {x y : Nat} (h : SameG g r x y) : SameG g r y x := ⟨h.1.symm, h.2.symm⟩
/-- In how many rounds x and y meet. -/
def metN (g : Nat) (ls : List (List Int)) (x y : Nat) : Nat := (ls.filter fun r => decide (SameG g r x y)).length
/-- The table of the meetings. -/
def metT (n g : Nat) (ls : List (List Int)) : List (List Int) := tabOf n fun x y => (metN g ls x y : Int)
end Go.Proofs.Ytnammdmiljjhjaa
