import Derived.Test.YtgaaiplodbnnjaaDoorVLBools
/-! Tables of marks: which numbers have come. -/
namespace Go.VL
def Marks (n : Nat) (M : List Bool) (l : List Int) : Prop := M.length = n ∧ ∀ x : Nat, x < n → (M.getD x false = true ↔ (x : Int) ∈ l)
theorem Marks.nil (n : Nat) : Marks n (List.replicate n false) [] := ⟨by simp, fun x hx => by simp [hx]⟩
theorem Marks.set {n : Nat} {M : List Bool} {l : List Int} {a : Int} (h : Marks n M l) (h0 : 0 ≤ a) (_h1 : a < n) : Marks n (M.set a.toNat true) (l ++ [a]) := by
  refine ⟨by rw [List.length_set]; exact h.1, fun x hx => ?_⟩
  rw [List.mem_append, List.mem_singleton, ← h.2 x hx]
  by_cases e : a.toNat = x
  · subst e
    have : a.toNat < M.length := by rw [h.1]; omega
    have e2 : ((a.toNat : Nat) : Int) = a := by omega
    simp [this, e2]
  · have e2 : ¬ (x : Int) = a := by omega
    simp [e, e2]
theorem Marks.len {n : Nat} {M : List Bool} {l : List Int} (h : Marks n M l) : M.length = n := h.1
open Classical in
theorem Marks.get {n : Nat} {M : List Bool} {l : List Int} {a : Int} (h : Marks n M l) (h0 : 0 ≤ a) (h1 : a < n) : M.getD a.toNat false = decide (a ∈ l) := by
  have h2 := h.2 a.toNat (by omega)
  have e2 : ((a.toNat : Nat) : Int) = a := by omega
  rw [e2] at h2
  by_cases hm : a ∈ l
  · rw [decide_eq_true hm]; exact h2.2 hm
  · rw [decide_eq_false hm]
    cases hc : M.getD a.toNat false with
    | false => rfl
    | true => exact absurd (h2.1 hc) hm
end Go.VL
