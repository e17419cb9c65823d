import Derived.Test.YtlnohlomanapeaaCA8
import Derived.Test.YtlnohlomanapeaaCA9
import Derived.Test.YtlnohlomanapeaaVLSum
import Derived.Test.YtlnohlomanapeaaVLA
/- A part of the proof: CA10. No conditions of its own. -/
namespace Go.Proofs.Ytlnohlomanapeaa
open Go.VL
attribute [local irreducible] VWr VOps VD Calls

/-- How often y stands behind x among the first t pairs of neighbours. -/
def nbC (r : List Int) : Nat → Nat → Nat → Int
  | 0, _, _ => 0
  | t + 1, x, y => nbC r t x y + if r.getD t 0 = (x : Int) ∧ r.getD (t + 1) 0 = (y : Int) then 1 else 0
/-- .. in the first i rows. -/
def besN (ls : List (List Int)) : Nat → Nat → Nat → Int
  | 0, _, _ => 0
  | i + 1, x, y => besN ls i x y + nbC (ls.getD i []) (ls.length - 1) x y
theorem nbC_le (r : List Int) (x y : Nat) : ∀ t, 0 ≤ nbC r t x y ∧ nbC r t x y ≤ t
  | 0 => by simp [nbC]
  | t + 1 => by
    have := nbC_le r x y t
    rw [nbC]; split <;> push_cast <;> omega
theorem nbC_mono (r : List Int) (x y : Nat) {t s : Nat} (h : t ≤ s) : nbC r t x y ≤ nbC r s x y := by
  induction s with
  | zero => obtain rfl : t = 0 := by omega
            exact Int.le_refl _
  | succ s ih =>
    by_cases e : t = s + 1
    · subst e; exact Int.le_refl _
    · have := ih (by omega)
      rw [nbC]; split <;> omega
theorem besN_le (ls : List (List Int)) (x y : Nat) : ∀ i, 0 ≤ besN ls i x y ∧ besN ls i x y ≤ ((i * ls.length : Nat) : Int)
  | 0 => by simp [besN]
  | i + 1 => by
    have h1 := besN_le ls x y i
    have h2 := nbC_le (ls.getD i []) x y (ls.length - 1)
    rw [besN, Nat.add_mul, Nat.one_mul]
    push_cast at *; omega
theorem besN_mono (ls : List (List Int)) (x y : Nat) {i j : Nat} (h : i ≤ j) : besN ls i x y ≤ besN ls j x y := by
  induction j with
  | zero => obtain rfl : i = 0 := by omega
            exact Int.le_refl _
  | succ j ih =>
    by_cases e : i = j + 1
    · subst e; exact Int.le_refl _
    · have := ih (by omega)
      have := nbC_le (ls.getD j []) x y (ls.length - 1)
      rw [besN]; omega
theorem besN_part (ls : List (List Int)) (x y : Nat) {i t : Nat} (hi : i < ls.length) (ht : t ≤ ls.length - 1) : besN ls i x y + nbC (ls.getD i []) t x y ≤ besN ls ls.length x y := by
  have h1 := besN_mono ls x y (show i + 1 ≤ ls.length by omega)
  have h2 := nbC_mono (ls.getD i []) x y ht
  rw [besN] at h1; omega
theorem nbC_out {r : List Int} {n : Nat} (hr : ∀ z ∈ r, 0 ≤ z ∧ z < n) {x y : Nat} (h : n ≤ x ∨ n ≤ y) : ∀ t, t + 1 ≤ r.length → nbC r t x y = 0
  | 0, _ => rfl
  | t + 1, ht => by
    rw [nbC, nbC_out hr h t (by omega), if_neg]; rfl
    rintro ⟨h1, h2⟩
    have a1 := hr _ (mem_getD (l := r) (i := t) (by omega))
    have a2 := hr _ (mem_getD (l := r) (i := t + 1) (by omega))
    omega
theorem rowN_lt {n : Nat} {l : List Int} (h : RowN n l) : ∀ z ∈ l, 0 ≤ z ∧ z < n := fun z hz => by have := h.2 z hz; omega
theorem besN_out {ls : List (List Int)} (hR : RowsN ls.length ls) {x y : Nat} (h : ls.length ≤ x ∨ ls.length ≤ y) : ∀ i, i ≤ ls.length → besN ls i x y = 0
  | 0, _ => rfl
  | i + 1, hi => by
    have hg : ls[i]? = some (ls.getD i []) := by rw [List.getD_eq_getElem?_getD, List.getElem?_eq_getElem (by omega)]; rfl
    have hr := hR.2.2.2 _ (List.mem_of_getElem? hg)
    have h1 := hR.1
    have h2 := hr.1
    rw [besN, besN_out hR h i (by omega), nbC_out (rowN_lt hr) h _ (by omega)]; rfl
theorem nbC_diag {r : List Int} (hn : r.Nodup) (x : Nat) : ∀ t, t + 1 ≤ r.length → nbC r t x x = 0
  | 0, _ => rfl
  | t + 1, ht => by
    rw [nbC, nbC_diag hn x t (by omega), if_neg]; rfl
    rintro ⟨h1, h2⟩
    have e : r[t]? = r[t + 1]? := by
      rw [List.getD_eq_getElem?_getD] at h1 h2
      rw [List.getElem?_eq_getElem (show t < r.length by omega)] at h1 ⊢
      rw [List.getElem?_eq_getElem (show t + 1 < r.length by omega)] at h2 ⊢
      simp only [Option.getD_some] at h1 h2
      rw [h1, h2]
    have := (List.getElem?_inj (show t < r.length by omega) hn).1 e
    omega
theorem besN_diag {ls : List (List Int)} (hR : RowsN ls.length ls) (hS : SqOk ls) (x : Nat) : ∀ i, i ≤ ls.length → besN ls i x x = 0
  | 0, _ => rfl
  | i + 1, hi => by
    have hg : ls[i]? = some (ls.getD i []) := by rw [List.getD_eq_getElem?_getD, List.getElem?_eq_getElem (by omega)]; rfl
    have hr := hR.2.2.2 _ (List.mem_of_getElem? hg)
    have h1 := hR.1
    have h2 := hr.1
    rw [besN, besN_diag hR hS x i (by omega), nbC_diag (hS i _ hg).1.2.2 x _ (by omega)]; rfl
theorem sum_nbC {r : List Int} {n : Nat} (hr : ∀ z ∈ r, 0 ≤ z ∧ z < n) : ∀ t, t + 1 ≤ r.length → sum2 n n (nbC r t) = t
  | 0, _ => sum2_zero fun _ _ _ _ => rfl
  | t + 1, ht => by
    have a1 := hr _ (mem_getD (l := r) (i := t) (by omega))
    have a2 := hr _ (mem_getD (l := r) (i := t + 1) (by omega))
    have e : sum2 n n (nbC r (t + 1)) = sum2 n n (nbC r t) + sum2 n n (fun x y => if r.getD t 0 = (x : Int) ∧ r.getD (t + 1) 0 = (y : Int) then 1 else 0) := by
      rw [← sum2_add]; rfl
    rw [e, sum_nbC hr t (by omega), sum2_one (i := (r.getD t 0).toNat) (j := (r.getD (t + 1) 0).toNat) (c := 1) (by omega) (by omega) (if_pos ⟨by omega, by omega⟩) (fun a b _ _ h => if_neg fun h2 => h ⟨by omega, by omega⟩)]
    push_cast; rfl
theorem sum_besN {ls : List (List Int)} (hR : RowsN ls.length ls) : ∀ i, i ≤ ls.length → sum2 ls.length ls.length (besN ls i) = (i : Int) * ((ls.length : Int) - 1)
  | 0, _ => by rw [sum2_zero (g := besN ls 0) fun _ _ _ _ => rfl]; simp
  | i + 1, hi => by
    have hg : ls[i]? = some (ls.getD i []) := by rw [List.getD_eq_getElem?_getD, List.getElem?_eq_getElem (by omega)]; rfl
    have hr := hR.2.2.2 _ (List.mem_of_getElem? hg)
    have h1 := hR.1
    have h2 := hr.1
    have e : sum2 ls.length ls.length (besN ls (i + 1)) = sum2 ls.length ls.length (besN ls i) + sum2 ls.length ls.length (nbC (ls.getD i []) (ls.length - 1)) := by
      rw [← sum2_add]; rfl
    rw [e, sum_besN hR i (by omega), sum_nbC (rowN_lt hr) _ (by omega)]
    push_cast
    rw [Int.add_mul]
    omega
/-- No pair more than once: each one once. -/
theorem rowC_of_le {ls : List (List Int)} (hR : RowsN ls.length ls) (hS : SqOk ls) (h : ∀ a b, a < ls.length → b < ls.length → besN ls ls.length a b ≤ 1) : BalM ls.length (besN ls ls.length) := by
  have hb : ∀ a b, a < ls.length → b < ls.length → 0 ≤ (if a = b then (0 : Int) else 1) - besN ls ls.length a b := fun a b ha hb => by
    by_cases e : a = b
    · subst e; rw [if_pos rfl, besN_diag hR hS a _ (Nat.le_refl _)]; omega
    · rw [if_neg e]; have := h a b ha hb; omega
  have h0 := sum2_eq_zero hb (by rw [sum2_sub, sum2_bal, sum_besN hR _ (Nat.le_refl _)]; omega)
  intro a b ha hb
  have := h0 a b ha hb
  omega
end Go.Proofs.Ytlnohlomanapeaa
