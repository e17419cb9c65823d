import Derived.Test.YtlfflmoegfibgaaVLA
/-! Sums. -/
namespace Go.VL
def sumTo (f : Nat → Int) : Nat → Int
  | 0 => 0
  | k + 1 => sumTo f k + f k
theorem sumTo_congr {f g : Nat → Int} : ∀ {k : Nat}, (∀ i, i < k → f i = g i) → sumTo f k = sumTo g k
  | 0, _ => rfl
  | k + 1, h => by rw [sumTo, sumTo, sumTo_congr fun i hi => h i (by omega), h k (by omega)]
theorem sumTo_add {f g : Nat → Int} : ∀ (k : Nat), sumTo (fun i => f i + g i) k = sumTo f k + sumTo g k
  | 0 => rfl
  | k + 1 => by rw [sumTo, sumTo, sumTo, sumTo_add k]; omega
theorem sumTo_const {f : Nat → Int} {c : Int} : ∀ {k : Nat}, (∀ i, i < k → f i = c) → sumTo f k = (k : Int) * c
  | 0, _ => by simp [sumTo]
  | k + 1, h => by
    rw [sumTo, sumTo_const fun i hi => h i (by omega), h k (by omega)]
    push_cast; rw [Int.add_mul]; omega
theorem sumTo_zero {f : Nat → Int} {k : Nat} (h : ∀ i, i < k → f i = 0) : sumTo f k = 0 := by rw [sumTo_const h, Int.mul_zero]
theorem sumTo_nonneg {f : Nat → Int} : ∀ {k : Nat}, (∀ i, i < k → 0 ≤ f i) → 0 ≤ sumTo f k
  | 0, _ => Int.le_refl _
  | k + 1, h => by
    have := sumTo_nonneg (f := f) (k := k) fun i hi => h i (by omega)
    have := h k (by omega)
    rw [sumTo]; omega
theorem sumTo_le {f : Nat → Int} {c : Int} : ∀ {k : Nat}, (∀ i, i < k → f i ≤ c) → sumTo f k ≤ (k : Int) * c
  | 0, _ => by simp [sumTo]
  | k + 1, h => by
    have := sumTo_le (f := f) (k := k) (c := c) fun i hi => h i (by omega)
    have := h k (by omega)
    rw [sumTo]; push_cast; rw [Int.add_mul]; omega
theorem sumTo_one {f : Nat → Int} {k a : Nat} {c : Int} (ha : a < k) (h1 : f a = c) (h0 : ∀ i, i < k → i ≠ a → f i = 0) : sumTo f k = c := by
  induction k with
  | zero => omega
  | succ k ih =>
    rw [sumTo]
    by_cases e : a = k
    · subst e
      rw [sumTo_zero fun i hi => h0 i (by omega) (by omega), h1]; omega
    · rw [ih (by omega) fun i hi hn => h0 i (by omega) hn, h0 k (by omega) (by omega)]; omega
/-- Of a table. -/
def sum2 (m k : Nat) (g : Nat → Nat → Int) : Int := sumTo (fun a => sumTo (g a) k) m
theorem sum2_congr {m k : Nat} {g h : Nat → Nat → Int} (e : ∀ a b, a < m → b < k → g a b = h a b) : sum2 m k g = sum2 m k h :=
  sumTo_congr fun a ha => sumTo_congr fun b hb => e a b ha hb
theorem sum2_bal (n : Nat) : sum2 n n (fun a b => if a = b then 0 else 1) = (n : Int) * ((n : Int) - 1) := by
  unfold sum2
  refine sumTo_const fun a ha => ?_
  have h1 : sumTo (fun b => (if a = b then (0 : Int) else 1) + (if b = a then 1 else 0)) n = (n : Int) * 1 := sumTo_const fun b _ => by
    by_cases e : a = b
    · rw [if_pos e, if_pos e.symm]; rfl
    · rw [if_neg e, if_neg (Ne.symm e)]; rfl
  rw [sumTo_add, sumTo_one (f := fun b => if b = a then (1 : Int) else 0) (a := a) (c := 1) ha (if_pos rfl) (fun i _ h => if_neg h)] at h1
  show sumTo (fun b => if a = b then (0 : Int) else 1) n = _
  omega
end Go.VL
