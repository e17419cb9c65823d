import Derived.Test.YtlnohlomanapeaaCB
import Derived.Test.YtlnohlomanapeaaCD
import Derived.Test.YtlnohlomanapeaaVLOrd
import Derived.Test.YtlnohlomanapeaaVLA
/- A part of the proof: CB6. No conditions of its own. -/
namespace Go.Proofs.Ytlnohlomanapeaa
open Go.VL
attribute [local irreducible] VWr VOps VD Calls

/-- A number that a list of different numbers below n lacks leaves it shorter than n. -/
theorem full_mem {n : Nat} {l : List Int} (hl : l.length = n) (hb : ∀ x ∈ l, 0 ≤ x ∧ x < n) (hnd : l.Nodup) {x : Nat} (hx : x < n) : (x : Int) ∈ l := by
  apply Classical.byContradiction
  intro hn
  have := pigeon n ((x : Int) :: l) (List.nodup_cons.2 ⟨hn, hnd⟩) (fun y hy => by
    rcases List.mem_cons.1 hy with rfl | hy
    · omega
    · exact hb y hy)
  rw [List.length_cons] at this
  omega
theorem dig_rd : ∀ n ∈ [2, 4, 8], ∀ x ∈ List.range n, x ≠ 0 → IsRd (n : Nat) (digP x n) := by
  have h : ([2, 4, 8].all fun n => (List.range n).all fun x => decide (x ≠ 0 → IsRd (n : Nat) (digP x n))) = true := by kernel_rfl
  simp only [List.all_eq_true, decide_eq_true_eq] at h
  exact h
theorem xor_iff : ∀ a ∈ List.range 8, ∀ b ∈ List.range 8, ∀ x ∈ List.range 8, (a ^^^ x = b ↔ x = a ^^^ b) := by
  have h : ((List.range 8).all fun a => (List.range 8).all fun b => (List.range 8).all fun x => decide (a ^^^ x = b ↔ x = a ^^^ b)) = true := by kernel_rfl
  simp only [List.all_eq_true, decide_eq_true_eq] at h
  exact h
theorem xor_lt : ∀ n ∈ [2, 4, 8], ∀ a ∈ List.range n, ∀ b ∈ List.range n, (a ^^^ b < n ∧ (a ≠ b → a ^^^ b ≠ 0)) := by
  have h : ([2, 4, 8].all fun n => (List.range n).all fun a => (List.range n).all fun b => decide (a ^^^ b < n ∧ (a ≠ b → a ^^^ b ≠ 0))) = true := by kernel_rfl
  simp only [List.all_eq_true, decide_eq_true_eq] at h
  exact h
theorem filter_one {l : List Int} (hnd : l.Nodup) {c : Int} (hc : c ∈ l) : (l.filter fun x => decide (x = c)).length = 1 := by
  induction l with
  | nil => cases hc
  | cons y l ih =>
    have h1 := List.nodup_cons.1 hnd
    rw [List.filter_cons]
    by_cases hy : y = c
    · subst hy
      have : l.filter (fun x => decide (x = y)) = [] := List.filter_eq_nil_iff.2 fun x hx => by
        have : x ≠ y := fun e => h1.1 (e ▸ hx)
        simpa using this
      simp [this]
    · rcases List.mem_cons.1 hc with h | h
      · exact absurd h.symm hy
      · simp [hy, ih h1.2 h]
theorem dig_even {n : Nat} {l : List Int} (hD : IsDig n l) : EvenR n (digRows n l) := by
  obtain ⟨h1, h2, h3, h4⟩ := hD
  have hn : n ∈ [2, 4, 8] := by simp; omega
  have hn8 : 2 ≤ n ∧ n ≤ 8 := by omega
  refine ⟨⟨by omega, by omega, by rw [digRows_length]; omega, fun i r hi => ?_⟩, ⟨by rw [digRows_length, robinR]; simp only [Int.toNat_natCast]; omega, fun a b ha hb hab => ?_⟩, by omega⟩
  · obtain ⟨x, hx, rfl⟩ := List.mem_map.1 (List.mem_of_getElem? hi)
    have := h3 x hx
    exact dig_rd n hn x.toNat (List.mem_range.2 (by omega)) (by omega)
  · rw [Int.toNat_natCast] at ha hb
    obtain ⟨hc1, hc2⟩ := xor_lt n hn a (List.mem_range.2 ha) b (List.mem_range.2 hb)
    have hc2 := hc2 hab
    rw [cnt, if_neg hab, digRows, List.filter_map, List.length_map]
    have e : l.filter ((fun r => decide (r.getD a 0 = (b : Int))) ∘ fun x => digP x.toNat n) = l.filter fun x => decide (x = ((a ^^^ b : Nat) : Int)) := by
      refine List.filter_congr fun x hx => ?_
      have hxb := h3 x hx
      have hv : (digP x.toNat n).getD a 0 = ((a ^^^ x.toNat : Nat) : Int) := by
        rw [digP, List.getD_eq_getElem?_getD, lst_get (by omega)]; simp [ha]
      show decide ((digP x.toNat n).getD a 0 = (b : Int)) = _
      rw [hv]
      have := xor_iff a (List.mem_range.2 (by omega)) b (List.mem_range.2 (by omega)) x.toNat (List.mem_range.2 (by omega))
      refine decide_eq_decide.2 ⟨fun h => ?_, fun h => ?_⟩
      · have := this.1 (by omega); omega
      · have := this.2 (by omega); omega
    rw [e]
    refine filter_one h4 ?_
    have hm := full_mem (n := n) (l := 0 :: l) (by simp; omega) (fun x hx => by
      rcases List.mem_cons.1 hx with rfl | hx
      · omega
      · have := h3 x hx; omega) (List.nodup_cons.2 ⟨fun h => by have := h3 0 h; omega, h4⟩) hc1
    rcases List.mem_cons.1 hm with h | h
    · omega
    · exact h
/-- The orders of digits, in their order. -/
def incL (t : List Int) : List Int := t.map fun x => x + 1
def digs (m : Nat) : List (List Int) := (ordR m m []).map incL
theorem digs_ok {m : Nat} (hn : m + 1 = 2 ∨ m + 1 = 4 ∨ m + 1 = 8) {o : List Int} (h : o ∈ digs m) : IsDig ((m + 1 : Nat) : Int) o ∧ o.length = m := by
  obtain ⟨t, ht, rfl⟩ := List.mem_map.1 h
  obtain ⟨a, b, c, _⟩ := ordR_good m m [] List.nodup_nil (fun x hx => by cases hx) t ht
  have hl : (incL t).length = m := by simp [incL, c]
  refine ⟨⟨by omega, by omega, fun x hx => ?_, List.pairwise_map.2 (a.imp fun hne he => hne (by omega))⟩, hl⟩
  obtain ⟨y, hy, rfl⟩ := List.mem_map.1 hx
  have := b y hy
  omega
def ones1 (l : List Int) : List (List Int) := l.map fun x => [x]
theorem arr_digs (m : Nat) : arrL m [] (ones1 (lst m fun x => (x : Int) + 1)) = (digs m).map ones1 := by
  have h := arrL_ones m m [] (by rw [freeN_zero]; simp)
  have h2 := arrL_map incL m [] (ones1 (freeN m [])) (by rw [ones1, List.length_map, freeN_zero]; simp)
  have e : (ones1 (freeN m [])).map incL = ones1 (lst m fun x => (x : Int) + 1) := by
    rw [freeN_zero, ones1, ones1, lst, List.map_map, List.map_map, List.map_map]; rfl
  rw [e, List.map_nil] at h2
  rw [h2, show arrL m [] (ones1 (freeN m [])) = (ordR m m []).map ones1 from h, List.map_map, digs, List.map_map]
  refine List.map_congr_left fun t _ => ?_
  simp only [Function.comp, ones1, incL, List.map_map]; rfl
end Go.Proofs.Ytlnohlomanapeaa
