import Derived.Test.YtbnanjkhpeneeaaSH
import Derived.Test.YtbnanjkhpeneeaaVLArr
import Derived.Test.YtbnanjkhpeneeaaP13
/- Parts of the proof, one after another. No conditions of their own. -/
/- A part of the proof: P24. No conditions of its own. -/
namespace Go.Proofs.Ytbnanjkhpeneeaa
open Go.VL
attribute [local irreducible] VWr VOps VD Calls

/-- In how many of the rounds a meets b. -/
def cnt (l : List (List Int)) (a b : Nat) : Nat := if a = b then 0 else (l.filter fun r => decide (r.getD a 0 = (b : Int))).length
theorem cnt_le (l : List (List Int)) (a b : Nat) : cnt l a b ≤ l.length := by
  unfold cnt; split
  · omega
  · exact List.length_filter_le _ _
theorem cnt_snoc (l : List (List Int)) (r : List Int) (a b : Nat) : cnt (l ++ [r]) a b = cnt l a b + (if a ≠ b ∧ r.getD a 0 = (b : Int) then 1 else 0) := by
  unfold cnt
  by_cases hab : a = b
  · simp [hab]
  · rw [if_neg hab, if_neg hab, List.filter_append, List.length_append]
    congr 1
    by_cases hr : r.getD a 0 = (b : Int)
    · rw [if_pos ⟨hab, hr⟩]; simp only [List.filter_cons, decide_eq_true hr, if_true, List.filter_nil, List.length_cons, List.length_nil]
    · rw [if_neg fun h => hr h.2]; simp only [List.filter_cons, decide_eq_false hr, Bool.false_eq_true, if_false, List.filter_nil, List.length_nil]
/-- A table. -/
def tabOf (n : Nat) (g : Nat → Nat → Int) : List (List Int) := (List.range n).map fun a => (List.range n).map fun b => g a b
theorem tabOf_length (n : Nat) (g : Nat → Nat → Int) : (tabOf n g).length = n := by simp [tabOf]
theorem tabOf_get {n : Nat} {g : Nat → Nat → Int} {a : Nat} (h : a < n) : (tabOf n g)[a]? = some ((List.range n).map fun b => g a b) := by simp [tabOf, h]
theorem row_length (n : Nat) (g : Nat → Int) : ((List.range n).map g).length = n := by simp
theorem row_get {n : Nat} {g : Nat → Int} {b : Nat} (h : b < n) : ((List.range n).map g).getD b 0 = g b := by simp [h]
theorem row_set {n : Nat} {g : Nat → Int} {b : Nat} {v : Int} : ((List.range n).map g).set b v = (List.range n).map fun x => if x = b then v else g x := by
  apply List.ext_getElem (by simp)
  intro j h1 h2
  rw [List.getElem_set]
  simp only [List.getElem_map, List.getElem_range]
  by_cases hj : b = j
  · rw [if_pos hj, if_pos hj.symm]
  · rw [if_neg hj, if_neg (Ne.symm hj)]
theorem tabOf_mem {n : Nat} {g : Nat → Nat → Int} {l : List Int} (h : l ∈ tabOf n g) : l.length = n := by
  obtain ⟨a, _, rfl⟩ := List.mem_map.1 h; simp
theorem sumLen_const {k : Nat} : ∀ {ls : List (List Int)}, (∀ l ∈ ls, l.length = k) → sumLen ls = ls.length * k
  | [], _ => by simp [sumLen]
  | l :: ls, h => by
    simp only [sumLen, List.length_cons, h l (by simp), sumLen_const (ls := ls) fun q hq => h q (by simp [hq]), Nat.add_mul]; omega
abbrev meetRow (n : Nat) (l : List (List Int)) (a : Nat) : List Int := (List.range n).map fun b => (cnt l a b : Int)
abbrev meetTab (n : Nat) (l : List (List Int)) : List (List Int) := tabOf n fun a b => (cnt l a b : Int)
theorem meetRow_yes {n : Nat} {l : List (List Int)} {r : List Int} {a b : Nat} (hab : a ≠ b) (hr : r.getD a 0 = (b : Int)) : (meetRow n l a).set b ((cnt l a b : Int) + 1) = meetRow n (l ++ [r]) a := by
  rw [row_set]
  apply List.map_congr_left
  intro x _
  rw [cnt_snoc]
  by_cases hx : x = b
  · subst hx; rw [if_pos rfl, if_pos ⟨hab, hr⟩]; omega
  · rw [if_neg hx, if_neg fun h => hx (by have := h.2; omega)]; omega
theorem meetRow_no {n : Nat} {l : List (List Int)} {r : List Int} {a : Nat} (hr : r.getD a 0 = (a : Int)) : meetRow n (l ++ [r]) a = meetRow n l a := by
  apply List.map_congr_left
  intro x _
  rw [cnt_snoc, if_neg fun h => h.1 (by have := h.2; omega)]; omega
theorem meetRow_nil (n a : Nat) : meetRow n [] a = List.replicate n 0 := by
  apply List.ext_getElem (by simp)
  intro j h1 h2
  simp [cnt]

end Go.Proofs.Ytbnanjkhpeneeaa

/- A part of the proof: P25. No conditions of its own. -/
namespace Go.Proofs.Ytbnanjkhpeneeaa
open Go.VL
attribute [local irreducible] VWr VOps VD Calls

theorem cnt_eq (l : List (List Int)) (x y : Nat) : cnt l x y = (l.filter fun r => decide (x ≠ y ∧ r.getD x 0 = (y : Int))).length := by
  unfold cnt
  by_cases h : x = y
  · subst h
    have : (l.filter fun r => decide (x ≠ x ∧ r.getD x 0 = (x : Int))) = [] := List.filter_eq_nil_iff.2 fun r _ => by simp
    rw [if_pos rfl, this]; rfl
  · rw [if_neg h]
    congr 1
    apply List.filter_congr
    intro r _
    simp [h]
/-- How often x and y are a pair. -/
def hits (ps : List (List Int)) (x y : Nat) : Nat := (ps.filter fun p => decide ((p.getD 0 0 = (x : Int) ∧ p.getD 1 0 = (y : Int)) ∨ (p.getD 0 0 = (y : Int) ∧ p.getD 1 0 = (x : Int)))).length
theorem hits_le (ps : List (List Int)) (x y : Nat) : hits ps x y ≤ ps.length := List.length_filter_le _ _
theorem hits_snoc (ps : List (List Int)) (a b : Int) (x y : Nat) : hits (ps ++ [[a, b]]) x y = hits ps x y + (if (a = (x : Int) ∧ b = (y : Int)) ∨ (a = (y : Int) ∧ b = (x : Int)) then 1 else 0) := by
  unfold hits
  rw [List.filter_append, List.length_append]
  congr 1
  by_cases h : (a = (x : Int) ∧ b = (y : Int)) ∨ (a = (y : Int) ∧ b = (x : Int))
  · rw [if_pos h, List.filter_cons, if_pos (decide_eq_true (by simpa using h))]; rfl
  · rw [if_neg h, List.filter_cons, if_neg (by simpa using h)]; rfl
theorem hits_to (r : List Int) (x y : Nat) : ∀ k : Nat, hits (pairsTo r k) x y = (if x < k ∧ (x : Int) < r.getD x 0 ∧ r.getD x 0 = (y : Int) then 1 else 0) + (if y < k ∧ (y : Int) < r.getD y 0 ∧ r.getD y 0 = (x : Int) then 1 else 0)
  | 0 => by simp [pairsTo, hits]
  | k + 1 => by
    have ih := hits_to r x y k
    by_cases hk : (k : Int) < r.getD k 0
    · rw [pairsTo_yes hk, hits_snoc, ih]
      by_cases hx : x = k
      · subst hx
        by_cases hy : y = x
        · subst hy; repeat' split
          all_goals omega
        · repeat' split
          all_goals omega
      · by_cases hy : y = k
        · subst hy; repeat' split
          all_goals omega
        · repeat' split
          all_goals omega
    · rw [pairsTo_no hk, ih]
      by_cases hx : x = k
      · subst hx
        by_cases hy : y = x
        · subst hy; repeat' split
          all_goals omega
        · repeat' split
          all_goals omega
      · by_cases hy : y = k
        · subst hy; repeat' split
          all_goals omega
        · repeat' split
          all_goals omega
theorem hits_round {n : Int} {r : List Int} (h : IsRd n r) {x y : Nat} (hx : (x : Int) < n) (hy : (y : Int) < n) : hits (pairsTo r n.toNat) x y = if x ≠ y ∧ r.getD x 0 = (y : Int) then 1 else 0 := by
  have h14 := h.2.1
  have ax := (h.2.2 x (by omega)).2 hx
  have ay := (h.2.2 y (by omega)).2 hy
  have i1 : r.getD x 0 = (y : Int) → r.getD y 0 = (x : Int) := fun e => by
    have := ax.2.2; rw [e] at this; simpa using this
  have i2 : r.getD y 0 = (x : Int) → r.getD x 0 = (y : Int) := fun e => by
    have := ay.2.2; rw [e] at this; simpa using this
  rw [hits_to]
  by_cases e : r.getD x 0 = (y : Int)
  · have e2 := i1 e
    repeat' split
    all_goals omega
  · have e2 : ¬ r.getD y 0 = (x : Int) := fun h => e (i2 h)
    repeat' split
    all_goals omega

/-! sums -/
def sumF (f : Nat → Int) : Nat → Nat → Int
  | _, 0 => 0
  | s, n + 1 => f s + sumF f (s + 1) n
theorem sumF_congr {f g : Nat → Int} : ∀ (n s : Nat), (∀ i, s ≤ i → f i = g i) → sumF f s n = sumF g s n
  | 0, _, _ => rfl
  | n + 1, s, h => by rw [sumF, sumF, h s (Nat.le_refl _), sumF_congr n (s + 1) fun i hi => h i (by omega)]
theorem sumF_one {f g : Nat → Int} {j : Nat} (h : ∀ i, i ≠ j → g i = f i) : ∀ (n s : Nat), s ≤ j → j < s + n → sumF g s n = sumF f s n + (g j - f j)
  | 0, s, h1, h2 => by omega
  | n + 1, s, h1, h2 => by
    rw [sumF, sumF]
    by_cases hs : s = j
    · subst hs
      rw [sumF_congr (f := g) (g := f) n (s + 1) fun i hi => h i (by omega)]; omega
    · rw [h s hs, sumF_one h n (s + 1) (by omega) (by omega)]; omega
theorem sumF_le {f g : Nat → Int} (h : ∀ i, f i ≤ g i) : ∀ (n s : Nat), sumF f s n ≤ sumF g s n
  | 0, _ => Int.le_refl _
  | n + 1, s => by have := sumF_le h n (s + 1); have := h s; simp only [sumF]; omega
theorem sumF_zero : ∀ (n s : Nat), sumF (fun _ => 0) s n = 0
  | 0, _ => rfl
  | n + 1, s => by simp only [sumF, sumF_zero n (s + 1)]; omega
def sumL : List Int → Int
  | [] => 0
  | x :: l => x + sumL l
theorem sumF_list {f : Nat → Int} : ∀ (l : List Int) (s : Nat), (∀ (i : Nat) (e : Int), l[i]? = some e → f (s + i) = e) → sumF f s l.length = sumL l
  | [], _, _ => rfl
  | x :: l, s, h => by
    show f s + sumF f (s + 1) l.length = x + sumL l
    rw [sumF_list l (s + 1) fun i e hi => by have := h (i + 1) e (by simpa using hi); rwa [show s + (i + 1) = s + 1 + i by omega] at this]
    have := h 0 x rfl
    rw [Nat.add_zero] at this
    rw [this]
theorem sumL_app : ∀ (a b : List Int), sumL (a ++ b) = sumL a + sumL b
  | [], b => by simp [sumL]
  | x :: a, b => by simp only [List.cons_append, sumL, sumL_app a b]; omega
theorem sumL_set : ∀ (l : List Int) (i : Nat) (x e : Int), l[i]? = some e → sumL (l.set i x) = sumL l + (x - e)
  | [], i, x, e, h => by simp at h
  | y :: l, 0, x, e, h => by
    have : y = e := by simpa using h
    subst this; simp only [List.set_cons_zero, sumL]; omega
  | y :: l, i + 1, x, e, h => by
    simp only [List.set_cons_succ, sumL, sumL_set l i x e (by simpa using h)]; omega
/-- What the entries with F tell, together. -/
def wts (F : List Int → Bool) (es : Ents) : List Int := es.map fun e => if F e.1 then e.2 else 0
theorem wts_laid (F : List Int → Bool) (es : Ents) (k : List Int) : sumL (wts F (es.laid k)) = sumL (wts F es) := by
  unfold Ents.laid
  split
  · rfl
  · unfold wts
    rw [List.map_append, sumL_app]; simp [sumL]
theorem wts_incr (F : List Int → Bool) (es : Ents) (k : List Int) : sumL (wts F (incr es k)) = sumL (wts F es) + (if F k then 1 else 0) := by
  have h := laid_at es k
  unfold incr
  have hm : wts F ((es.laid k).set (es.at k) (k, es.get k + 1)) = (wts F (es.laid k)).set (es.at k) (if F k then es.get k + 1 else 0) := by
    unfold wts; rw [List.map_set]
  rw [hm, sumL_set _ _ _ (if F k then es.get k else 0) (by unfold wts; rw [List.getElem?_map, h]; rfl), wts_laid]
  split <;> omega
theorem wts_foldl (F : List Int → Bool) : ∀ (rs : List (List Int)) (es : Ents), sumL (wts F (rs.foldl incr es)) = sumL (wts F es) + ((rs.filter F).length : Int)
  | [], es => by simp
  | r :: rs, es => by
    rw [List.foldl_cons, wts_foldl F rs, wts_incr, List.filter_cons]
    split <;> simp <;> omega
theorem wts_tally (F : List Int → Bool) (rs : List (List Int)) : sumL (wts F (tally rs)) = ((rs.filter F).length : Int) := by
  have := wts_foldl F rs []
  simpa [tally, wts, sumL] using this
/-- What the entry j adds to the place x, y. -/
def wt (es : Ents) (x y j : Nat) : Int := (wts (fun r => decide (x ≠ y ∧ r.getD x 0 = (y : Int))) es).getD j 0
/-- .. and the entries seen. -/
def seenSum (es : Ents) (seen : Array Nat) (x y : Nat) : Int := sumF (fun j => if seen.contains j then wt es x y j else 0) 0 es.length
theorem wt_at {es : Ents} {x y j : Nat} {r : List Int} {c : Int} (h : es[j]? = some (r, c)) : wt es x y j = if x ≠ y ∧ r.getD x 0 = (y : Int) then c else 0 := by
  unfold wt wts
  rw [List.getD_eq_getElem?_getD, List.getElem?_map, h]
  simp only [Option.map_some, Option.getD_some, decide_eq_true_eq]
theorem wt_none {es : Ents} {x y j : Nat} (h : es[j]? = none) : wt es x y j = 0 := by
  unfold wt wts
  rw [List.getD_eq_getElem?_getD, List.getElem?_map, h]; rfl
theorem wt_pos {rs : List (List Int)} (x y j : Nat) : 0 ≤ wt (tally rs) x y j := by
  cases h : (tally rs)[j]? with
  | none => rw [wt_none h]; omega
  | some e =>
    obtain ⟨r, c⟩ := e
    have := (tally_keys (List.mem_of_getElem? h)).2.1
    rw [wt_at h]; split <;> omega
theorem sum_all (rs : List (List Int)) (x y : Nat) : sumF (wt (tally rs) x y) 0 (tally rs).length = (cnt rs x y : Int) := by
  have h := sumF_list (f := wt (tally rs) x y) (wts (fun r => decide (x ≠ y ∧ r.getD x 0 = (y : Int))) (tally rs)) 0 (fun i e hi => by
    unfold wt; rw [Nat.zero_add, List.getD_eq_getElem?_getD, hi]; rfl)
  rw [show (wts (fun r => decide (x ≠ y ∧ r.getD x 0 = (y : Int))) (tally rs)).length = (tally rs).length by simp [wts]] at h
  rw [h, wts_tally, cnt_eq]
theorem seenSum_all {rs : List (List Int)} {seen : Array Nat} (h : ∀ m, m < (tally rs).length → seen.contains m = true) (x y : Nat) : seenSum (tally rs) seen x y = (cnt rs x y : Int) := by
  rw [← sum_all]
  unfold seenSum
  refine sumF_congr _ _ fun i _ => ?_
  by_cases hi : i < (tally rs).length
  · rw [if_pos (h i hi)]
  · rw [wt_none (List.getElem?_eq_none (by omega)), ite_self]
theorem seenSum_le (rs : List (List Int)) (seen : Array Nat) (x y : Nat) : 0 ≤ seenSum (tally rs) seen x y ∧ seenSum (tally rs) seen x y ≤ rs.length := by
  constructor
  · rw [← sumF_zero (tally rs).length 0]
    refine sumF_le (fun i => ?_) _ _
    have := wt_pos (rs := rs) x y i
    split <;> omega
  · have h1 : seenSum (tally rs) seen x y ≤ sumF (wt (tally rs) x y) 0 (tally rs).length := sumF_le (fun i => by
      have := wt_pos (rs := rs) x y i
      split <;> omega) _ _
    rw [sum_all] at h1
    have := cnt_le rs x y
    omega
theorem seenSum_push {rs : List (List Int)} {seen : Array Nat} {j : Nat} (hj : j < (tally rs).length) (hs : seen.contains j = false) (x y : Nat) : seenSum (tally rs) (seen.push j) x y = seenSum (tally rs) seen x y + wt (tally rs) x y j := by
  unfold seenSum
  rw [sumF_one (f := fun j => if seen.contains j then wt (tally rs) x y j else 0) (j := j) (fun i hi => by
    show (if (seen.push j).contains i then _ else _) = (if seen.contains i then _ else _)
    rw [contains_push]; simp [hi]) _ _ (Nat.zero_le _) (by omega)]
  have h1 : (seen.push j).contains j = true := by rw [contains_push]; simp
  simp only [h1, hs, if_true, Bool.false_eq_true, if_false]; omega
theorem seenSum_none (es : Ents) (x y : Nat) : seenSum es #[] x y = 0 :=
  (sumF_congr (g := fun _ => 0) es.length 0 fun i _ => by simp).trans (sumF_zero es.length 0)
theorem tabOf_congr {n : Nat} {f g : Nat → Nat → Int} (h : ∀ x y, x < n → y < n → f x y = g x y) : tabOf n f = tabOf n g := by
  unfold tabOf
  apply List.map_congr_left
  intro x hx
  apply List.map_congr_left
  intro y hy
  exact h x y (List.mem_range.1 hx) (List.mem_range.1 hy)
theorem tabOf_set {n : Nat} {g : Nat → Nat → Int} {a b : Nat} {v : Int} : (tabOf n g).set a (((List.range n).map fun y => g a y).set b v) = tabOf n fun x y => if x = a ∧ y = b then v else g x y := by
  rw [row_set]
  apply List.ext_getElem (by simp [tabOf])
  intro i h1 h2
  rw [List.getElem_set]
  simp only [tabOf, List.getElem_map, List.getElem_range]
  by_cases hi : a = i
  · subst hi; simp
  · rw [if_neg hi]
    apply List.map_congr_left
    intro y _
    rw [if_neg fun h => hi h.1.symm]

/-! a table of one's own -/
def TabAt (ei : Nat) (tab : List (List Int)) (vs : List Value) (own : Own) : Prop := ∃ ns, Go.VL.RowsAt ei tab vs ns ∧ own.Perm ns.flatten
theorem TabAt.row {ei : Nat} {tab : List (List Int)} {vs : List Value} {own : Own} (h : TabAt ei tab vs own) {i : Nat} {row : List Int} (hi : tab[i]? = some row) (h0 : 0 < row.length) :
    ∃ br cap R, vs[i]? = some (.slice (some ⟨br, 0, none⟩) row.length cap) ∧ own.Perm ((br, ⟨ints row, ei, cap * 1, none⟩) :: R) ∧ row.length ≤ cap ∧ ∀ row' : List Int, row'.length = row.length → TabAt ei (tab.set i row') vs ((br, ⟨ints row', ei, cap * 1, none⟩) :: R) := by
  obtain ⟨ns, hR, hp⟩ := h
  obtain ⟨u, n, ns1, ns2, h1, rfl, h3, h4⟩ := RowsAt.split hR hi
  obtain ⟨p, cap, rfl⟩ := SlAt.form h3
  obtain ⟨br, rfl, rfl, hc1, hc2, _⟩ := NewF.blk (NewI.f h3) h0
  refine ⟨br, cap, ns1.flatten ++ ns2.flatten, h1, hp.trans ?_, hc1, fun row' hl => ⟨ns1 ++ [(br, ⟨ints row', ei, cap * 1, none⟩)] :: ns2, h4 _ _ ?_, ?_⟩⟩
  · rw [List.flatten_append, List.flatten_cons]; exact List.perm_middle
  · rw [← hl] at hc1 ⊢; exact NewI.lit rfl hc1 hc2
  · rw [List.flatten_append, List.flatten_cons]; exact List.perm_middle.symm
theorem perm_front {x y : Nat × Blk} {A R S C : Own} (h : (x :: R).Perm (y :: S)) : (x :: (A ++ (R ++ C))).Perm (y :: (A ++ (S ++ C))) :=
  (List.perm_middle (l₁ := A)).symm.trans (((h.append_right C).append_left A).trans (List.perm_middle (l₁ := A)))
theorem perm_pull {x : Nat × Blk} {X A R C : Own} (h : X.Perm (x :: R)) : (A ++ (X ++ C)).Perm (x :: (A ++ (R ++ C))) :=
  ((h.append_right C).append_left A).trans (List.perm_middle (l₁ := A))
end Go.Proofs.Ytbnanjkhpeneeaa

/- A part of the proof: P26. No conditions of its own. -/
namespace Go.Proofs.Ytbnanjkhpeneeaa
open Go.VL
attribute [local irreducible] VWr VOps VD Calls

theorem rd_le {n : Int} {r : List Int} (h : IsRd n r) {a : Nat} (ha : (a : Int) < n) : 0 ≤ r.getD a 0 ∧ r.getD a 0 < n := by
  have := (h.2.2 a (by have := h.2.1; omega)).2 ha
  omega
theorem mem_pairs {r p : List Int} {k : Nat} (h : p ∈ pairsTo r k) : ∃ a : Nat, a < k ∧ (a : Int) < r.getD a 0 ∧ p = [(a : Int), r.getD a 0] := by
  obtain ⟨a, ha, rfl⟩ := List.mem_map.1 h
  have := List.mem_filter.1 ha
  exact ⟨a, List.mem_range.1 this.1, by simpa using this.2, rfl⟩
theorem vals_get {vs : List Value} {i : Nat} {u : Value} {z : Nat} (h : vs[i]? = some u) (hz : z = i) : vs[z]? = some u := by subst hz; exact h

/-- The table when q pairs of the entry have been counted. -/
def pairG (rs : List (List Int)) (seen : Array Nat) (c : Int) (key : List Int) (n q : Nat) (x y : Nat) : Int := seenSum (tally rs) seen x y + c * (hits ((pairsTo key n).take q) x y : Int)
theorem mul_bound {c : Int} {h : Nat} (h0 : 0 ≤ c) (h1 : c ≤ 40) (h2 : h ≤ 14) : 0 ≤ c * (h : Int) ∧ c * (h : Int) ≤ 560 := by
  refine ⟨Int.mul_nonneg h0 (by omega), ?_⟩
  have : c * (h : Int) ≤ 40 * 14 := Int.mul_le_mul h1 (by omega) (by omega) (by omega)
  omega
theorem pairG_bound {rs : List (List Int)} {seen : Array Nat} {c : Int} {key : List Int} {n q : Nat} (x y : Nat) (hl : rs.length ≤ 40) (h0 : 0 ≤ c) (h1 : c ≤ 40) (hn : n ≤ 14) : 0 ≤ pairG rs seen c key n q x y ∧ pairG rs seen c key n q x y ≤ 600 := by
  have a := seenSum_le rs seen x y
  have b := mul_bound (h := hits ((pairsTo key n).take q) x y) h0 h1 (by
    have h1 := hits_le ((pairsTo key n).take q) x y
    have h2 := pairsTo_le key n
    have h3 : ((pairsTo key n).take q).length ≤ (pairsTo key n).length := by rw [List.length_take]; omega
    omega)
  unfold pairG; omega
theorem pairG_zero (rs : List (List Int)) (seen : Array Nat) (c : Int) (key : List Int) (n x y : Nat) : pairG rs seen c key n 0 x y = seenSum (tally rs) seen x y := by
  unfold pairG; simp [hits]
theorem pairG_step {rs : List (List Int)} {seen : Array Nat} {c : Int} {key : List Int} {n q a b : Nat} (hst : (pairsTo key n).take (q + 1) = (pairsTo key n).take q ++ [[(a : Int), (b : Int)]]) (hab : a ≠ b) {g1 : Nat → Nat → Int}
    (h1 : g1 = fun x z => if x = a ∧ z = b then pairG rs seen c key n q a b + c else pairG rs seen c key n q x z) (x z : Nat) :
    (if x = b ∧ z = a then g1 b a + c else g1 x z) = pairG rs seen c key n (q + 1) x z := by
  have key1 : pairG rs seen c key n (q + 1) x z = pairG rs seen c key n q x z + (if ((a : Int) = (x : Int) ∧ (b : Int) = (z : Int)) ∨ ((a : Int) = (z : Int) ∧ (b : Int) = (x : Int)) then c else 0) := by
    unfold pairG
    rw [hst, hits_snoc]
    by_cases hc : ((a : Int) = (x : Int) ∧ (b : Int) = (z : Int)) ∨ ((a : Int) = (z : Int) ∧ (b : Int) = (x : Int))
    · rw [if_pos hc, if_pos hc]; push_cast; rw [Int.mul_add, Int.mul_one]; omega
    · rw [if_neg hc, if_neg hc]; simp
  rw [key1]
  subst h1
  by_cases h2 : x = b ∧ z = a
  · obtain ⟨rfl, rfl⟩ := h2
    rw [if_pos ⟨rfl, rfl⟩, if_pos (by omega)]
    show (if x = z ∧ z = x then _ else _) + c = _
    rw [if_neg (by omega)]
  · rw [if_neg h2]
    show (if x = a ∧ z = b then _ else _) = _
    by_cases h3 : x = a ∧ z = b
    · obtain ⟨rfl, rfl⟩ := h3
      rw [if_pos ⟨rfl, rfl⟩, if_pos (by omega)]
    · rw [if_neg h3, if_neg (by omega)]; omega

end Go.Proofs.Ytbnanjkhpeneeaa

/- A part of the proof: P27. No conditions of its own. -/
namespace Go.Proofs.Ytbnanjkhpeneeaa
open Go.VL
attribute [local irreducible] VWr VOps VD Calls

open Classical in
noncomputable def meetingsOf (n : Int) (rs : List (List Int)) : List (List Int) × Int := if IsSch n rs then (meetTab n.toNat rs, 0) else ([], 1)
theorem meetingsOf_ok (n : Int) (rs : List (List Int)) : (meetingsOf n rs).1.length ≤ 1048576 ∧ (∀ l ∈ (meetingsOf n rs).1, l.length ≤ 1048576) ∧ sumLen (meetingsOf n rs).1 ≤ 1048576 := by
  unfold meetingsOf
  split
  · rename_i h
    have h14 := h.2.1
    refine ⟨by show (meetTab n.toNat rs).length ≤ _; rw [tabOf_length]; omega, fun l hl => by rw [tabOf_mem hl]; omega, ?_⟩
    show sumLen (meetTab n.toNat rs) ≤ _
    rw [sumLen_const fun l hl => tabOf_mem hl, tabOf_length]
    have : n.toNat ≤ 14 := by omega
    calc n.toNat * n.toNat ≤ 14 * 14 := Nat.mul_le_mul this this
      _ ≤ _ := by omega
  · simp [sumLen]

end Go.Proofs.Ytbnanjkhpeneeaa

/- A part of the proof: P28. No conditions of its own. -/
namespace Go.Proofs.Ytbnanjkhpeneeaa
open Go.VL
attribute [local irreducible] VWr VOps VD Calls

/-- Each two meet once. -/
def AllMeet (k : Nat) (rs : List (List Int)) : Prop := (rs.length : Int) = robinR k ∧ ∀ a b : Nat, a < k → b < k → a ≠ b → cnt rs a b = 1
theorem cnt_symm {k : Nat} {rs : List (List Int)} (hS : ∀ (i : Nat) (r : List Int), rs[i]? = some r → IsRd k r) {a b : Nat} (ha : a < k) (hb : b < k) : cnt rs a b = cnt rs b a := by
  unfold cnt
  by_cases hab : a = b
  · rw [if_pos hab, if_pos hab.symm]
  · rw [if_neg hab, if_neg (Ne.symm hab)]
    congr 1
    apply List.filter_congr
    intro r hr
    obtain ⟨i, hi⟩ := List.mem_iff_getElem?.1 hr
    have h := hS i r hi
    have h14 := h.2.1
    have aa := (h.2.2 a (by omega)).2 (by omega)
    have bb := (h.2.2 b (by omega)).2 (by omega)
    refine decide_eq_decide.2 ⟨fun e => ?_, fun e => ?_⟩
    · have := aa.2.2; rw [e] at this; simpa using this
    · have := bb.2.2; rw [e] at this; simpa using this
open Classical in
noncomputable def robin (n : Int) (rs : List (List Int)) : Bool × Int := if IsSch n rs then (decide (AllMeet n.toNat rs), 0) else (false, 1)
theorem out_bc {P : Program} {Γ : Ctx} {f : Nat → Value} {own : Own} {n t u : Nat} {fn : Func} {b b' : Bool} {c : Int} {r : Bool × Int} (h : fn.results = #[.tmp t, .tmp u]) (hv : f t = .bool b) (hx : f u = .int .i64 c) (hb : b = b') (hr : r = (b', c)) : Out P Γ n fn (Is (.tuple #[.bool r.1, .int .i64 r.2])) .ret f own := by
  subst hb; subst hr
  exact out2 (new := []) h hv hx List.nodup_nil sub_nil ⟨rfl, rfl⟩
/-- Where a table of one's own has the place i, j. -/
theorem tab_cell {k : Nat} {g : Nat → Nat → Int} {vs : List Value} {ns : List Own} {i : Nat} (hR : Go.VL.RowsAt 2 (tabOf k g) vs ns) (hi : i < k) :
    ∃ br cap ns1 ns2, vs[i]? = some (.slice (some ⟨br, 0, none⟩) k cap) ∧ ns = ns1 ++ [(br, ⟨ints ((List.range k).map fun b => g i b), 2, cap * 1, none⟩)] :: ns2 := by
  obtain ⟨u, n, ns1, ns2, h1, rfl, h3, _⟩ := RowsAt.split hR (tabOf_get hi)
  obtain ⟨p, cap, rfl⟩ := SlAt.form h3
  obtain ⟨br, rfl, rfl, _, _, _⟩ := NewF.blk (NewI.f h3) (by rw [row_length]; omega)
  rw [row_length] at h1
  exact ⟨br, cap, ns1, ns2, h1, rfl⟩
theorem mem_flat {x : Nat × Blk} {ns1 ns2 : List Own} {n : Own} (h : x ∈ n) : x ∈ (ns1 ++ n :: ns2).flatten := by
  rw [List.flatten_append, List.flatten_cons]
  exact List.mem_append_right _ (List.mem_append_left _ h)
theorem outer_blk {e k : Nat} {p : Option Addr} {cp : Nat} {vs : List Value} {outer : Own} (h : SlAt e 1 (.slice p k cp) k vs outer []) (hk : 0 < k) : ∃ bo, p = some ⟨bo, 0, none⟩ ∧ outer = [(bo, ⟨vs, e, cp * 1, none⟩)] := by
  rcases h.2 with ⟨_, h, _⟩ | ⟨bo, cap', h, h2, h3, h4⟩
  · omega
  · cases h; exact ⟨bo, rfl, h4⟩

end Go.Proofs.Ytbnanjkhpeneeaa

