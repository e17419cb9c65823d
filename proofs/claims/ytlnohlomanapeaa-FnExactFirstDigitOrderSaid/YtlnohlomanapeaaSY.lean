import Derived.Test.YtlnohlomanapeaaSX
import Derived.Test.YtlnohlomanapeaaVLA
import Derived.Test.YtlnohlomanapeaaVLLol
/- Parts of the proof, one after another. No conditions of their own. -/
/- A part of the proof: P24. No conditions of its own. -/
namespace Go.Proofs.Ytlnohlomanapeaa
open Go.VL
attribute [local irreducible] VWr VOps VD Calls

/-- In how many of the rounds a meets b. -/
def cnt (l : List (List Int)) (a b : Nat) : Nat := if a = b then 0 else (l.filter fun r => decide (r.getD a 0 = (b : Int))).length
/-- A table. -/
def tabOf (n : Nat) (g : Nat → Nat → Int) : List (List Int) := (List.range n).map fun a => (List.range n).map fun b => g a b
theorem tabOf_length (n : Nat) (g : Nat → Nat → Int) : (tabOf n g).length = n := by simp [tabOf]
theorem tabOf_get {n : Nat} {g : Nat → Nat → Int} {a : Nat} (h : a < n) : (tabOf n g)[a]? = some ((List.range n).map fun b => g a b) := by simp [tabOf, h]
theorem row_length (n : Nat) (g : Nat → Int) : ((List.range n).map g).length = n := by simp
theorem row_get {n : Nat} {g : Nat → Int} {b : Nat} (h : b < n) : ((List.range n).map g).getD b 0 = g b := by simp [h]
theorem row_set {n : Nat} {g : Nat → Int} {b : Nat} {v : Int} : ((List.range n).map g).set b v = (List.range n).map fun x => if x = b then v else g x := by
  apply List.ext_getElem (by simp)
  intro j h1 h2
  rw [List.getElem_set]
  simp only [List.getElem_map, List.getElem_range]
  by_cases hj : b = j
  · rw [if_pos hj, if_pos hj.symm]
  · rw [if_neg hj, if_neg (Ne.symm hj)]
abbrev meetRow (n : Nat) (l : List (List Int)) (a : Nat) : List Int := (List.range n).map fun b => (cnt l a b : Int)
abbrev meetTab (n : Nat) (l : List (List Int)) : List (List Int) := tabOf n fun a b => (cnt l a b : Int)
end Go.Proofs.Ytlnohlomanapeaa

/- A part of the proof: P25. No conditions of its own. -/
namespace Go.Proofs.Ytlnohlomanapeaa
open Go.VL
attribute [local irreducible] VWr VOps VD Calls

/-- How often x and y are a pair. -/
def hits (ps : List (List Int)) (x y : Nat) : Nat := (ps.filter fun p => decide ((p.getD 0 0 = (x : Int) ∧ p.getD 1 0 = (y : Int)) ∨ (p.getD 0 0 = (y : Int) ∧ p.getD 1 0 = (x : Int)))).length
def sumF (f : Nat → Int) : Nat → Nat → Int
  | _, 0 => 0
  | s, n + 1 => f s + sumF f (s + 1) n
def sumL : List Int → Int
  | [] => 0
  | x :: l => x + sumL l
/-- What the entries with F tell, together. -/
def wts (F : List Int → Bool) (es : Ents) : List Int := es.map fun e => if F e.1 then e.2 else 0
/-- What the entry j adds to the place x, y. -/
def wt (es : Ents) (x y j : Nat) : Int := (wts (fun r => decide (x ≠ y ∧ r.getD x 0 = (y : Int))) es).getD j 0
/-- .. and the entries seen. -/
def seenSum (es : Ents) (seen : Array Nat) (x y : Nat) : Int := sumF (fun j => if seen.contains j then wt es x y j else 0) 0 es.length
theorem tabOf_congr {n : Nat} {f g : Nat → Nat → Int} (h : ∀ x y, x < n → y < n → f x y = g x y) : tabOf n f = tabOf n g := by
  unfold tabOf
  apply List.map_congr_left
  intro x hx
  apply List.map_congr_left
  intro y hy
  exact h x y (List.mem_range.1 hx) (List.mem_range.1 hy)
theorem tabOf_set {n : Nat} {g : Nat → Nat → Int} {a b : Nat} {v : Int} : (tabOf n g).set a (((List.range n).map fun y => g a y).set b v) = tabOf n fun x y => if x = a ∧ y = b then v else g x y := by
  rw [row_set]
  apply List.ext_getElem (by simp [tabOf])
  intro i h1 h2
  rw [List.getElem_set]
  simp only [tabOf, List.getElem_map, List.getElem_range]
  by_cases hi : a = i
  · subst hi; simp
  · rw [if_neg hi]
    apply List.map_congr_left
    intro y _
    rw [if_neg fun h => hi h.1.symm]

/-! a table of one's own -/
def TabAt (ei : Nat) (tab : List (List Int)) (vs : List Value) (own : Own) : Prop := ∃ ns, Go.VL.RowsAt ei tab vs ns ∧ own.Perm ns.flatten
theorem TabAt.row {ei : Nat} {tab : List (List Int)} {vs : List Value} {own : Own} (h : TabAt ei tab vs own) {i : Nat} {row : List Int} (hi : tab[i]? = some row) (h0 : 0 < row.length) :
    ∃ br cap R, vs[i]? = some (.slice (some ⟨br, 0, none⟩) row.length cap) ∧ own.Perm ((br, ⟨ints row, ei, cap * 1, none⟩) :: R) ∧ row.length ≤ cap ∧ ∀ row' : List Int, row'.length = row.length → TabAt ei (tab.set i row') vs ((br, ⟨ints row', ei, cap * 1, none⟩) :: R) := by
  obtain ⟨ns, hR, hp⟩ := h
  obtain ⟨u, n, ns1, ns2, h1, rfl, h3, h4⟩ := RowsAt.split hR hi
  obtain ⟨p, cap, rfl⟩ := SlAt.form h3
  obtain ⟨br, rfl, rfl, hc1, hc2, _⟩ := NewF.blk (NewI.f h3) h0
  refine ⟨br, cap, ns1.flatten ++ ns2.flatten, h1, hp.trans ?_, hc1, fun row' hl => ⟨ns1 ++ [(br, ⟨ints row', ei, cap * 1, none⟩)] :: ns2, h4 _ _ ?_, ?_⟩⟩
  · rw [List.flatten_append, List.flatten_cons]; exact List.perm_middle
  · rw [← hl] at hc1 ⊢; exact NewI.lit rfl hc1 hc2
  · rw [List.flatten_append, List.flatten_cons]; exact List.perm_middle.symm
theorem perm_pull {x : Nat × Blk} {X A R C : Own} (h : X.Perm (x :: R)) : (A ++ (X ++ C)).Perm (x :: (A ++ (R ++ C))) :=
  ((h.append_right C).append_left A).trans (List.perm_middle (l₁ := A))
end Go.Proofs.Ytlnohlomanapeaa

/- A part of the proof: P30. No conditions of its own. -/
namespace Go.Proofs.Ytlnohlomanapeaa
open Go.VL
attribute [local irreducible] VWr VOps VD Calls

/-- The round whose turn it is, and the other one. -/
def cur (r q : List Int) (t : Nat) : List Int := if t % 2 = 0 then r else q
def oth (r q : List Int) (t : Nat) : List Int := if t % 2 = 0 then q else r
theorem cur_par {r q : List Int} {t s : Nat} (h : t % 2 = s % 2) : cur r q t = cur r q s := by unfold cur; rw [h]
def mv (r q : List Int) (t : Nat) (x : Int) : Int := (cur r q t).getD x.toNat 0
theorem mv_ok {n : Int} {r q : List Int} (hr : IsRd n r) (hq : IsRd n q) (t : Nat) {x : Int} (h0 : 0 ≤ x) (h1 : x < n) : 0 ≤ mv r q t x ∧ mv r q t x < n ∧ mv r q t (mv r q t x) = x := by
  have hc : IsRd n (cur r q t) := by unfold cur; split <;> assumption
  have h14 := hc.2.1
  have := (hc.2.2 x.toNat (by omega)).2 (by omega)
  unfold mv
  refine ⟨this.1, by omega, ?_⟩
  rw [this.2.2]; omega
/-- A chain of a, as far as it has come. -/
structure Ch (n : Int) (r q : List Int) (a : Int) (l : List Int) : Prop where
  ne : 0 < l.length
  first : l.getD 0 0 = a
  inn : ∀ x ∈ l, 0 ≤ x ∧ x < n
  step : ∀ i, i + 1 < l.length → l.getD (i + 1) 0 = mv r q i (l.getD i 0)
  nodup : l.Nodup
theorem getD_mem {l : List Int} {i : Nat} (h : i < l.length) : l.getD i 0 ∈ l := by
  rw [List.getD_eq_getElem?_getD, List.getElem?_eq_getElem h]; exact List.getElem_mem _
theorem getD_inj {l : List Int} (hn : l.Nodup) {i j : Nat} (hi : i < l.length) (hj : j < l.length) (h : l.getD i 0 = l.getD j 0) : i = j := by
  refine (List.getElem?_inj hi hn).1 ?_
  rw [List.getD_eq_getElem?_getD, List.getD_eq_getElem?_getD, List.getElem?_eq_getElem hi, List.getElem?_eq_getElem hj] at h
  rw [List.getElem?_eq_getElem hi, List.getElem?_eq_getElem hj]
  exact congrArg some h
theorem Ch.last {n : Int} {r q : List Int} {a : Int} {l : List Int} (h : Ch n r q a l) : 0 ≤ l.getD (l.length - 1) 0 ∧ l.getD (l.length - 1) 0 < n := h.inn _ (getD_mem (by have := h.ne; omega))
theorem getD_app {l : List Int} {x : Int} {i : Nat} (h : i < l.length) : (l ++ [x]).getD i 0 = l.getD i 0 := by
  rw [List.getD_eq_getElem?_getD, List.getElem?_append_left h, ← List.getD_eq_getElem?_getD]
theorem getD_end {l : List Int} {x : Int} {i : Nat} (h : i = l.length) : (l ++ [x]).getD i 0 = x := by
  subst h; rw [List.getD_eq_getElem?_getD, List.getElem?_append_right (Nat.le_refl _), Nat.sub_self]; rfl
theorem Ch.snoc {n : Int} {r q : List Int} (hr : IsRd n r) (hq : IsRd n q) {a x : Int} {l : List Int} (h : Ch n r q a l) (hx : x = mv r q (l.length - 1) (l.getD (l.length - 1) 0)) (hxa : x ≠ a) (hxl : x ≠ l.getD (l.length - 1) 0) : Ch n r q a (l ++ [x]) := by
  have hne := h.ne
  have hlast := h.last
  have hmv := mv_ok hr hq (l.length - 1) hlast.1 hlast.2
  have hnot : x ∉ l := fun hm => by
    obtain ⟨k, hk⟩ := List.mem_iff_getElem?.1 hm
    have hkl := (List.getElem?_eq_some_iff.1 hk).1
    have hkd : l.getD k 0 = x := by rw [List.getD_eq_getElem?_getD, hk]; rfl
    have hk0 : k ≠ 0 := fun e => hxa (by rw [← hkd, e, h.first])
    have hkm : k ≠ l.length - 1 := fun e => hxl (by rw [← hkd, e])
    have hback : mv r q (l.length - 1) x = l.getD (l.length - 1) 0 := by rw [hx]; exact hmv.2.2
    by_cases hp : (l.length - 1) % 2 = k % 2
    · have h1 := h.step k (by omega)
      have h2 : mv r q k (l.getD k 0) = l.getD (l.length - 1) 0 := by rw [hkd, ← hback]; unfold mv; rw [cur_par hp]
      have := getD_inj h.nodup (show k + 1 < l.length by omega) (show l.length - 1 < l.length by omega) (h1.trans h2)
      omega
    · have h1 := h.step (k - 1) (by omega)
      rw [show k - 1 + 1 = k by omega] at h1
      have hb := h.inn _ (getD_mem (show k - 1 < l.length by omega))
      have h3 := (mv_ok hr hq (k - 1) hb.1 hb.2).2.2
      rw [← h1, hkd] at h3
      have h4 : mv r q (k - 1) x = l.getD (l.length - 1) 0 := by rw [← hback]; unfold mv; rw [cur_par (show (k - 1) % 2 = (l.length - 1) % 2 by omega)]
      have := getD_inj h.nodup (show k - 1 < l.length by omega) (show l.length - 1 < l.length by omega) (h3.symm.trans h4)
      omega
  refine ⟨by simp, by rw [getD_app hne]; exact h.first, fun y hy => ?_, fun i hi => ?_, ?_⟩
  · rcases List.mem_append.1 hy with hy | hy
    · exact h.inn y hy
    · have : y = x := by simpa using hy
      rw [this, hx]; exact ⟨hmv.1, hmv.2.1⟩
  · rw [List.length_append] at hi
    simp only [List.length_cons, List.length_nil] at hi
    by_cases hil : i + 1 < l.length
    · rw [getD_app hil, getD_app (by omega)]; exact h.step i hil
    · rw [getD_end (by omega), getD_app (by omega), hx]
      rw [show l.length - 1 = i by omega]
  · rw [List.nodup_append]
    refine ⟨h.nodup, by simp, fun y hy z hz e => ?_⟩
    have : z = x := by simpa using hz
    subst this; subst e; exact hnot hy
theorem pigeon : ∀ (n : Nat) (l : List Int), l.Nodup → (∀ x ∈ l, 0 ≤ x ∧ x < (n : Int)) → l.length ≤ n
  | 0, l, _, h => by
    match l, h with
    | [], _ => exact Nat.le_refl _
    | x :: l, h => have := h x (by simp); omega
  | n + 1, l, hn, h => by
    by_cases hm : (n : Int) ∈ l
    · have h1 := pigeon n (l.erase (n : Int)) (hn.erase _) (fun x hx => by
        have hx2 := (hn.mem_erase_iff).1 hx
        have := h x hx2.2
        have hne := hx2.1
        omega)
      rw [List.length_erase_of_mem hm] at h1
      omega
    · have := pigeon n l hn (fun x hx => by
        have h1 := h x hx
        have h2 : x ≠ n := fun e => hm (e ▸ hx)
        omega)
      omega
def chainGo (r q : List Int) (a : Int) : Nat → List Int → List Int
  | 0, l => l
  | f + 1, l => if mv r q (l.length - 1) (l.getD (l.length - 1) 0) = a ∨ mv r q (l.length - 1) (l.getD (l.length - 1) 0) = l.getD (l.length - 1) 0 then l else chainGo r q a f (l ++ [mv r q (l.length - 1) (l.getD (l.length - 1) 0)])
/-- The chain of a. -/
def chain (r q : List Int) (a : Int) : List Int := chainGo r q a 15 [a]
theorem Ch.one {n : Int} {r q : List Int} {a : Int} (h0 : 0 ≤ a) (h1 : a < n) : Ch n r q a [a] := ⟨by simp, rfl, fun x hx => by
  have : x = a := by simpa using hx
  subst this; exact ⟨h0, h1⟩, fun i hi => by simp at hi, by simp⟩
end Go.Proofs.Ytlnohlomanapeaa

/- A part of the proof: P26. No conditions of its own. -/
namespace Go.Proofs.Ytlnohlomanapeaa
open Go.VL
attribute [local irreducible] VWr VOps VD Calls

theorem vals_get {vs : List Value} {i : Nat} {u : Value} {z : Nat} (h : vs[i]? = some u) (hz : z = i) : vs[z]? = some u := by subst hz; exact h

/-- The table when q pairs of the entry have been counted. -/
def pairG (rs : List (List Int)) (seen : Array Nat) (c : Int) (key : List Int) (n q : Nat) (x y : Nat) : Int := seenSum (tally rs) seen x y + c * (hits ((pairsTo key n).take q) x y : Int)
end Go.Proofs.Ytlnohlomanapeaa

/- A part of the proof: P27. No conditions of its own. -/
namespace Go.Proofs.Ytlnohlomanapeaa
open Go.VL
attribute [local irreducible] VWr VOps VD Calls

open Classical in
noncomputable def meetingsOf (n : Int) (rs : List (List Int)) : List (List Int) × Int := if IsSch n rs then (meetTab n.toNat rs, 0) else ([], 1)
end Go.Proofs.Ytlnohlomanapeaa

/- A part of the proof: P28. No conditions of its own. -/
namespace Go.Proofs.Ytlnohlomanapeaa
open Go.VL
attribute [local irreducible] VWr VOps VD Calls

/-- Each two meet once. -/
def AllMeet (k : Nat) (rs : List (List Int)) : Prop := (rs.length : Int) = robinR k ∧ ∀ a b : Nat, a < k → b < k → a ≠ b → cnt rs a b = 1
open Classical in
noncomputable def robin (n : Int) (rs : List (List Int)) : Bool × Int := if IsSch n rs then (decide (AllMeet n.toNat rs), 0) else (false, 1)
theorem outer_blk {e k : Nat} {p : Option Addr} {cp : Nat} {vs : List Value} {outer : Own} (h : SlAt e 1 (.slice p k cp) k vs outer []) (hk : 0 < k) : ∃ bo, p = some ⟨bo, 0, none⟩ ∧ outer = [(bo, ⟨vs, e, cp * 1, none⟩)] := by
  rcases h.2 with ⟨_, h, _⟩ | ⟨bo, cap', h, h2, h3, h4⟩
  · omega
  · cases h; exact ⟨bo, rfl, h4⟩

end Go.Proofs.Ytlnohlomanapeaa

