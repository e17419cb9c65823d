import Derived.Test.YtjbhmdhebmkgkaaSH
import Derived.Test.YtjbhmdhebmkgkaaVLArr
import Derived.Test.YtjbhmdhebmkgkaaSI
/- Parts of the proof, one after another. No conditions of their own. -/
/- A part of the proof: P24. No conditions of its own. -/
namespace Go.Proofs.Ytjbhmdhebmkgkaa
open Go.VL
attribute [local irreducible] VWr VOps VD Calls

/-- In how many of the rounds a meets b. -/
def cnt (l : List (List Int)) (a b : Nat) : Nat := if a = b then 0 else (l.filter fun r => decide (r.getD a 0 = (b : Int))).length
/-- A table. -/
def tabOf (n : Nat) (g : Nat → Nat → Int) : List (List Int) := (List.range n).map fun a => (List.range n).map fun b => g a b
theorem tabOf_length (n : Nat) (g : Nat → Nat → Int) : (tabOf n g).length = n := by simp [tabOf]
theorem tabOf_get {n : Nat} {g : Nat → Nat → Int} {a : Nat} (h : a < n) : (tabOf n g)[a]? = some ((List.range n).map fun b => g a b) := by simp [tabOf, h]
theorem row_length (n : Nat) (g : Nat → Int) : ((List.range n).map g).length = n := by simp
theorem row_get {n : Nat} {g : Nat → Int} {b : Nat} (h : b < n) : ((List.range n).map g).getD b 0 = g b := by simp [h]
theorem row_set {n : Nat} {g : Nat → Int} {b : Nat} {v : Int} : ((List.range n).map g).set b v = (List.range n).map fun x => if x = b then v else g x := by
  apply List.ext_getElem (by simp)
  intro j h1 h2
  rw [List.getElem_set]
  simp only [List.getElem_map, List.getElem_range]
  by_cases hj : b = j
  · rw [if_pos hj, if_pos hj.symm]
  · rw [if_neg hj, if_neg (Ne.symm hj)]
theorem tabOf_mem {n : Nat} {g : Nat → Nat → Int} {l : List Int} (h : l ∈ tabOf n g) : l.length = n := by
  obtain ⟨a, _, rfl⟩ := List.mem_map.1 h; simp
theorem sumLen_const {k : Nat} : ∀ {ls : List (List Int)}, (∀ l ∈ ls, l.length = k) → sumLen ls = ls.length * k
  | [], _ => by simp [sumLen]
  | l :: ls, h => by
    simp only [sumLen, List.length_cons, h l (by simp), sumLen_const (ls := ls) fun q hq => h q (by simp [hq]), Nat.add_mul]; omega
abbrev meetRow (n : Nat) (l : List (List Int)) (a : Nat) : List Int := (List.range n).map fun b => (cnt l a b : Int)
abbrev meetTab (n : Nat) (l : List (List Int)) : List (List Int) := tabOf n fun a b => (cnt l a b : Int)
end Go.Proofs.Ytjbhmdhebmkgkaa

/- A part of the proof: P25. No conditions of its own. -/
namespace Go.Proofs.Ytjbhmdhebmkgkaa
open Go.VL
attribute [local irreducible] VWr VOps VD Calls

/-- How often x and y are a pair. -/
def hits (ps : List (List Int)) (x y : Nat) : Nat := (ps.filter fun p => decide ((p.getD 0 0 = (x : Int) ∧ p.getD 1 0 = (y : Int)) ∨ (p.getD 0 0 = (y : Int) ∧ p.getD 1 0 = (x : Int)))).length
theorem hits_le (ps : List (List Int)) (x y : Nat) : hits ps x y ≤ ps.length := List.length_filter_le _ _
theorem hits_snoc (ps : List (List Int)) (a b : Int) (x y : Nat) : hits (ps ++ [[a, b]]) x y = hits ps x y + (if (a = (x : Int) ∧ b = (y : Int)) ∨ (a = (y : Int) ∧ b = (x : Int)) then 1 else 0) := by
  unfold hits
  rw [List.filter_append, List.length_append]
  congr 1
  by_cases h : (a = (x : Int) ∧ b = (y : Int)) ∨ (a = (y : Int) ∧ b = (x : Int))
  · rw [if_pos h, List.filter_cons, if_pos (decide_eq_true (by simpa using h))]; rfl
  · rw [if_neg h, List.filter_cons, if_neg (by simpa using h)]; rfl
def sumF (f : Nat → Int) : Nat → Nat → Int
  | _, 0 => 0
  | s, n + 1 => f s + sumF f (s + 1) n
def sumL : List Int → Int
  | [] => 0
  | x :: l => x + sumL l
/-- What the entries with F tell, together. -/
def wts (F : List Int → Bool) (es : Ents) : List Int := es.map fun e => if F e.1 then e.2 else 0
/-- What the entry j adds to the place x, y. -/
def wt (es : Ents) (x y j : Nat) : Int := (wts (fun r => decide (x ≠ y ∧ r.getD x 0 = (y : Int))) es).getD j 0
/-- .. and the entries seen. -/
def seenSum (es : Ents) (seen : Array Nat) (x y : Nat) : Int := sumF (fun j => if seen.contains j then wt es x y j else 0) 0 es.length
theorem tabOf_congr {n : Nat} {f g : Nat → Nat → Int} (h : ∀ x y, x < n → y < n → f x y = g x y) : tabOf n f = tabOf n g := by
  unfold tabOf
  apply List.map_congr_left
  intro x hx
  apply List.map_congr_left
  intro y hy
  exact h x y (List.mem_range.1 hx) (List.mem_range.1 hy)
theorem tabOf_set {n : Nat} {g : Nat → Nat → Int} {a b : Nat} {v : Int} : (tabOf n g).set a (((List.range n).map fun y => g a y).set b v) = tabOf n fun x y => if x = a ∧ y = b then v else g x y := by
  rw [row_set]
  apply List.ext_getElem (by simp [tabOf])
  intro i h1 h2
  rw [List.getElem_set]
  simp only [tabOf, List.getElem_map, List.getElem_range]
  by_cases hi : a = i
  · subst hi; simp
  · rw [if_neg hi]
    apply List.map_congr_left
    intro y _
    rw [if_neg fun h => hi h.1.symm]

/-! a table of one's own -/
def TabAt (ei : Nat) (tab : List (List Int)) (vs : List Value) (own : Own) : Prop := ∃ ns, Go.VL.RowsAt ei tab vs ns ∧ own.Perm ns.flatten
theorem TabAt.row {ei : Nat} {tab : List (List Int)} {vs : List Value} {own : Own} (h : TabAt ei tab vs own) {i : Nat} {row : List Int} (hi : tab[i]? = some row) (h0 : 0 < row.length) :
    ∃ br cap R, vs[i]? = some (.slice (some ⟨br, 0, none⟩) row.length cap) ∧ own.Perm ((br, ⟨ints row, ei, cap * 1, none⟩) :: R) ∧ row.length ≤ cap ∧ ∀ row' : List Int, row'.length = row.length → TabAt ei (tab.set i row') vs ((br, ⟨ints row', ei, cap * 1, none⟩) :: R) := by
  obtain ⟨ns, hR, hp⟩ := h
  obtain ⟨u, n, ns1, ns2, h1, rfl, h3, h4⟩ := RowsAt.split hR hi
  obtain ⟨p, cap, rfl⟩ := SlAt.form h3
  obtain ⟨br, rfl, rfl, hc1, hc2, _⟩ := NewF.blk (NewI.f h3) h0
  refine ⟨br, cap, ns1.flatten ++ ns2.flatten, h1, hp.trans ?_, hc1, fun row' hl => ⟨ns1 ++ [(br, ⟨ints row', ei, cap * 1, none⟩)] :: ns2, h4 _ _ ?_, ?_⟩⟩
  · rw [List.flatten_append, List.flatten_cons]; exact List.perm_middle
  · rw [← hl] at hc1 ⊢; exact NewI.lit rfl hc1 hc2
  · rw [List.flatten_append, List.flatten_cons]; exact List.perm_middle.symm
theorem perm_front {x y : Nat × Blk} {A R S C : Own} (h : (x :: R).Perm (y :: S)) : (x :: (A ++ (R ++ C))).Perm (y :: (A ++ (S ++ C))) :=
  (List.perm_middle (l₁ := A)).symm.trans (((h.append_right C).append_left A).trans (List.perm_middle (l₁ := A)))
theorem perm_pull {x : Nat × Blk} {X A R C : Own} (h : X.Perm (x :: R)) : (A ++ (X ++ C)).Perm (x :: (A ++ (R ++ C))) :=
  ((h.append_right C).append_left A).trans (List.perm_middle (l₁ := A))
end Go.Proofs.Ytjbhmdhebmkgkaa

/- A part of the proof: P26. No conditions of its own. -/
namespace Go.Proofs.Ytjbhmdhebmkgkaa
open Go.VL
attribute [local irreducible] VWr VOps VD Calls

theorem vals_get {vs : List Value} {i : Nat} {u : Value} {z : Nat} (h : vs[i]? = some u) (hz : z = i) : vs[z]? = some u := by subst hz; exact h

/-- The table when q pairs of the entry have been counted. -/
def pairG (rs : List (List Int)) (seen : Array Nat) (c : Int) (key : List Int) (n q : Nat) (x y : Nat) : Int := seenSum (tally rs) seen x y + c * (hits ((pairsTo key n).take q) x y : Int)
end Go.Proofs.Ytjbhmdhebmkgkaa

/- A part of the proof: P27. No conditions of its own. -/
namespace Go.Proofs.Ytjbhmdhebmkgkaa
open Go.VL
attribute [local irreducible] VWr VOps VD Calls

open Classical in
noncomputable def meetingsOf (n : Int) (rs : List (List Int)) : List (List Int) × Int := if IsSch n rs then (meetTab n.toNat rs, 0) else ([], 1)
end Go.Proofs.Ytjbhmdhebmkgkaa

/- A part of the proof: P28. No conditions of its own. -/
namespace Go.Proofs.Ytjbhmdhebmkgkaa
open Go.VL
attribute [local irreducible] VWr VOps VD Calls

/-- Each two meet once. -/
def AllMeet (k : Nat) (rs : List (List Int)) : Prop := (rs.length : Int) = robinR k ∧ ∀ a b : Nat, a < k → b < k → a ≠ b → cnt rs a b = 1
open Classical in
noncomputable def robin (n : Int) (rs : List (List Int)) : Bool × Int := if IsSch n rs then (decide (AllMeet n.toNat rs), 0) else (false, 1)
/-- Where a table of one's own has the place i, j. -/
theorem tab_cell {k : Nat} {g : Nat → Nat → Int} {vs : List Value} {ns : List Own} {i : Nat} (hR : Go.VL.RowsAt 2 (tabOf k g) vs ns) (hi : i < k) :
    ∃ br cap ns1 ns2, vs[i]? = some (.slice (some ⟨br, 0, none⟩) k cap) ∧ ns = ns1 ++ [(br, ⟨ints ((List.range k).map fun b => g i b), 2, cap * 1, none⟩)] :: ns2 := by
  obtain ⟨u, n, ns1, ns2, h1, rfl, h3, _⟩ := RowsAt.split hR (tabOf_get hi)
  obtain ⟨p, cap, rfl⟩ := SlAt.form h3
  obtain ⟨br, rfl, rfl, _, _, _⟩ := NewF.blk (NewI.f h3) (by rw [row_length]; omega)
  rw [row_length] at h1
  exact ⟨br, cap, ns1, ns2, h1, rfl⟩
theorem mem_flat {x : Nat × Blk} {ns1 ns2 : List Own} {n : Own} (h : x ∈ n) : x ∈ (ns1 ++ n :: ns2).flatten := by
  rw [List.flatten_append, List.flatten_cons]
  exact List.mem_append_right _ (List.mem_append_left _ h)
theorem outer_blk {e k : Nat} {p : Option Addr} {cp : Nat} {vs : List Value} {outer : Own} (h : SlAt e 1 (.slice p k cp) k vs outer []) (hk : 0 < k) : ∃ bo, p = some ⟨bo, 0, none⟩ ∧ outer = [(bo, ⟨vs, e, cp * 1, none⟩)] := by
  rcases h.2 with ⟨_, h, _⟩ | ⟨bo, cap', h, h2, h3, h4⟩
  · omega
  · cases h; exact ⟨bo, rfl, h4⟩

end Go.Proofs.Ytjbhmdhebmkgkaa

