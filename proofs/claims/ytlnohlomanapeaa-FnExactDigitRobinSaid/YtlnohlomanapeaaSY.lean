import Derived.Test.YtlnohlomanapeaaSX
import Derived.Test.YtlnohlomanapeaaVLA
import Derived.Test.YtlnohlomanapeaaVLLol
/- Parts of the proof, one after another. No conditions of their own. -/
/- A part of the proof: P24. No conditions of its own. -/
namespace Go.Proofs.Ytlnohlomanapeaa
open Go.VL
attribute [local irreducible] VWr VOps VD Calls

/-- In how many of the rounds a meets b. -/
def cnt (l : List (List Int)) (a b : Nat) : Nat := if a = b then 0 else (l.filter fun r => decide (r.getD a 0 = (b : Int))).length
/-- A table. -/
def tabOf (n : Nat) (g : Nat → Nat → Int) : List (List Int) := (List.range n).map fun a => (List.range n).map fun b => g a b
abbrev meetRow (n : Nat) (l : List (List Int)) (a : Nat) : List Int := (List.range n).map fun b => (cnt l a b : Int)
abbrev meetTab (n : Nat) (l : List (List Int)) : List (List Int) := tabOf n fun a b => (cnt l a b : Int)
end Go.Proofs.Ytlnohlomanapeaa

/- A part of the proof: P25. No conditions of its own. -/
namespace Go.Proofs.Ytlnohlomanapeaa
open Go.VL
attribute [local irreducible] VWr VOps VD Calls

/-- How often x and y are a pair. -/
def hits (ps : List (List Int)) (x y : Nat) : Nat := (ps.filter fun p => decide ((p.getD 0 0 = (x : Int) ∧ p.getD 1 0 = (y : Int)) ∨ (p.getD 0 0 = (y : Int) ∧ p.getD 1 0 = (x : Int)))).length
def sumF (f : Nat → Int) : Nat → Nat → Int
  | _, 0 => 0
  | s, n + 1 => f s + sumF f (s + 1) n
def sumL : List Int → Int
  | [] => 0
  | x :: l => x + sumL l
/-- What the entries with F tell, together. -/
def wts (F : List Int → Bool) (es : Ents) : List Int := es.map fun e => if F e.1 then e.2 else 0
/-- What the entry j adds to the place x, y. -/
def wt (es : Ents) (x y j : Nat) : Int := (wts (fun r => decide (x ≠ y ∧ r.getD x 0 = (y : Int))) es).getD j 0
/-- .. and the entries seen. -/
def seenSum (es : Ents) (seen : Array Nat) (x y : Nat) : Int := sumF (fun j => if seen.contains j then wt es x y j else 0) 0 es.length
def TabAt (ei : Nat) (tab : List (List Int)) (vs : List Value) (own : Own) : Prop := ∃ ns, Go.VL.RowsAt ei tab vs ns ∧ own.Perm ns.flatten
theorem TabAt.row {ei : Nat} {tab : List (List Int)} {vs : List Value} {own : Own} (h : TabAt ei tab vs own) {i : Nat} {row : List Int} (hi : tab[i]? = some row) (h0 : 0 < row.length) :
    ∃ br cap R, vs[i]? = some (.slice (some ⟨br, 0, none⟩) row.length cap) ∧ own.Perm ((br, ⟨ints row, ei, cap * 1, none⟩) :: R) ∧ row.length ≤ cap ∧ ∀ row' : List Int, row'.length = row.length → TabAt ei (tab.set i row') vs ((br, ⟨ints row', ei, cap * 1, none⟩) :: R) := by
  obtain ⟨ns, hR, hp⟩ := h
  obtain ⟨u, n, ns1, ns2, h1, rfl, h3, h4⟩ := RowsAt.split hR hi
  obtain ⟨p, cap, rfl⟩ := SlAt.form h3
  obtain ⟨br, rfl, rfl, hc1, hc2, _⟩ := NewF.blk (NewI.f h3) h0
  refine ⟨br, cap, ns1.flatten ++ ns2.flatten, h1, hp.trans ?_, hc1, fun row' hl => ⟨ns1 ++ [(br, ⟨ints row', ei, cap * 1, none⟩)] :: ns2, h4 _ _ ?_, ?_⟩⟩
  · rw [List.flatten_append, List.flatten_cons]; exact List.perm_middle
  · rw [← hl] at hc1 ⊢; exact NewI.lit rfl hc1 hc2
  · rw [List.flatten_append, List.flatten_cons]; exact List.perm_middle.symm
end Go.Proofs.Ytlnohlomanapeaa

/- A part of the proof: P30. No conditions of its own. -/
namespace Go.Proofs.Ytlnohlomanapeaa
open Go.VL
attribute [local irreducible] VWr VOps VD Calls

/-- The round whose turn it is, and the other one. -/
def cur (r q : List Int) (t : Nat) : List Int := if t % 2 = 0 then r else q
def oth (r q : List Int) (t : Nat) : List Int := if t % 2 = 0 then q else r
theorem cur_par {r q : List Int} {t s : Nat} (h : t % 2 = s % 2) : cur r q t = cur r q s := by unfold cur; rw [h]
def mv (r q : List Int) (t : Nat) (x : Int) : Int := (cur r q t).getD x.toNat 0
theorem mv_ok {n : Int} {r q : List Int} (hr : IsRd n r) (hq : IsRd n q) (t : Nat) {x : Int} (h0 : 0 ≤ x) (h1 : x < n) : 0 ≤ mv r q t x ∧ mv r q t x < n ∧ mv r q t (mv r q t x) = x := by
  have hc : IsRd n (cur r q t) := by unfold cur; split <;> assumption
  have h14 := hc.2.1
  have := (hc.2.2 x.toNat (by omega)).2 (by omega)
  unfold mv
  refine ⟨this.1, by omega, ?_⟩
  rw [this.2.2]; omega
/-- A chain of a, as far as it has come. -/
structure Ch (n : Int) (r q : List Int) (a : Int) (l : List Int) : Prop where
  ne : 0 < l.length
  first : l.getD 0 0 = a
  inn : ∀ x ∈ l, 0 ≤ x ∧ x < n
  step : ∀ i, i + 1 < l.length → l.getD (i + 1) 0 = mv r q i (l.getD i 0)
  nodup : l.Nodup
theorem getD_mem {l : List Int} {i : Nat} (h : i < l.length) : l.getD i 0 ∈ l := by
  rw [List.getD_eq_getElem?_getD, List.getElem?_eq_getElem h]; exact List.getElem_mem _
theorem getD_inj {l : List Int} (hn : l.Nodup) {i j : Nat} (hi : i < l.length) (hj : j < l.length) (h : l.getD i 0 = l.getD j 0) : i = j := by
  refine (List.getElem?_inj hi hn).1 ?_
  rw [List.getD_eq_getElem?_getD, List.getD_eq_getElem?_getD, List.getElem?_eq_getElem hi, List.getElem?_eq_getElem hj] at h
  rw [List.getElem?_eq_getElem hi, List.getElem?_eq_getElem hj]
  exact congrArg some h
theorem Ch.last {n : Int} {r q : List Int} {a : Int} {l : List Int} (h : Ch n r q a l) : 0 ≤ l.getD (l.length - 1) 0 ∧ l.getD (l.length - 1) 0 < n := h.inn _ (getD_mem (by have := h.ne; omega))
theorem getD_app {l : List Int} {x : Int} {i : Nat} (h : i < l.length) : (l ++ [x]).getD i 0 = l.getD i 0 := by
  rw [List.getD_eq_getElem?_getD, List.getElem?_append_left h, ← List.getD_eq_getElem?_getD]
theorem getD_end {l : List Int} {x : Int} {i : Nat} (h : i = l.length) : (l ++ [x]).getD i 0 = x := by
  subst h; rw [List.getD_eq_getElem?_getD, List.getElem?_append_right (Nat.le_refl _), Nat.sub_self]; rfl
theorem Ch.snoc {n : Int} {r q : List Int} (hr : IsRd n r) (hq : IsRd n q) {a x : Int} {l : List Int} (h : Ch n r q a l) (hx : x = mv r q (l.length - 1) (l.getD (l.length - 1) 0)) (hxa : x ≠ a) (hxl : x ≠ l.getD (l.length - 1) 0) : Ch n r q a (l ++ [x]) := by
  have hne := h.ne
  have hlast := h.last
  have hmv := mv_ok hr hq (l.length - 1) hlast.1 hlast.2
  have hnot : x ∉ l := fun hm => by
    obtain ⟨k, hk⟩ := List.mem_iff_getElem?.1 hm
    have hkl := (List.getElem?_eq_some_iff.1 hk).1
    have hkd : l.getD k 0 = x := by rw [List.getD_eq_getElem?_getD, hk]; rfl
    have hk0 : k ≠ 0 := fun e => hxa (by rw [← hkd, e, h.first])
    have hkm : k ≠ l.length - 1 := fun e => hxl (by rw [← hkd, e])
    have hback : mv r q (l.length - 1) x = l.getD (l.length - 1) 0 := by rw [hx]; exact hmv.2.2
    by_cases hp : (l.length - 1) % 2 = k % 2
    · have h1 := h.step k (by omega)
      have h2 : mv r q k (l.getD k 0) = l.getD (l.length - 1) 0 := by rw [hkd, ← hback]; unfold mv; rw [cur_par hp]
      have := getD_inj h.nodup (show k + 1 < l.length by omega) (show l.length - 1 < l.length by omega) (h1.trans h2)
      omega
    · have h1 := h.step (k - 1) (by omega)
      rw [show k - 1 + 1 = k by omega] at h1
      have hb := h.inn _ (getD_mem (show k - 1 < l.length by omega))
      have h3 := (mv_ok hr hq (k - 1) hb.1 hb.2).2.2
      rw [← h1, hkd] at h3
      have h4 : mv r q (k - 1) x = l.getD (l.length - 1) 0 := by rw [← hback]; unfold mv; rw [cur_par (show (k - 1) % 2 = (l.length - 1) % 2 by omega)]
      have := getD_inj h.nodup (show k - 1 < l.length by omega) (show l.length - 1 < l.length by omega) (h3.symm.trans h4)
      omega
  refine ⟨by simp, by rw [getD_app hne]; exact h.first, fun y hy => ?_, fun i hi => ?_, ?_⟩
  · rcases List.mem_append.1 hy with hy | hy
    · exact h.inn y hy
    · have : y = x := by simpa using hy
      rw [this, hx]; exact ⟨hmv.1, hmv.2.1⟩
  · rw [List.length_append] at hi
    simp only [List.length_cons, List.length_nil] at hi
    by_cases hil : i + 1 < l.length
    · rw [getD_app hil, getD_app (by omega)]; exact h.step i hil
    · rw [getD_end (by omega), getD_app (by omega), hx]
      rw [show l.length - 1 = i by omega]
  · rw [List.nodup_append]
    refine ⟨h.nodup, by simp, fun y hy z hz e => ?_⟩
    have : z = x := by simpa using hz
    subst this; subst e; exact hnot hy
theorem pigeon : ∀ (n : Nat) (l : List Int), l.Nodup → (∀ x ∈ l, 0 ≤ x ∧ x < (n : Int)) → l.length ≤ n
  | 0, l, _, h => by
    match l, h with
    | [], _ => exact Nat.le_refl _
    | x :: l, h => have := h x (by simp); omega
  | n + 1, l, hn, h => by
    by_cases hm : (n : Int) ∈ l
    · have h1 := pigeon n (l.erase (n : Int)) (hn.erase _) (fun x hx => by
        have hx2 := (hn.mem_erase_iff).1 hx
        have := h x hx2.2
        have hne := hx2.1
        omega)
      rw [List.length_erase_of_mem hm] at h1
      omega
    · have := pigeon n l hn (fun x hx => by
        have h1 := h x hx
        have h2 : x ≠ n := fun e => hm (e ▸ hx)
        omega)
      omega
def chainGo (r q : List Int) (a : Int) : Nat → List Int → List Int
  | 0, l => l
  | f + 1, l => if mv r q (l.length - 1) (l.getD (l.length - 1) 0) = a ∨ mv r q (l.length - 1) (l.getD (l.length - 1) 0) = l.getD (l.length - 1) 0 then l else chainGo r q a f (l ++ [mv r q (l.length - 1) (l.getD (l.length - 1) 0)])
/-- The chain of a. -/
def chain (r q : List Int) (a : Int) : List Int := chainGo r q a 15 [a]
theorem Ch.one {n : Int} {r q : List Int} {a : Int} (h0 : 0 ≤ a) (h1 : a < n) : Ch n r q a [a] := ⟨by simp, rfl, fun x hx => by
  have : x = a := by simpa using hx
  subst this; exact ⟨h0, h1⟩, fun i hi => by simp at hi, by simp⟩
end Go.Proofs.Ytlnohlomanapeaa

