import Derived.Test.YtngpongdpphncaaSK
import Derived.Test.YtngpongdpphncaaVLPost
import Derived.Test.YtngpongdpphncaaVLArr
/- Parts of the proof, one after another. No conditions of their own. -/
/- A part of the proof: R22. No conditions of its own. -/
-- FAST
namespace Go.Proofs.Ytngpongdpphncaa
open Go.VL
attribute [local irreducible] VWr VOps VD Calls

/-- What is taken stays as it is. -/
theorem place_fix {n : Int} {x : Nat} : ∀ (ps : List (List Int)) {r q : List Int}, r.length = 14 → n ≤ 14 → PairsOk n ps → x < 14 → r.getD x 0 ≠ x → place r ps = some q → q.getD x 0 = r.getD x 0
  | [], r, q, _, _, _, _, _, he => by
    have : r = q := by simpa [place] using he
    rw [this]
  | p :: ps, r, q, hr, hn, hp, hx, hne, he => by
    unfold place at he
    by_cases hc : canLay r p
    · rw [if_pos hc] at he
      obtain ⟨h2, ha, hb, hab⟩ := hp p (by simp)
      rw [pair_form h2] at he hc
      generalize p.getD 0 0 = a at *
      generalize p.getD 1 0 = b at *
      have hca : r.getD a.toNat 0 = a := hc.1
      have hcb : r.getD b.toNat 0 = b := hc.2
      have hg := lay_get hr (a := a) (b := b) (by omega) (by omega) x
      have e1 : (x : Int) ≠ b := fun e => hne (by have : x = b.toNat := by omega
                                                  rw [this, hcb]; omega)
      have e2 : (x : Int) ≠ a := fun e => hne (by have : x = a.toNat := by omega
                                                  rw [this, hca]; omega)
      rw [if_neg e1, if_neg e2] at hg
      rw [place_fix ps (by rw [lay_length]; exact hr) hn (fun y hy => hp y (by simp [hy])) hx (by rw [hg]; exact hne) he, hg]
    · rw [if_neg hc] at he; cases he
/-- The pairs meet. -/
theorem place_mem {n : Int} : ∀ (ps : List (List Int)) {r q : List Int} {a b : Int}, r.length = 14 → n ≤ 14 → PairsOk n ps → place r ps = some q → [a, b] ∈ ps → q.getD a.toNat 0 = b ∧ q.getD b.toNat 0 = a
  | [], r, q, a, b, _, _, _, _, h => by cases h
  | p :: ps, r, q, a, b, hr, hn, hp, he, h => by
    unfold place at he
    by_cases hc : canLay r p
    · rw [if_pos hc] at he
      rcases List.mem_cons.1 h with rfl | h
      · obtain ⟨_, ha, hb, hab⟩ := hp [a, b] (by simp)
        have ha' : 0 ≤ a ∧ a < n := ha
        have hb' : 0 ≤ b ∧ b < n := hb
        have hab' : a ≠ b := hab
        have hg := lay_get hr (a := a) (b := b) (by omega) (by omega)
        have g1 := hg a.toNat
        have g2 := hg b.toNat
        rw [if_neg (by omega), if_pos (by omega)] at g1
        rw [if_pos (by omega)] at g2
        have hl : (lay r [a, b]).length = 14 := by rw [lay_length]; exact hr
        rw [place_fix ps hl hn (fun y hy => hp y (by simp [hy])) (by omega) (by rw [g1]; omega) he, place_fix ps hl hn (fun y hy => hp y (by simp [hy])) (by omega) (by rw [g2]; omega) he]
        exact ⟨g1, g2⟩
      · exact place_mem ps (by rw [lay_length]; exact hr) hn (fun y hy => hp y (by simp [hy])) he h
    · rw [if_neg hc] at he; cases he
/-- Who is not free any more is in a pair. -/
theorem place_src {n : Int} {x : Nat} : ∀ (ps : List (List Int)) {r q : List Int}, r.length = 14 → n ≤ 14 → PairsOk n ps → x < 14 → place r ps = some q → q.getD x 0 ≠ r.getD x 0 → ∃ a b, [a, b] ∈ ps ∧ ((x : Int) = a ∨ (x : Int) = b)
  | [], r, q, _, _, _, _, he, hne => by
    have : r = q := by simpa [place] using he
    exact absurd (by rw [this]) hne
  | p :: ps, r, q, hr, hn, hp, hx, he, hne => by
    unfold place at he
    by_cases hc : canLay r p
    · rw [if_pos hc] at he
      obtain ⟨h2, ha, hb, hab⟩ := hp p (by simp)
      by_cases hin : (x : Int) = p.getD 0 0 ∨ (x : Int) = p.getD 1 0
      · exact ⟨_, _, by rw [← pair_form h2]; simp, hin⟩
      · have hpf := pair_form h2
        have hg := lay_get hr (a := p.getD 0 0) (b := p.getD 1 0) (by omega) (by omega) x
        rw [← hpf, if_neg (fun e => hin (.inr e)), if_neg (fun e => hin (.inl e))] at hg
        obtain ⟨a, b, h1, h3⟩ := place_src ps (by rw [lay_length]; exact hr) hn (fun y hy => hp y (by simp [hy])) hx he (by rw [hg]; exact hne)
        exact ⟨a, b, by simp [h1], h3⟩
    · rw [if_neg hc] at he; cases he
/-- Into numbers below k, each once: then all of them. -/
theorem onto_of_inj : ∀ (k : Nat) (f : Nat → Nat), (∀ x, x < k → f x < k) → (∀ x y, x < k → y < k → f x = f y → x = y) → ∀ z, z < k → ∃ x, x < k ∧ f x = z
  | 0, _, _, _, z, hz => by omega
  | k + 1, f, hf, hi, z, hz => by
    by_cases hzk : f k = z
    · exact ⟨k, by omega, hzk⟩
    have hfk := hf k (by omega)
    have := onto_of_inj k (fun x => if f x = k then f k else f x)
      (fun x hx => by
        show (if f x = k then f k else f x) < k
        by_cases h : f x = k
        · rw [if_pos h]
          have : f k ≠ k := fun e => by have := hi x k (by omega) (by omega) (by omega); omega
          omega
        · rw [if_neg h]; have := hf x (by omega); omega)
      (fun x y hx hy e => by
        have e' : (if f x = k then f k else f x) = (if f y = k then f k else f y) := e
        by_cases h1 : f x = k
        · by_cases h2 : f y = k
          · exact hi x y (by omega) (by omega) (by omega)
          · rw [if_pos h1, if_neg h2] at e'
            have := hi k y (by omega) (by omega) e'; omega
        · by_cases h2 : f y = k
          · rw [if_neg h1, if_pos h2] at e'
            have := hi x k (by omega) (by omega) e'; omega
          · rw [if_neg h1, if_neg h2] at e'
            exact hi x y (by omega) (by omega) e')
    by_cases hz2 : z = k
    · -- k is met by the one whose value k is
      by_cases hex : ∃ x, x < k ∧ f x = k
      · obtain ⟨x, hx, he⟩ := hex
        exact ⟨x, by omega, by omega⟩
      · -- then f maps k + 1 numbers below k, which the inner function shows to be met already
        have hlt : ∀ x, x < k → f x < k := fun x hx => by
          have := hf x (by omega)
          have : f x ≠ k := fun e => hex ⟨x, hx, e⟩
          omega
        obtain ⟨x, hx, he⟩ := onto_of_inj k f hlt (fun x y hx hy e => hi x y (by omega) (by omega) e) (f k) (by omega)
        have := hi x k (by omega) (by omega) he; omega
    · obtain ⟨x, hx, he⟩ := this z (by omega)
      have he' : (if f x = k then f k else f x) = z := he
      by_cases h : f x = k
      · rw [if_pos h] at he'; exact absurd he' hzk
      · rw [if_neg h] at he'; exact ⟨x, by omega, he'⟩

/-! where the greatest team meets -/
theorem rowPairs_at {k : Nat} {g : Nat → Int} {j : Nat} (hj : j < k) (hx : g j ≠ -1) : [cLow (g j), cHigh (g j)] ∈ rowPairs (lst k g) :=
  List.mem_map.2 ⟨g j, List.mem_filter.2 ⟨List.mem_map.2 ⟨j, List.mem_range.2 hj, rfl⟩, by simpa using hx⟩, rfl⟩
theorem rowPairs_from {k : Nat} {g : Nat → Int} {p : List Int} (h : p ∈ rowPairs (lst k g)) : ∃ j, j < k ∧ g j ≠ -1 ∧ p = [cLow (g j), cHigh (g j)] := by
  obtain ⟨x, hx, rfl⟩ := List.mem_map.1 h
  obtain ⟨h1, h2⟩ := List.mem_filter.1 hx
  obtain ⟨j, hj, rfl⟩ := lst_mem h1
  exact ⟨j, hj, by simpa using h2, rfl⟩
/-- The row i has the greatest team with a just where its round has it. -/
theorem top_iff {k : Nat} {ls : List (List Int)} (h : IsSq k ls) (hr : Rows ((k : Int) + 1) ls) {i a : Nat} (hi : i < k) (ha : a < k) :
    (rowR ((k : Int) + 1) (lst k (at2 ls i))).getD k 0 = a ↔ ∃ j, j < k ∧ at2 ls i j = 14 * (a : Int) + k := by
  have hk1 := h.1
  have hk13 := h.2.1
  have hrow := h.row (i := i) (by omega)
  rw [Int.toNat_natCast] at hrow
  have hmem := List.mem_of_getElem? hrow
  obtain ⟨hpo, _⟩ := rowPairs_ok hk13 (h.2.2.2.2 _ hmem)
  cases hq : rowRd ((k : Int) + 1) (lst k (at2 ls i)) with
  | none => exact absurd hq (hr _ hmem)
  | some q =>
    unfold rowR; rw [hq]
    show q.getD k 0 = a ↔ _
    have hf := freeTo_length ((k : Int) + 1)
    constructor
    · intro e
      obtain ⟨x, y, hxy, hk⟩ := place_src (x := k) _ hf (by omega) hpo (by omega) hq (by rw [freeTo_get _ _ (by omega), if_pos (by omega), e]; omega)
      obtain ⟨j, hj, hne, hpe⟩ := rowPairs_from hxy
      have hdm := (h.cell (i := i) (j := j) (by omega) (by omega)).dm hk13 hne
      have hx : x = cLow (at2 ls i j) := (List.cons.inj hpe).1
      have hy : y = cHigh (at2 ls i j) := (List.cons.inj (List.cons.inj hpe).2).1
      have hyk : y = k := by omega
      have hm := (place_mem _ hf (by omega) hpo hq hxy).2
      have e2 : q.getD y.toNat 0 = (a : Int) := by rw [hyk, Int.toNat_natCast, e]
      refine ⟨j, hj, ?_⟩
      rw [e2] at hm
      omega
    · rintro ⟨j, hj, e⟩
      have hne : at2 ls i j ≠ -1 := by omega
      have hdm := (h.cell (i := i) (j := j) (by omega) (by omega)).dm hk13 hne
      have hm := (place_mem _ hf (by omega) hpo hq (rowPairs_at hj hne)).2
      have e1 : cHigh (at2 ls i j) = k := by omega
      have e2 : cLow (at2 ls i j) = a := by omega
      rw [e1, e2, Int.toNat_natCast] at hm
      exact hm
/-- In a row the greatest team is once. -/
theorem top_once {k : Nat} {ls : List (List Int)} (h : IsSq k ls) (hr : Rows ((k : Int) + 1) ls) {i j j' a a' : Nat} (hi : i < k) (hj : j < k) (hj' : j' < k) (ha : a < k) (ha' : a' < k) (e : at2 ls i j = 14 * (a : Int) + k) (e' : at2 ls i j' = 14 * (a' : Int) + k) : j = j' := by
  have key : ∀ {j j' a a' : Nat}, j < j' → j' < k → a < k → a' < k → at2 ls i j = 14 * (a : Int) + k → at2 ls i j' = 14 * (a' : Int) + k → False := by
    intro j j' a a' hlt hj' ha ha' e e'
    have hk1 := h.1
    have hk13 := h.2.1
    have hrow := h.row (i := i) (by omega)
    rw [Int.toNat_natCast] at hrow
    have hmem := List.mem_of_getElem? hrow
    have hne := hr _ hmem
    have htk : (lst k (at2 ls i)).take j' = lst j' (at2 ls i) := by
      unfold lst; rw [← List.map_take, List.take_range, Nat.min_eq_left (by omega)]
    cases hq : rowRd ((k : Int) + 1) ((lst k (at2 ls i)).take j') with
    | none => exact hne (rowRd_cut hq)
    | some q =>
      have hst := rowRd_step (x := at2 ls i j') (by rw [lst_get hj']) hq
      have hne2 : at2 ls i j' ≠ -1 := by omega
      have hne1 : at2 ls i j ≠ -1 := by omega
      have hd' := (h.cell (i := i) (j := j') (by omega) (by omega)).dm hk13 hne2
      have hd := (h.cell (i := i) (j := j) (by omega) (by omega)).dm hk13 hne1
      rw [if_neg hne2] at hst
      rw [htk] at hq
      have hpo : PairsOk ((k : Int) + 1) (rowPairs (lst j' (at2 ls i))) := fun p hp => by
        obtain ⟨y, hy, _, rfl⟩ := rowPairs_from hp
        refine (rowPairs_ok hk13 (h.2.2.2.2 _ hmem)).1 _ (rowPairs_at (by omega) (by assumption))
      have hm := (place_mem _ (freeTo_length _) (by omega) hpo hq (rowPairs_at hlt hne1)).2
      have eh : cHigh (at2 ls i j) = k := by omega
      rw [eh, Int.toNat_natCast] at hm
      have hncl : ¬ canLay q [cLow (at2 ls i j'), cHigh (at2 ls i j')] := fun hc => by
        have h2 : q.getD (cHigh (at2 ls i j')).toNat 0 = cHigh (at2 ls i j') := hc.2
        have eh' : cHigh (at2 ls i j') = k := by omega
        rw [eh', Int.toNat_natCast, hm] at h2; omega
      rw [if_neg hncl] at hst
      exact hne (rowRd_cut hst)
  rcases Nat.lt_trichotomy j j' with h1 | h1 | h1
  · exact (key h1 hj' ha ha' e e').elim
  · exact h1
  · exact (key h1 hj ha' ha e' e).elim
end Go.Proofs.Ytngpongdpphncaa

/- A part of the proof: R23. No conditions of its own. -/
-- FAST
namespace Go.Proofs.Ytngpongdpphncaa
open Go.VL
attribute [local irreducible] VWr VOps VD Calls

theorem filter_one {α : Type} {p : α → Bool} : ∀ {l : List α}, (l.filter p).length = 1 → ∃ (i : Nat) (x : α), l[i]? = some x ∧ p x = true ∧ ∀ (i' : Nat) (x' : α), l[i']? = some x' → p x' = true → i' = i
  | [], h => by simp at h
  | a :: t, h => by
    by_cases ha : p a = true
    · rw [List.filter_cons, if_pos ha, List.length_cons] at h
      have ht : t.filter p = [] := List.eq_nil_of_length_eq_zero (by omega)
      refine ⟨0, a, rfl, ha, fun i' x' hi hx => ?_⟩
      cases i' with
      | zero => rfl
      | succ i =>
        have := List.mem_of_getElem? (show t[i]? = some x' by simpa using hi)
        have : x' ∈ t.filter p := List.mem_filter.2 ⟨this, hx⟩
        rw [ht] at this; cases this
    · rw [List.filter_cons, if_neg ha] at h
      obtain ⟨i, x, h1, h2, h3⟩ := filter_one h
      refine ⟨i + 1, x, by simpa using h1, h2, fun i' x' hi hx => ?_⟩
      cases i' with
      | zero =>
        have : a = x' := by simpa using hi
        rw [this] at ha; exact absurd hx ha
      | succ i' => rw [h3 i' x' (by simpa using hi) hx]
theorem top_row {k : Nat} {ls : List (List Int)} (h : IsSq k ls) (hr : Rows ((k : Int) + 1) ls) (hm : AllMeet (k + 1) (rowsTab ((k : Int) + 1) ls)) {a : Nat} (ha : a < k) :
    ∃ i j, i < k ∧ j < k ∧ at2 ls i j = 14 * (a : Int) + k ∧ ∀ i' j', i' < k → j' < k → at2 ls i' j' = 14 * (a : Int) + k → i' = i := by
  have hc := hm.2 k a (by omega) (by omega) (by omega)
  unfold cnt at hc
  rw [if_neg (by omega)] at hc
  obtain ⟨i, x, h1, h2, h3⟩ := filter_one hc
  have hln : ls.length = k := by have := h.2.2.2.1; omega
  have hrow : ∀ i, i < k → (rowsTab ((k : Int) + 1) ls)[i]? = some (rowR ((k : Int) + 1) (lst k (at2 ls i))) := fun i hi => by
    have := h.row (i := i) (by omega)
    rw [Int.toNat_natCast] at this
    unfold rowsTab; rw [List.getElem?_map, this]; rfl
  have hik : i < k := by
    have := (List.getElem?_eq_some_iff.1 h1).1
    unfold rowsTab at this; rw [List.length_map] at this; omega
  have e := h1; rw [hrow i hik] at e
  have ex := (Option.some.inj e).symm
  have h2' : x.getD k 0 = (a : Int) := by simpa using h2
  rw [ex] at h2'
  obtain ⟨j, hj, hat⟩ := (top_iff h hr hik ha).1 h2'
  refine ⟨i, j, hik, hj, hat, fun i' j' hi' hj' hat' => ?_⟩
  exact h3 i' _ (hrow i' hi') (by simpa using (top_iff h hr hi' ha).2 ⟨j', hj', hat'⟩)
theorem at2_transp {k i j : Nat} {ls : List (List Int)} (hi : i < k) (hj : j < k) : at2 (transp k ls) i j = at2 ls j i := by
  unfold transp; rw [Int.toNat_natCast, at2_tab hi hj]
open Classical in
/-- Where the greatest team meets a. -/
noncomputable def topP (k : Nat) (ls : List (List Int)) (a : Nat) : Nat × Nat :=
  if h : ∃ p : Nat × Nat, p.1 < k ∧ p.2 < k ∧ at2 ls p.1 p.2 = 14 * (a : Int) + k then Classical.choose h else (0, 0)
theorem top_facts {k : Nat} {ls : List (List Int)} (h : IsSq k ls) (hR : RoomP k ls) {a : Nat} (ha : a < k) :
    (topP k ls a).1 < k ∧ (topP k ls a).2 < k ∧ at2 ls (topP k ls a).1 (topP k ls a).2 = 14 * (a : Int) + k ∧ ∀ i j, i < k → j < k → at2 ls i j = 14 * (a : Int) + k → i = (topP k ls a).1 ∧ j = (topP k ls a).2 := by
  obtain ⟨i, j, hi, hj, hat, hu⟩ := top_row h hR.1.1 hR.2.1 ha
  obtain ⟨j2, i2, hj2, hi2, hat2, hu2⟩ := top_row h.transp hR.1.2 hR.2.2 ha
  have hex : ∃ p : Nat × Nat, p.1 < k ∧ p.2 < k ∧ at2 ls p.1 p.2 = 14 * (a : Int) + k := ⟨(i, j), hi, hj, hat⟩
  have hp : topP k ls a = Classical.choose hex := by unfold topP; rw [dif_pos hex]
  obtain ⟨g1, g2, g3⟩ := Classical.choose_spec hex
  rw [← hp] at g1 g2 g3
  refine ⟨g1, g2, g3, fun i' j' hi' hj' he => ⟨?_, ?_⟩⟩
  · rw [hu i' j' hi' hj' he, hu _ _ g1 g2 g3]
  · rw [hu2 j' i' hj' hi' (by rw [at2_transp hj' hi']; exact he), hu2 _ _ g2 g1 (by rw [at2_transp g2 g1]; exact g3)]
theorem top_rows {k : Nat} {ls : List (List Int)} (h : IsSq k ls) (hR : RoomP k ls) {i : Nat} (hi : i < k) : ∃ a, a < k ∧ (topP k ls a).1 = i := by
  refine onto_of_inj k (fun a => (topP k ls a).1) (fun a ha => (top_facts h hR ha).1) (fun a b ha hb e => ?_) i hi
  obtain ⟨a1, a2, a3, _⟩ := top_facts h hR ha
  obtain ⟨b1, b2, b3, _⟩ := top_facts h hR hb
  have e' : (topP k ls a).1 = (topP k ls b).1 := e
  rw [e'] at a3
  have := top_once h hR.1.1 b1 a2 b2 ha hb a3 b3
  rw [this, b3] at a3; omega
theorem top_cols {k : Nat} {ls : List (List Int)} (h : IsSq k ls) (hR : RoomP k ls) {j : Nat} (hj : j < k) : ∃ a, a < k ∧ (topP k ls a).2 = j := by
  refine onto_of_inj k (fun a => (topP k ls a).2) (fun a ha => (top_facts h hR ha).2.1) (fun a b ha hb e => ?_) j hj
  obtain ⟨a1, a2, a3, _⟩ := top_facts h hR ha
  obtain ⟨b1, b2, b3, _⟩ := top_facts h hR hb
  have e' : (topP k ls a).2 = (topP k ls b).2 := e
  rw [e'] at a3
  have := top_once h.transp hR.1.2 b2 a1 b1 ha hb (by rw [at2_transp b2 a1]; exact a3) (by rw [at2_transp b2 b1]; exact b3)
  rw [this, b3] at a3; omega
open Classical in
noncomputable def formR (m : Int) (ls : List (List Int)) : (Int × List (List Int)) × Int :=
  if IsSq m ls then (if RoomP m.toNat ls then ((m, tabN m.toNat m.toNat fun p q => at2 ls (topP m.toNat ls p).1 (topP m.toNat ls q).2), 0) else ((0, []), 5)) else ((0, []), 1)
theorem formR_ok (m : Int) (ls : List (List Int)) : (formR m ls).1.2.length ≤ 1048576 ∧ (∀ l ∈ (formR m ls).1.2, l.length ≤ 1048576) ∧ sumLen (formR m ls).1.2 ≤ 1048576 := by
  unfold formR
  split
  · rename_i h
    have h1 := h.1
    have h13 := h.2.1
    split
    · refine ⟨by show (tabN _ _ _).length ≤ _; rw [tabN_length]; omega, fun l hl => ?_, ?_⟩
      · obtain ⟨i, _, rfl⟩ := tabN_mem (show l ∈ tabN _ _ _ from hl); rw [lst_length]; omega
      · show sumLen (tabN _ _ _) ≤ _
        rw [sumLen_tab]
        have := mul_le13 (i := m.toNat) (k := m.toNat) (by omega) (by omega); omega
    · simp [sumLen]
  · simp [sumLen]
end Go.Proofs.Ytngpongdpphncaa

