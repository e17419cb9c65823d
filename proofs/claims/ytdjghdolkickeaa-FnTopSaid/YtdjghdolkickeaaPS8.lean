import Derived.Test.YtdjghdolkickeaaP15
import Derived.Test.YtdjghdolkickeaaP14
import Derived.Test.YtdjghdolkickeaaVLArr
/- A part of the proof: PS8. No conditions of its own. -/
namespace Go.Proofs.Ytdjghdolkickeaa
open Go.VL
attribute [local irreducible] VWr VOps VD Calls

theorem circ_rd : ∀ k : Nat, k < 15 → 2 ≤ k → ∀ i : Nat, i < 14 → (i : Int) < robinR k → IsRd (k : Int) (circRow k i) := by decide +kernel
theorem circ_sch {n : Int} (h2 : 2 ≤ n) (h14 : n ≤ 14) : IsSch n (circRows n) := by
  obtain ⟨k, rfl⟩ : ∃ k : Nat, n = (k : Int) := ⟨n.toNat, by omega⟩
  refine ⟨h2, h14, by rw [circRows_length]; unfold robinR; omega, fun i r hi => ?_⟩
  have hlt : i < (circRows k).length := (List.getElem?_eq_some_iff.1 hi).1
  rw [circRows_length] at hlt
  unfold circRows at hi
  rw [List.getElem?_map, List.getElem?_range hlt] at hi
  obtain rfl : circRow k i = r := by simpa using hi
  exact circ_rd k (by omega) (by omega) i (by unfold robinR at hlt; omega) (by omega)
theorem reord_sch {n : Int} {rs : List (List Int)} {q : List Int} (h : IsSch n rs) (hl : q.length ≤ 40) (hq : ∀ x ∈ q, 0 ≤ x ∧ x < rs.length) : IsSch n (reord rs q) := by
  refine ⟨h.1, h.2.1, by rw [reord_length]; exact hl, fun i r hi => ?_⟩
  have hlt : i < q.length := by have := (List.getElem?_eq_some_iff.1 hi).1; rwa [reord_length] at this
  have hx := hq _ (mem_getD hlt)
  obtain ⟨r', hr'⟩ : ∃ r', rs[(q.getD i 0).toNat]? = some r' := ⟨_, List.getElem?_eq_getElem (by omega)⟩
  rw [reord_get hlt hr'] at hi
  obtain rfl := Option.some.inj hi
  exact h.2.2.2 _ _ hr'
theorem getD_setP (l : List Int) (i j : Nat) (x : Int) : (l.set i x).getD j 0 = if i = j ∧ i < l.length then x else l.getD j 0 := by
  rw [List.getD_eq_getElem?_getD, List.getElem?_set, List.getD_eq_getElem?_getD]
  by_cases h : i = j
  · subst h
    rw [if_pos rfl]
    by_cases h2 : i < l.length
    · rw [if_pos h2, if_pos ⟨rfl, h2⟩]; rfl
    · rw [if_neg h2, if_neg (fun e => h2 e.2), List.getElem?_eq_none (by omega)]
  · rw [if_neg h, if_neg (fun e => h e.1)]
theorem nodup_getDP {l : List Int} (h : l.Nodup) {i j : Nat} (hi : i < l.length) (hj : j < l.length) (hij : i ≠ j) : l.getD i 0 ≠ l.getD j 0 := by
  have key : ∀ a b : Nat, a < b → b < l.length → l.getD a 0 ≠ l.getD b 0 := fun a b hab hb e => by
    refine List.pairwise_iff_getElem.1 h a b (by omega) hb hab ?_
    rw [List.getD_eq_getElem?_getD, List.getD_eq_getElem?_getD, List.getElem?_eq_getElem (by omega), List.getElem?_eq_getElem hb] at e
    exact e
  rcases Nat.lt_or_gt_of_ne hij with h1 | h1
  · exact key i j h1 hj
  · exact fun e => key j i h1 hi e.symm
/-- Into numbers below k, each once: then all of them. -/
theorem onto_inj : ∀ (k : Nat) (f : Nat → Nat), (∀ x, x < k → f x < k) → (∀ x y, x < k → y < k → f x = f y → x = y) → ∀ z, z < k → ∃ x, x < k ∧ f x = z
  | 0, _, _, _, z, hz => by omega
  | k + 1, f, hf, hi, z, hz => by
    by_cases hzk : f k = z
    · exact ⟨k, by omega, hzk⟩
    have hfk := hf k (by omega)
    have := onto_inj k (fun x => if f x = k then f k else f x)
      (fun x hx => by
        show (if f x = k then f k else f x) < k
        by_cases h : f x = k
        · rw [if_pos h]
          have : f k ≠ k := fun e => by have := hi x k (by omega) (by omega) (by omega); omega
          omega
        · rw [if_neg h]; have := hf x (by omega); omega)
      (fun x y hx hy e => by
        have e' : (if f x = k then f k else f x) = (if f y = k then f k else f y) := e
        by_cases h1 : f x = k
        · by_cases h2 : f y = k
          · exact hi x y (by omega) (by omega) (by omega)
          · rw [if_pos h1, if_neg h2] at e'
            have := hi k y (by omega) (by omega) e'; omega
        · by_cases h2 : f y = k
          · rw [if_neg h1, if_pos h2] at e'
            have := hi x k (by omega) (by omega) e'; omega
          · rw [if_neg h1, if_neg h2] at e'
            exact hi x y (by omega) (by omega) e')
    by_cases hz2 : z = k
    · -- k is met by the one whose value k is
      by_cases hex : ∃ x, x < k ∧ f x = k
      · obtain ⟨x, hx, he⟩ := hex
        exact ⟨x, by omega, by omega⟩
      · -- then f maps k + 1 numbers below k, which the inner function shows to be met already
        have hlt : ∀ x, x < k → f x < k := fun x hx => by
          have := hf x (by omega)
          have : f x ≠ k := fun e => hex ⟨x, hx, e⟩
          omega
        obtain ⟨x, hx, he⟩ := onto_inj k f hlt (fun x y hx hy e => hi x y (by omega) (by omega) e) (f k) (by omega)
        have := hi x k (by omega) (by omega) he; omega
    · obtain ⟨x, hx, he⟩ := this z (by omega)
      have he' : (if f x = k then f k else f x) = z := he
      by_cases h : f x = k
      · rw [if_pos h] at he'; exact absurd he' hzk
      · rw [if_neg h] at he'; exact ⟨x, by omega, he'⟩

theorem rep_getD (m x : Nat) : (List.replicate m (0 : Int)).getD x 0 = 0 := by
  rw [List.getD_eq_getElem?_getD, List.getElem?_replicate]; split <;> rfl
theorem renTo_at {n : Int} {p r : List Int} (hn : n ≤ 14) (hp : IsPerm n p) {a : Nat} (ha : (a : Int) < n) : ∀ k : Nat, (k : Int) ≤ n → (renTo p r k).getD (p.getD a 0).toNat 0 = if a < k then p.getD (r.getD a 0).toNat 0 else 0
  | 0, _ => by
    rw [if_neg (by omega), renTo]
    exact rep_getD _ _
  | k + 1, hk => by
    have hl := hp.1
    have pa := hp.2.1 _ (mem_getD (l := p) (i := a) (by omega))
    have pk := hp.2.1 _ (mem_getD (l := p) (i := k) (by omega))
    rw [renTo, getD_setP, renTo_length, renTo_at hn hp ha k (by omega)]
    by_cases hak : a = k
    · subst hak
      rw [if_pos ⟨rfl, by omega⟩, if_pos (by omega)]
    · have hne := nodup_getDP hp.2.2 (i := a) (j := k) (by omega) (by omega) hak
      rw [if_neg fun e => hne (by omega)]
      by_cases hlt : a < k
      · rw [if_pos hlt, if_pos (by omega)]
      · rw [if_neg hlt, if_neg (by omega)]
theorem renTo_hi {n : Int} {p r : List Int} (hp : IsPerm n p) {x : Nat} (hx : n ≤ x) : ∀ k : Nat, (k : Int) ≤ n → (renTo p r k).getD x 0 = 0
  | 0, _ => by
    rw [renTo]
    exact rep_getD _ _
  | k + 1, hk => by
    have hl := hp.1
    have pk := hp.2.1 _ (mem_getD (l := p) (i := k) (by omega))
    rw [renTo, getD_setP, if_neg fun e => by omega]
    exact renTo_hi hp hx k (by omega)
theorem renTo_rd {n : Int} {p r : List Int} (hp : IsPerm n p) (h : IsRd n r) : IsRd n (renTo p r n.toNat) := by
  obtain ⟨h2, h14, hall⟩ := h
  have hl := hp.1
  refine ⟨h2, h14, fun x hx => ⟨fun hnx => renTo_hi hp hnx _ (by omega), fun hxn => ?_⟩⟩
  obtain ⟨a, ha, hax⟩ := onto_inj n.toNat (fun a => (p.getD a 0).toNat) (fun a ha => by
      have := hp.2.1 _ (mem_getD (l := p) (i := a) (by omega)); show (p.getD a 0).toNat < _; omega)
    (fun a b ha hb e => by
      have pa := hp.2.1 _ (mem_getD (l := p) (i := a) (by omega))
      have pb := hp.2.1 _ (mem_getD (l := p) (i := b) (by omega))
      have e' : (p.getD a 0).toNat = (p.getD b 0).toNat := e
      by_cases hab : a = b
      · exact hab
      · exact absurd (show p.getD a 0 = p.getD b 0 by omega) (nodup_getDP hp.2.2 (by omega) (by omega) hab)) x (by omega)
  have hax' : (p.getD a 0).toNat = x := hax
  have pa := hp.2.1 _ (mem_getD (l := p) (i := a) (by omega))
  obtain ⟨b0, b1, b2⟩ := (hall a (by omega)).2 (by omega)
  have hat := renTo_at (r := r) h14 hp (a := a) (by omega) n.toNat (by omega)
  rw [hax', if_pos ha] at hat
  rw [hat]
  have pb := hp.2.1 _ (mem_getD (l := p) (i := (r.getD a 0).toNat) (by omega))
  have hbt := renTo_at (r := r) h14 hp (a := (r.getD a 0).toNat) (by omega) n.toNat (by omega)
  rw [if_pos (by omega), b2, Int.toNat_natCast] at hbt
  exact ⟨pb.1, by omega, by rw [hbt]; omega⟩
theorem renamed_sch {n : Int} {p : List Int} {rs : List (List Int)} (hp : IsPerm n p) (h : IsSch n rs) : IsSch n (renamed n p rs) := by
  refine ⟨h.1, h.2.1, by rw [renamed_length]; exact h.2.2.1, fun i r hi => ?_⟩
  unfold renamed at hi
  rw [List.getElem?_map] at hi
  obtain ⟨r', hr', rfl⟩ := Option.map_eq_some_iff.1 hi
  exact renTo_rd hp (h.2.2.2 _ _ hr')
end Go.Proofs.Ytdjghdolkickeaa
