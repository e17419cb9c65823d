import Derived.Test.YtgaaiplodbnnjaaDoorSQ
import Derived.Test.YtgaaiplodbnnjaaDoorSX
import Derived.Test.YtgaaiplodbnnjaaDoorSY
import Derived.Test.YtgaaiplodbnnjaaDoorHW
/- A part of the proof: Z1. No conditions of its own. -/
namespace Go.Proofs.YtgaaiplodbnnjaaDoor
open Go.VL
/-! The round r of a starter's schedule: its pairs meet every team, so laying them over zeros gives what laying them over free teams gives. -/
theorem lay_at (r p : List Int) (k : Nat) : (lay r p)[k]? = if k = (p.getD 1 0).toNat ∧ k < r.length then some (p.getD 0 0) else if k = (p.getD 0 0).toNat ∧ k < r.length then some (p.getD 1 0) else r[k]? := by
  unfold lay
  rw [List.getElem?_set, List.getElem?_set, List.length_set]
  by_cases h1 : (p.getD 1 0).toNat = k
  · by_cases h2 : k < r.length
    · rw [if_pos h1, if_pos (by omega), if_pos ⟨h1.symm, h2⟩]
    · rw [if_pos h1, if_neg (by omega), if_neg (by omega), if_neg (by omega)]
      exact (List.getElem?_eq_none (by omega)).symm
  · rw [if_neg h1, if_neg (show ¬(k = (p.getD 1 0).toNat ∧ k < r.length) by omega)]
    by_cases h0 : (p.getD 0 0).toNat = k
    · by_cases h2 : k < r.length
      · rw [if_pos h0, if_pos (by omega), if_pos ⟨h0.symm, h2⟩]
      · rw [if_pos h0, if_neg (by omega), if_neg (by omega)]
        exact (List.getElem?_eq_none (by omega)).symm
    · rw [if_neg h0, if_neg (show ¬(k = (p.getD 0 0).toNat ∧ k < r.length) by omega)]
theorem layAll_agree : ∀ (ls : List (List Int)) (r s : List Int), r.length = s.length → (∀ k : Nat, r[k]? = s[k]? ∨ ∃ p ∈ ls, k = (p.getD 0 0).toNat ∨ k = (p.getD 1 0).toNat) → layAll r ls = layAll s ls
  | [], r, s, _, h => List.ext_getElem? fun k => (h k).resolve_right (by rintro ⟨p, hp, _⟩; cases hp)
  | p :: ps, r, s, hl, h => by
    refine layAll_agree ps (lay r p) (lay s p) (by rw [lay_length, lay_length, hl]) fun k => ?_
    rcases h k with h1 | ⟨q, hq, hk⟩
    · left; rw [lay_at, lay_at, h1, hl]
    · rcases List.mem_cons.1 hq with rfl | hq
      · left
        rw [lay_at, lay_at, hl]
        by_cases hks : k < s.length
        · rcases hk with h0 | h1
          · by_cases h1 : k = (q.getD 1 0).toNat
            · rw [if_pos ⟨h1, hks⟩, if_pos ⟨h1, hks⟩]
            · rw [if_neg (show ¬(k = (q.getD 1 0).toNat ∧ k < s.length) from fun hh => h1 hh.1), if_pos ⟨h0, hks⟩, if_neg (show ¬(k = (q.getD 1 0).toNat ∧ k < s.length) from fun hh => h1 hh.1), if_pos ⟨h0, hks⟩]
          · rw [if_pos ⟨h1, hks⟩, if_pos ⟨h1, hks⟩]
        · rw [if_neg (fun hh => hks hh.2), if_neg (fun hh => hks hh.2), if_neg (fun hh => hks hh.2), if_neg (fun hh => hks hh.2), List.getElem?_eq_none (by omega), List.getElem?_eq_none (by omega)]
      · exact .inr ⟨q, hq, hk⟩
/-- The pairs of the round r. -/
def turnOf (M : Nat) (ls : List (List Int)) (r : Nat) : List (List Int) := [(M : Int), (r : Int)] :: ls.map fun p => [(p.getD 0 0 + r) % M, (p.getD 1 0 + r) % M]
theorem used_len {ls : List (List Int)} : ∀ i, i ≤ ls.length → (∀ p ∈ ls, p.length = 2) → (usedOf ls i).length = 2 * i
  | 0, _, _ => by rw [usedOf_zero]; rfl
  | i + 1, h, hp => by
    have hg : ls[i]? = some (ls[i]'(by omega)) := List.getElem?_eq_getElem (by omega)
    rw [usedOf_step hg (hp _ (List.getElem_mem _)), List.length_append, List.length_append, used_len i (by omega) hp]
    simp; omega
theorem used_nodup {m : Int} {ls : List (List Int)} (hs : ∀ (i : Nat) (p : List Int), ls[i]? = some p → StAt m ls i p) (hp : ∀ p ∈ ls, p.length = 2) : ∀ i, i ≤ ls.length → (usedOf ls i).Nodup
  | 0, _ => by rw [usedOf_zero]; exact List.nodup_nil
  | i + 1, h => by
    have hg : ls[i]? = some (ls[i]'(by omega)) := List.getElem?_eq_getElem (by omega)
    obtain ⟨h1, _, h3, h4, _⟩ := hs i _ hg
    rw [usedOf_step hg (hp _ (List.getElem_mem _)), List.append_assoc]
    refine List.nodup_append.2 ⟨used_nodup hs hp i (by omega), ?_, ?_⟩
    · show [_, _].Nodup
      exact List.nodup_cons.2 ⟨fun h => by have := List.mem_singleton.1 h; omega, List.nodup_cons.2 ⟨List.not_mem_nil, List.nodup_nil⟩⟩
    · intro a ha b hb hab
      subst hab
      simp only [List.cons_append, List.nil_append, List.mem_cons, List.not_mem_nil, or_false] at hb
      rcases hb with rfl | rfl
      · exact h3 ha
      · exact h4 ha
theorem used_mem {ls : List (List Int)} (hp : ∀ p ∈ ls, p.length = 2) {x : Int} : ∀ i, i ≤ ls.length → x ∈ usedOf ls i → ∃ p ∈ ls, x = p.getD 0 0 ∨ x = p.getD 1 0
  | 0, _, h => by rw [usedOf_zero] at h; cases h
  | i + 1, hi, h => by
    have hg : ls[i]? = some (ls[i]'(by omega)) := List.getElem?_eq_getElem (by omega)
    rw [usedOf_step hg (hp _ (List.getElem_mem _)), List.mem_append, List.mem_append] at h
    rcases h with (h | h) | h
    · exact used_mem hp i (by omega) h
    · exact ⟨_, List.getElem_mem (show i < ls.length by omega), .inl (List.mem_singleton.1 h)⟩
    · exact ⟨_, List.getElem_mem (show i < ls.length by omega), .inr (List.mem_singleton.1 h)⟩
/-- A starter's pairs hold every number but 0. -/
theorem starter_all {M : Nat} {ls : List (List Int)} (hm : IsMod M) (hp : PairsQ M ls) (hs : Starter M ls) {a : Int} (ha : 1 ≤ a ∧ a < M) : ∃ p ∈ ls, a = p.getD 0 0 ∨ a = p.getD 1 0 := by
  have h2 : ∀ p ∈ ls, p.length = 2 := fun p h => by
    obtain ⟨i, hi, rfl⟩ := List.getElem_of_mem h
    exact (hp i _ (List.getElem?_eq_getElem hi)).1.1
  have hn := used_nodup hs.2 h2 ls.length (Nat.le_refl _)
  have hl := used_len ls.length (Nat.le_refl _) h2
  by_cases hin : a ∈ usedOf ls ls.length
  · exact used_mem h2 _ (Nat.le_refl _) hin
  exfalso
  have hrange : ∀ x ∈ usedOf ls ls.length, 1 ≤ x ∧ x < M := fun x hx => by
    obtain ⟨p, hpm, hxp⟩ := used_mem h2 _ (Nat.le_refl _) hx
    obtain ⟨i, hi, rfl⟩ := List.getElem_of_mem hpm
    obtain ⟨⟨hl2, hr⟩, _⟩ := hp i _ (List.getElem?_eq_getElem hi)
    have a0 := hr 0 (by omega)
    have a1 := hr 1 (by omega)
    rcases hxp with rfl | rfl
    · exact a0
    · exact a1
  have hc : (0 :: a :: usedOf ls ls.length).Nodup := by
    refine List.nodup_cons.2 ⟨fun h => ?_, List.nodup_cons.2 ⟨hin, hn⟩⟩
    rcases List.mem_cons.1 h with h | h
    · omega
    · have := hrange _ h; omega
  have := pigeon M _ hc (fun x hx => by
    rcases List.mem_cons.1 hx with rfl | hx
    · have := hm.1; omega
    · rcases List.mem_cons.1 hx with rfl | hx
      · omega
      · have := hrange _ hx; omega)
  simp only [List.length_cons] at this
  have hh := hs.1
  have := hm.2.2
  omega
theorem turn_pairs {M : Nat} {ls : List (List Int)} (hm : IsMod M) (hp : PairsQ M ls) {r : Nat} (hr : r < M) : PairsOk ((M : Int) + 1) (turnOf M ls r) := by
  have h3 := hm.1
  intro p h
  rcases List.mem_cons.1 h with rfl | h
  · exact ⟨rfl, ⟨by show (0 : Int) ≤ M; omega, by show (M : Int) < M + 1; omega⟩, ⟨by show (0 : Int) ≤ r; omega, by show (r : Int) < M + 1; omega⟩, by show (M : Int) ≠ r; omega⟩
  · obtain ⟨q, hq, rfl⟩ := List.mem_map.1 h
    obtain ⟨i, hi, rfl⟩ := List.getElem_of_mem hq
    obtain ⟨⟨hl2, hrr⟩, hne⟩ := hp i _ (List.getElem?_eq_getElem hi)
    have a0 := hrr 0 (by omega)
    have a1 := hrr 1 (by omega)
    generalize hX : (ls[i].getD 0 0 + (r : Int)) % M = X
    generalize hY : (ls[i].getD 1 0 + (r : Int)) % M = Y
    have hXY := rest_ne (M := M) (j := (r : Int)) (show 0 ≤ ls[i].getD 0 0 by omega) (by omega) (show 0 ≤ ls[i].getD 1 0 by omega) (by omega) (by omega) (by omega) hne
    have x0 : 0 ≤ X := hX ▸ Int.emod_nonneg _ (by omega)
    have x1 : X < M := hX ▸ Int.emod_lt_of_pos _ (by omega)
    have y0 : 0 ≤ Y := hY ▸ Int.emod_nonneg _ (by omega)
    have y1 : Y < M := hY ▸ Int.emod_lt_of_pos _ (by omega)
    rw [hX, hY] at hXY
    exact ⟨rfl, ⟨x0, by show X < (M : Int) + 1; omega⟩, ⟨y0, by show Y < (M : Int) + 1; omega⟩, hXY⟩
theorem turn_lay {M : Nat} {ls : List (List Int)} (hm : IsMod M) (hp : PairsQ M ls) (hs : Starter M ls) {r : Nat} (hr : r < M) : layAll (List.replicate 14 0) (turnOf M ls r) = layAll (freeTo ((M : Int) + 1)) (turnOf M ls r) := by
  have h3 := hm.1
  have h13 := hm.2.1
  refine layAll_agree _ _ _ (by rw [freeTo_length, List.length_replicate]) fun k => ?_
  by_cases hk : k < M + 1
  · right
    by_cases hkM : k = M
    · exact ⟨_, List.mem_cons_self, .inl (by show k = (M : Int).toNat; omega)⟩
    by_cases hkr : k = r
    · exact ⟨_, List.mem_cons_self, .inr (by show k = (r : Int).toNat; omega)⟩
    obtain ⟨a, ha, hak⟩ : ∃ a : Int, (1 ≤ a ∧ a < M) ∧ (a + r) % M = k := by
      by_cases hlt : r < k
      · exact ⟨(k : Int) - r, by omega, by rw [rest_add (by omega) (by omega) (by omega) (by omega)]; split <;> omega⟩
      · exact ⟨(k : Int) - r + M, by omega, by rw [rest_add (by omega) (by omega) (by omega) (by omega)]; split <;> omega⟩
    obtain ⟨p, hpm, hx⟩ := starter_all hm hp hs ha
    refine ⟨_, List.mem_cons_of_mem _ (List.mem_map_of_mem hpm), ?_⟩
    rcases hx with h | h
    · left; show k = ((p.getD 0 0 + r) % M : Int).toNat; rw [← h, hak]; omega
    · right; show k = ((p.getD 1 0 + r) % M : Int).toNat; rw [← h, hak]; omega
  · left
    by_cases h14 : k < 14
    · have := freeTo_get ((M : Int) + 1) k h14
      rw [if_neg (by omega), List.getD_eq_getElem?_getD] at this
      rw [List.getElem?_replicate, if_pos h14]
      rw [List.getElem?_eq_getElem (by rw [freeTo_length]; exact h14)] at this ⊢
      exact congrArg some this.symm
    · rw [List.getElem?_eq_none (by rw [List.length_replicate]; omega), List.getElem?_eq_none (by rw [freeTo_length]; omega)]
end Go.Proofs.YtgaaiplodbnnjaaDoor
