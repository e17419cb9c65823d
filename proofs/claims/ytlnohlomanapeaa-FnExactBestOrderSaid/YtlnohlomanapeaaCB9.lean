import Derived.Test.YtlnohlomanapeaaCB6
import Derived.Test.YtlnohlomanapeaaP12
import Derived.Test.YtlnohlomanapeaaVLOrd
import Derived.Test.YtlnohlomanapeaaVLA
/- A part of the proof: CB9. No conditions of its own. -/
namespace Go.Proofs.Ytlnohlomanapeaa
open Go.VL
attribute [local irreducible] VWr VOps VD Calls

theorem nodup_len : ∀ (l l' : List Int), l.Nodup → (∀ x ∈ l, x ∈ l') → l.length ≤ l'.length
  | [], _, _, _ => Nat.zero_le _
  | x :: l, l', h, hs => by
    have h1 := List.nodup_cons.1 h
    have hx := hs x List.mem_cons_self
    have := nodup_len l (l'.erase x) h1.2 (fun y hy => (List.mem_erase_of_ne (fun e => h1.1 (by rw [← e]; exact hy))).2 (hs y (List.mem_cons_of_mem _ hy)))
    rw [List.length_erase_of_mem hx] at this
    have := List.length_pos_of_mem hx
    rw [List.length_cons]; omega
/-- Whom team 0 meets, round by round. -/
theorem first_inj {k : Nat} {rs : List (List Int)} (hE : EvenR k rs) {i j : Nat} {r : List Int} (hi : rs[i]? = some r) (hj : rs[j]? = some r) : i = j := by
  apply Classical.byContradiction
  intro hne
  obtain ⟨hS, ⟨hlen, hmeet⟩, hev⟩ := hE
  rw [Int.toNat_natCast] at hlen hmeet
  obtain ⟨h2, h14, hkl⟩ := EvenR.len ⟨hS, ⟨hlen, hmeet⟩, hev⟩
  obtain ⟨col, hcol⟩ : ∃ col, col = rs.map fun r => r.getD 0 0 := ⟨_, rfl⟩
  have hcl : col.length = rs.length := by rw [hcol, List.length_map]
  have hci : col[i]? = some (r.getD 0 0) := by rw [hcol, List.getElem?_map, hi]; rfl
  have hcj : col[j]? = some (r.getD 0 0) := by rw [hcol, List.getElem?_map, hj]; rfl
  have hjl := (List.getElem?_eq_some_iff.1 hcj).1
  have hmem : ∀ b : Nat, 0 < b → b < k → (b : Int) ∈ col := fun b hb0 hbk => by
    have := hmeet 0 b (by omega) hbk (by omega)
    rw [cnt, if_neg (by omega)] at this
    have hpos : 0 < (rs.filter fun r => decide (r.getD 0 0 = (b : Int))).length := by omega
    obtain ⟨q, hq⟩ := List.exists_mem_of_length_pos hpos
    obtain ⟨hq1, hq2⟩ := List.mem_filter.1 hq
    rw [hcol]
    exact List.mem_map.2 ⟨q, hq1, by simpa using hq2⟩
  have hsub : ∀ x ∈ (List.range (k - 1)).map (fun b : Nat => ((b + 1 : Nat) : Int)), x ∈ col.eraseIdx j := fun x hx => by
    obtain ⟨b, hb, rfl⟩ := List.mem_map.1 hx
    have hb := List.mem_range.1 hb
    obtain ⟨t, ht⟩ := List.mem_iff_getElem?.1 (hmem (b + 1) (by omega) (by omega))
    refine List.mem_eraseIdx_iff_getElem?.2 ?_
    by_cases htj : t = j
    · subst htj
      rw [hcj] at ht
      exact ⟨i, hne, by rw [hci]; exact ht⟩
    · exact ⟨t, htj, ht⟩
  have hnd : ((List.range (k - 1)).map (fun b : Nat => ((b + 1 : Nat) : Int))).Nodup := List.pairwise_map.2 (List.Pairwise.imp (fun {a b} h h2 => h (by omega)) List.nodup_range)
  have := nodup_len _ _ hnd hsub
  rw [List.length_map, List.length_range, List.length_eraseIdx_of_lt hjl, hcl] at this
  omega
theorem range_perm {m : Nat} {q : List Int} (hl : q.length = m) (hb : ∀ x ∈ q, 0 ≤ x ∧ x < m) (hnd : q.Nodup) : q.Perm ((List.range m).map fun x : Nat => (x : Int)) := by
  refine (List.perm_ext_iff_of_nodup hnd (List.pairwise_map.2 (List.Pairwise.imp (fun {a b} h h2 => h (by omega)) List.nodup_range))).2 fun x => ⟨fun hx => ?_, fun hx => ?_⟩
  · have := hb x hx
    exact List.mem_map.2 ⟨x.toNat, List.mem_range.2 (by omega), by omega⟩
  · obtain ⟨y, hy, rfl⟩ := List.mem_map.1 hx
    exact full_mem hl hb hnd (List.mem_range.1 hy)
theorem reord_perm {rs : List (List Int)} {q : List Int} (hl : q.length = rs.length) (hb : ∀ x ∈ q, 0 ≤ x ∧ x < rs.length) (hnd : q.Nodup) : (reord rs q).Perm rs := by
  have h := (range_perm hl hb hnd).map fun x => rs.getD x.toNat []
  have e : ((List.range rs.length).map fun x : Nat => (x : Int)).map (fun x => rs.getD x.toNat []) = rs := by
    rw [List.map_map]
    apply List.ext_getElem (by simp)
    intro i h1 h2
    simp [List.getElem?_eq_getElem h2]
  rw [e] at h
  exact h
theorem reord_even {k : Nat} {rs : List (List Int)} {q : List Int} (hE : EvenR k rs) (hl : q.length = rs.length) (hb : ∀ x ∈ q, 0 ≤ x ∧ x < rs.length) (hnd : q.Nodup) : EvenR k (reord rs q) := by
  have hp := reord_perm hl hb hnd
  obtain ⟨⟨a1, a2, a3, a4⟩, ⟨b1, b2⟩, c⟩ := hE
  refine ⟨⟨a1, a2, by rw [hp.length_eq]; exact a3, fun i r hi => ?_⟩, ⟨by rw [hp.length_eq]; exact b1, fun a b ha hb' hab => ?_⟩, c⟩
  · obtain ⟨j, hj⟩ := List.mem_iff_getElem?.1 (hp.mem_iff.1 (List.mem_of_getElem? hi))
    exact a4 j r hj
  · have := b2 a b ha hb' hab
    rw [cnt, if_neg hab] at this ⊢
    rw [(hp.filter _).length_eq]; exact this
def ones9 (l : List Int) : List (List Int) := l.map fun x => [x]
/-- The orders of the rounds that arrangements yield. -/
theorem arr_reord {d : Nat} {rs : List (List Int)} (hl : rs.length = d + 1) : arrL d [rs.getD 0 []] (rs.drop 1) = (ordR (d + 1) d [0]).map (reord rs) := by
  have hf : (freeN (d + 1) [0]).length = d := by rw [freeN_one]; simp
  have h := arrL_ones (d + 1) d [0] hf
  have h2 := arrL_map (fun r => rs.getD (r.getD 0 0).toNat []) d (ones9 [0]) (ones9 (freeN (d + 1) [0])) (by rw [ones9, List.length_map, hf])
  have e1 : (ones9 [0]).map (fun r => rs.getD (r.getD 0 0).toNat []) = [rs.getD 0 []] := rfl
  have e2 : (ones9 (freeN (d + 1) [0])).map (fun r => rs.getD (r.getD 0 0).toNat []) = rs.drop 1 := by
    rw [freeN_one, ones9, List.map_map, List.map_map]
    apply List.ext_getElem (by simp; omega)
    intro i h1 h2
    have h3 : i + 1 < rs.length := by simp at h1; omega
    simp only [List.getElem_map, List.getElem_range, Function.comp, List.getElem_drop]
    show rs.getD (((i + 1 : Nat) : Int)).toNat [] = _
    rw [Int.toNat_natCast, List.getD_eq_getElem?_getD, List.getElem?_eq_getElem h3]
    simp [Nat.add_comm]
  rw [e1, e2] at h2
  rw [h2, show arrL d (ones9 [0]) (ones9 (freeN (d + 1) [0])) = (ordR (d + 1) d [0]).map ones9 from h, List.map_map]
  refine List.map_congr_left fun q _ => ?_
  simp only [Function.comp, ones9, List.map_map, reord]; rfl
theorem rs_split {rs : List (List Int)} {d : Nat} (hl : rs.length = d + 1) : [rs.getD 0 []] ++ rs.drop 1 = rs := by
  match rs, hl with
  | r :: rs, _ => rfl
theorem ord_at {d : Nat} {q : List Int} (h : q ∈ ordR (d + 1) d [0]) : q.length = d + 1 ∧ (∀ x ∈ q, 0 ≤ x ∧ x < ((d + 1 : Nat) : Int)) ∧ q.Nodup := by
  obtain ⟨a, b, c, _⟩ := ordR_good (d + 1) d [0] (by simp) (fun x hx => by rw [List.mem_singleton] at hx; omega) q h
  exact ⟨by rw [c]; simp; omega, b, a⟩

/-- Where the first least one of the first i costs stands. -/
def bIdx (c : Nat → Int) : Nat → Nat
  | 0 => 0
  | i + 1 => if i = 0 then 0 else if c i < c (bIdx c i) then i else bIdx c i
theorem bIdx_lt (c : Nat → Int) : ∀ i, 0 < i → bIdx c i < i
  | 1, _ => by simp [bIdx]
  | i + 2, _ => by
    have := bIdx_lt c (i + 1) (by omega)
    rw [bIdx, if_neg (by omega)]
    split <;> omega
end Go.Proofs.Ytlnohlomanapeaa
