import Derived.Test.YtnammdmiljjhjaaVLMap
/- A part of the proof: Tally. No conditions of its own. -/
namespace Go.VL
theorem laid_at (es : Ents) (k : List Int) : (es.laid k)[es.at k]? = some (k, es.get k) := by
  unfold Ents.laid Ents.at
  cases h : es.findIdx? (fun p => decide (k = p.1)) with
  | none =>
    have hget : es.get k = 0 := by
      unfold Ents.get
      rw [List.find?_eq_none.2 (fun p hp => by simpa using List.findIdx?_eq_none_iff.1 h p hp)]
    simp [hget]
  | some i =>
    obtain ⟨v, h1, h2⟩ := idx_get h
    rw [h2]; exact h1
theorem laid_get (es : Ents) (k : List Int) : (es.laid k).get k = es.get k := by
  unfold Ents.laid
  cases h : es.findIdx? (fun p => decide (k = p.1)) with
  | none =>
    have hn := List.find?_eq_none.2 (fun p hp => by simpa using List.findIdx?_eq_none_iff.1 h p hp : ∀ p ∈ es, ¬ decide (k = p.1) = true)
    simp [Ents.get, List.find?_append, hn]
  | some i => rfl
theorem mem_laid {es : Ents} {k : List Int} {p : List Int × Int} (h : p ∈ es.laid k) : p ∈ es ∨ p = (k, 0) := by
  unfold Ents.laid at h
  split at h
  · exact .inl h
  · rcases List.mem_append.1 h with h | h
    · exact .inl h
    · exact .inr (by simpa using h)
theorem sub_laid {es : Ents} {k : List Int} {p : List Int × Int} (h : p ∈ es) : p ∈ es.laid k := by
  unfold Ents.laid
  split
  · exact h
  · exact List.mem_append_left _ h
theorem get_mem {es : Ents} {k : List Int} : es.get k = 0 ∨ (k, es.get k) ∈ es := by
  unfold Ents.get
  cases h : es.find? (fun e => decide (k = e.1)) with
  | none => exact .inl rfl
  | some e =>
    have h1 := List.mem_of_find?_eq_some h
    have h2 : k = e.1 := by simpa using List.find?_some h
    exact .inr (by rw [h2]; exact h1)

/-- One more of k. -/
def incr (es : Ents) (k : List Int) : Ents := (es.laid k).set (es.at k) (k, es.get k + 1)
theorem mem_set_of {α : Type} {l : List α} {i : Nat} {x p : α} (h : p ∈ l.set i x) : p ∈ l ∨ p = x := List.mem_or_eq_of_mem_set h
/-- How often each is there. -/
def tally (rs : List (List Int)) : Ents := rs.foldl incr []
theorem tally_snoc (rs : List (List Int)) (r : List Int) : tally (rs ++ [r]) = incr (tally rs) r := by simp [tally]
theorem foldl_keys : ∀ (rs : List (List Int)) (es : Ents) (m : Int), 0 ≤ m → (∀ p ∈ es, 0 ≤ p.2 ∧ p.2 ≤ m) →
    ∀ p ∈ rs.foldl incr es, (p.1 ∈ rs ∨ ∃ q ∈ es, q.1 = p.1) ∧ 0 ≤ p.2 ∧ p.2 ≤ m + rs.length
  | [], es, m, _, hes, p, hp => ⟨.inr ⟨p, hp, rfl⟩, by have := hes p hp; simp; omega⟩
  | r :: rs, es, m, hm, hes, p, hp => by
    have hget : 0 ≤ es.get r ∧ es.get r ≤ m := by
      rcases get_mem (es := es) (k := r) with h | h
      · omega
      · exact hes _ h
    have h1 : ∀ q ∈ incr es r, (q.1 = r ∨ ∃ q' ∈ es, q'.1 = q.1) ∧ 0 ≤ q.2 ∧ q.2 ≤ m + 1 := fun q hq => by
      rcases mem_set_of hq with h | h
      · rcases mem_laid h with h | h
        · have := hes q h; exact ⟨.inr ⟨q, h, rfl⟩, by omega, by omega⟩
        · subst h; exact ⟨.inl rfl, by simp, by simp; omega⟩
      · subst h; exact ⟨.inl rfl, by simp; omega, by simp; omega⟩
    have ih := foldl_keys rs (incr es r) (m + 1) (by omega) (fun q hq => (h1 q hq).2) p hp
    refine ⟨?_, ih.2.1, by have := ih.2.2; simp only [List.length_cons]; push_cast at *; omega⟩
    rcases ih.1 with h | ⟨q, hq, he⟩
    · exact .inl (List.mem_cons_of_mem _ h)
    · rcases (h1 q hq).1 with h | ⟨q', hq', he'⟩
      · exact .inl (by rw [← he, h]; exact List.mem_cons_self)
      · exact .inr ⟨q', hq', he'.trans he⟩
theorem tally_keys {rs : List (List Int)} {p : List Int × Int} (h : p ∈ tally rs) : p.1 ∈ rs ∧ 0 ≤ p.2 ∧ p.2 ≤ rs.length := by
  have := foldl_keys rs [] 0 (by omega) (by simp) p h
  refine ⟨?_, this.2.1, by have := this.2.2; omega⟩
  rcases this.1 with h | ⟨q, hq, _⟩
  · exact h
  · cases hq
theorem keys_incr {es : Ents} {r : List Int} {p : List Int × Int} (h : p ∈ es) : ∃ c, (p.1, c) ∈ incr es r := by
  have h1 := sub_laid (k := r) h
  obtain ⟨i, hi⟩ := List.mem_iff_getElem?.1 h1
  by_cases hj : es.at r = i
  · subst hj
    have := hi.symm.trans (laid_at es r)
    have hp : p = (r, es.get r) := Option.some.inj this
    refine ⟨es.get r + 1, List.mem_iff_getElem?.2 ⟨es.at r, ?_⟩⟩
    unfold incr
    rw [List.getElem?_set_self (List.getElem?_eq_some_iff.1 hi).1, hp]
  · exact ⟨p.2, List.mem_iff_getElem?.2 ⟨i, by unfold incr; rw [List.getElem?_set_ne hj]; exact hi⟩⟩
theorem key_incr (es : Ents) (r : List Int) : ∃ c, (r, c) ∈ incr es r :=
  ⟨es.get r + 1, List.mem_iff_getElem?.2 ⟨es.at r, by unfold incr; rw [List.getElem?_set_self (List.getElem?_eq_some_iff.1 (laid_at es r)).1]⟩⟩
theorem foldl_has : ∀ (rs : List (List Int)) (es : Ents) (r : List Int), (r ∈ rs ∨ ∃ c, (r, c) ∈ es) → ∃ c, (r, c) ∈ rs.foldl incr es
  | [], es, r, h => by rcases h with h | h; cases h; exact h
  | q :: rs, es, r, h => by
    refine foldl_has rs (incr es q) r ?_
    rcases h with h | ⟨c, hc⟩
    · rcases List.mem_cons.1 h with h | h
      · subst h; exact .inr (key_incr es r)
      · exact .inl h
    · exact .inr (keys_incr (p := (r, c)) hc)
theorem tally_has {rs : List (List Int)} {r : List Int} (h : r ∈ rs) : ∃ c, (r, c) ∈ tally rs := foldl_has rs [] r (.inl h)
end Go.VL
