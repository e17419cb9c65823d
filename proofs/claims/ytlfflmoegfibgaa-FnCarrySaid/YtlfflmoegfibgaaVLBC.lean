import Derived.Test.YtlfflmoegfibgaaVLMap
import Derived.Laws.IdiomRangeMap
/- Parts of the proof, one after another. No conditions of their own. -/
/- A part of the proof: Tally. No conditions of its own. -/
namespace Go.VL
theorem laid_at (es : Ents) (k : List Int) : (es.laid k)[es.at k]? = some (k, es.get k) := by
  unfold Ents.laid Ents.at
  cases h : es.findIdx? (fun p => decide (k = p.1)) with
  | none =>
    have hget : es.get k = 0 := by
      unfold Ents.get
      rw [List.find?_eq_none.2 (fun p hp => by simpa using List.findIdx?_eq_none_iff.1 h p hp)]
    simp [hget]
  | some i =>
    obtain ⟨v, h1, h2⟩ := idx_get h
    rw [h2]; exact h1
theorem laid_get (es : Ents) (k : List Int) : (es.laid k).get k = es.get k := by
  unfold Ents.laid
  cases h : es.findIdx? (fun p => decide (k = p.1)) with
  | none =>
    have hn := List.find?_eq_none.2 (fun p hp => by simpa using List.findIdx?_eq_none_iff.1 h p hp : ∀ p ∈ es, ¬ decide (k = p.1) = true)
    simp [Ents.get, List.find?_append, hn]
  | some i => rfl
theorem mem_laid {es : Ents} {k : List Int} {p : List Int × Int} (h : p ∈ es.laid k) : p ∈ es ∨ p = (k, 0) := by
  unfold Ents.laid at h
  split at h
  · exact .inl h
  · rcases List.mem_append.1 h with h | h
    · exact .inl h
    · exact .inr (by simpa using h)
theorem sub_laid {es : Ents} {k : List Int} {p : List Int × Int} (h : p ∈ es) : p ∈ es.laid k := by
  unfold Ents.laid
  split
  · exact h
  · exact List.mem_append_left _ h
theorem get_mem {es : Ents} {k : List Int} : es.get k = 0 ∨ (k, es.get k) ∈ es := by
  unfold Ents.get
  cases h : es.find? (fun e => decide (k = e.1)) with
  | none => exact .inl rfl
  | some e =>
    have h1 := List.mem_of_find?_eq_some h
    have h2 : k = e.1 := by simpa using List.find?_some h
    exact .inr (by rw [h2]; exact h1)

/-- One more of k. -/
def incr (es : Ents) (k : List Int) : Ents := (es.laid k).set (es.at k) (k, es.get k + 1)
theorem mem_set_of {α : Type} {l : List α} {i : Nat} {x p : α} (h : p ∈ l.set i x) : p ∈ l ∨ p = x := List.mem_or_eq_of_mem_set h
/-- How often each is there. -/
def tally (rs : List (List Int)) : Ents := rs.foldl incr []
theorem tally_snoc (rs : List (List Int)) (r : List Int) : tally (rs ++ [r]) = incr (tally rs) r := by simp [tally]
theorem foldl_keys : ∀ (rs : List (List Int)) (es : Ents) (m : Int), 0 ≤ m → (∀ p ∈ es, 0 ≤ p.2 ∧ p.2 ≤ m) →
    ∀ p ∈ rs.foldl incr es, (p.1 ∈ rs ∨ ∃ q ∈ es, q.1 = p.1) ∧ 0 ≤ p.2 ∧ p.2 ≤ m + rs.length
  | [], es, m, _, hes, p, hp => ⟨.inr ⟨p, hp, rfl⟩, by have := hes p hp; simp; omega⟩
  | r :: rs, es, m, hm, hes, p, hp => by
    have hget : 0 ≤ es.get r ∧ es.get r ≤ m := by
      rcases get_mem (es := es) (k := r) with h | h
      · omega
      · exact hes _ h
    have h1 : ∀ q ∈ incr es r, (q.1 = r ∨ ∃ q' ∈ es, q'.1 = q.1) ∧ 0 ≤ q.2 ∧ q.2 ≤ m + 1 := fun q hq => by
      rcases mem_set_of hq with h | h
      · rcases mem_laid h with h | h
        · have := hes q h; exact ⟨.inr ⟨q, h, rfl⟩, by omega, by omega⟩
        · subst h; exact ⟨.inl rfl, by simp, by simp; omega⟩
      · subst h; exact ⟨.inl rfl, by simp; omega, by simp; omega⟩
    have ih := foldl_keys rs (incr es r) (m + 1) (by omega) (fun q hq => (h1 q hq).2) p hp
    refine ⟨?_, ih.2.1, by have := ih.2.2; simp only [List.length_cons]; push_cast at *; omega⟩
    rcases ih.1 with h | ⟨q, hq, he⟩
    · exact .inl (List.mem_cons_of_mem _ h)
    · rcases (h1 q hq).1 with h | ⟨q', hq', he'⟩
      · exact .inl (by rw [← he, h]; exact List.mem_cons_self)
      · exact .inr ⟨q', hq', he'.trans he⟩
theorem tally_keys {rs : List (List Int)} {p : List Int × Int} (h : p ∈ tally rs) : p.1 ∈ rs ∧ 0 ≤ p.2 ∧ p.2 ≤ rs.length := by
  have := foldl_keys rs [] 0 (by omega) (by simp) p h
  refine ⟨?_, this.2.1, by have := this.2.2; omega⟩
  rcases this.1 with h | ⟨q, hq, _⟩
  · exact h
  · cases hq
theorem keys_incr {es : Ents} {r : List Int} {p : List Int × Int} (h : p ∈ es) : ∃ c, (p.1, c) ∈ incr es r := by
  have h1 := sub_laid (k := r) h
  obtain ⟨i, hi⟩ := List.mem_iff_getElem?.1 h1
  by_cases hj : es.at r = i
  · subst hj
    have := hi.symm.trans (laid_at es r)
    have hp : p = (r, es.get r) := Option.some.inj this
    refine ⟨es.get r + 1, List.mem_iff_getElem?.2 ⟨es.at r, ?_⟩⟩
    unfold incr
    rw [List.getElem?_set_self (List.getElem?_eq_some_iff.1 hi).1, hp]
  · exact ⟨p.2, List.mem_iff_getElem?.2 ⟨i, by unfold incr; rw [List.getElem?_set_ne hj]; exact hi⟩⟩
theorem key_incr (es : Ents) (r : List Int) : ∃ c, (r, c) ∈ incr es r :=
  ⟨es.get r + 1, List.mem_iff_getElem?.2 ⟨es.at r, by unfold incr; rw [List.getElem?_set_self (List.getElem?_eq_some_iff.1 (laid_at es r)).1]⟩⟩
theorem foldl_has : ∀ (rs : List (List Int)) (es : Ents) (r : List Int), (r ∈ rs ∨ ∃ c, (r, c) ∈ es) → ∃ c, (r, c) ∈ rs.foldl incr es
  | [], es, r, h => by rcases h with h | h; cases h; exact h
  | q :: rs, es, r, h => by
    refine foldl_has rs (incr es q) r ?_
    rcases h with h | ⟨c, hc⟩
    · rcases List.mem_cons.1 h with h | h
      · subst h; exact .inr (key_incr es r)
      · exact .inl h
    · exact .inr (keys_incr (p := (r, c)) hc)
theorem tally_has {rs : List (List Int)} {r : List Int} (h : r ∈ rs) : ∃ c, (r, c) ∈ tally rs := foldl_has rs [] r (.inl h)
end Go.VL

/- A part of the proof: Range. No conditions of its own. -/
namespace Go.VL
open Go.RowKit

def itObj (bm : Nat) (es : Ents) (seen : Array Nat) : Obj := .mapIter (some bm) es.length seen es.length
theorem run_getIt {P : Program} {w : World} {b bm : Nat} {es : Ents} {seen : Array Nat} (h : w.heap[b]? = some (itObj bm es seen)) : (getObj b).run P w = .ok (itObj bm es seen) w := by
  unfold itObj at *
  simp [getObj, Sem.run, h]
theorem run_setIt {P : Program} {w : World} {b bm : Nat} {es : Ents} {seen : Array Nat} (h : w.heap[b]? = some (itObj bm es seen)) (o : Obj) : (setObj b o).run P w = .ok () { w with heap := w.heap.setIfInBounds b o } := by
  unfold itObj at h
  simp [setObj, Sem.run, h]
theorem run_chooseNext {P : Program} (w : World) (n : Nat) (hn : 0 < n) : ∃ (j : Nat) (w1 : World), j < n ∧ (w1 = w ∨ w1 = w.drew) ∧ (choose (Question.mapNext n)).run P w = .ok j w1 := by
  by_cases hf : n ≤ 1
  · exact ⟨0, w, hn, .inl rfl, by simp [choose, Sem.run, Question.forced, hf]⟩
  · exact ⟨_, w.drew, Nat.mod_lt _ (by omega), .inr rfl, by
      simp only [choose, Sem.run, Question.forced, decide_eq_true_eq, hf, if_false, Question.cut]
      rfl⟩

theorem ent_mem {es : Ents} {x : MapEntry} (h : x ∈ (es.zipIdx.map entOf).toArray) : ∃ (m : Nat) (k : List Int) (v : Int), es[m]? = some (k, v) ∧ x = entOf ((k, v), m) := by
  have h' : x ∈ es.zipIdx.map entOf := by simpa using h
  obtain ⟨⟨⟨k, v⟩, m⟩, hp, rfl⟩ := List.mem_map.1 h'
  have := List.mem_zipIdx_iff_getElem?.1 hp
  exact ⟨m, k, v, by simpa using this, rfl⟩

section
variable {P : Program} {T : Nat → Option TI} {Γ : Ctx} {ops : Array Oper} {Q : (Nat → Value) → Own → Prop} {rest : List Oper} {f : Nat → Value} {own : Own}
variable {ty : TypeId} {pos : String} {aft : Array Edge}

theorem vops_range (i : Nat) {d t kt et : Nat} {x : Operand} {b : Nat} {es : Ents} (hm : P.underlying t = some (.map kt et)) (hx : ev f x = .map (some b)) (hi : own[i]? = some (b, ⟨[], 0, 0, some (mapObj es)⟩))
    (k : ∀ bi, bi ∉ ids own → VOps P Γ ops Q rest (upd f d (.pointer (some ⟨bi, 0, none⟩))) ((bi, ⟨[], 0, 0, some (itObj b es #[])⟩) :: own)) :
    VOps P Γ ops Q (⟨some d, .range t x, ty, pos, aft, none⟩ :: rest) f own :=
  vops_go fun w hg => by
    show RunsTo P ((Instr.range t (ev f x) >>= fun v => pure (Next.value v)).run P w) _
    have hb := obj_at hg hi rfl
    have := run_range_map (P := P) w t kt et b _ _ hm hb
    rw [hx, run_val, this]
    obtain ⟨g1, g2, g3⟩ := hg.newObj (itObj b es #[])
    refine ⟨_, g1, ⟨g3.mono (by simp), fun c hc => ?_⟩, k _ g2⟩
    rcases List.mem_cons.1 hc with h | h
    · exact .inr (Nat.le_of_eq h.symm)
    · exact .inl h

theorem vops_next (i j : Nat) {d : Nat} {x : Operand} {b bi : Nat} {es : Ents} {seen : Array Nat} (hx : ev f x = .pointer (some ⟨bi, 0, none⟩)) (hi : own[i]? = some (b, ⟨[], 0, 0, some (mapObj es)⟩)) (hj : own[j]? = some (bi, ⟨[], 0, 0, some (itObj b es seen)⟩))
    (k0 : (∀ m, m < es.length → seen.contains m = true) → VOps P Γ ops Q rest (upd f d (.tuple #[.bool false])) own)
    (k1 : ∀ (m : Nat) (k : List Int) (v : Int), es[m]? = some (k, v) → seen.contains m = false →
      VOps P Γ ops Q rest (upd f d (.tuple #[.bool true, .agg (ints k).toArray, .int .i64 v])) (own.set j (bi, ⟨[], 0, 0, some (itObj b es (seen.push m))⟩))) :
    VOps P Γ ops Q (⟨some d, .next x false, ty, pos, aft, none⟩ :: rest) f own :=
  vops_go fun w hg => by
    show RunsTo P ((Instr.next (ev f x) false ty >>= fun v => pure (Next.value v)).run P w) _
    have hb := obj_at hg hi rfl
    have hit := obj_at hg hj rfl
    have hold : ∀ x ∈ (es.zipIdx.map entOf).toArray.toList, x.born < es.length := fun x hx => by
      obtain ⟨m, k, v, hm, rfl⟩ := ent_mem (by simpa using hx)
      exact (List.getElem?_eq_some_iff.1 hm).1
    have htest := next_test_false seen (es.zipIdx.map entOf).toArray es.length es.length hold (Nat.le_refl _)
    rw [hx, run_val]
    unfold Instr.next
    simp only
    rw [Sem.run_bind, run_getIt hit, Result.andThen_ok]
    simp only [itObj]
    rw [Sem.run_bind, run_getMap hb, Result.andThen_ok]
    simp only [mapObj]
    rw [htest]
    simp only [Bool.false_eq_true, if_false]
    have hmem : ∀ x ∈ (Array.filter (fun e => !seen.contains e.born) (es.zipIdx.map entOf).toArray), ∃ (m : Nat) (k : List Int) (v : Int), es[m]? = some (k, v) ∧ x = entOf ((k, v), m) ∧ seen.contains m = false := fun x hx => by
      have hx' := Array.mem_filter.1 hx
      obtain ⟨m, k, v, hm, rfl⟩ := ent_mem hx'.1
      exact ⟨m, k, v, hm, rfl, by simpa [entOf] using hx'.2⟩
    have hnone : (Array.filter (fun e => !seen.contains e.born) (es.zipIdx.map entOf).toArray).size = 0 → ∀ m, m < es.length → seen.contains m = true := fun h0 m hm => by
      have he : entOf (es[m], m) ∈ (es.zipIdx.map entOf).toArray := by
        have : (es.zipIdx.map entOf)[m]? = some (entOf (es[m], m)) := by simp [hm]
        have := List.mem_of_getElem? this
        simpa using this
      have hemp := Array.eq_empty_of_size_eq_zero h0
      rw [Array.filter_eq_empty_iff] at hemp
      simpa [entOf] using hemp _ he
    generalize Array.filter (fun e => !seen.contains e.born) (es.zipIdx.map entOf).toArray = L at hmem hnone
    have e1 : L.filter (fun x => decide (x.born < es.length)) = L := Array.filter_eq_self.2 fun x hx => by
      obtain ⟨m, k, v, hm, rfl, _⟩ := hmem x hx
      have := (List.getElem?_eq_some_iff.1 hm).1
      exact decide_eq_true (by simpa [entOf] using this)
    have e2 : L.filter (fun x => decide (x.born ≥ es.length)) = #[] := by
      rw [Array.filter_eq_empty_iff]
      intro x hx
      obtain ⟨m, k, v, hm, rfl, _⟩ := hmem x hx
      have := (List.getElem?_eq_some_iff.1 hm).1
      simp [entOf]; omega
    simp only [e1, e2, Array.append_empty]
    by_cases h0 : L.size = 0
    · have hL : L = #[] := Array.eq_empty_of_size_eq_zero h0
      subst hL
      have hc : (choose (Question.mapNext (#[none] : Array (Option MapEntry)).size)).run P w = .ok 0 w := by simp [choose, Sem.run, Question.forced]
      have hl : ((if (#[] : Array MapEntry).isEmpty = true then #[none] else #[]) ++ Array.map some (#[] : Array MapEntry)) = (#[none] : Array (Option MapEntry)) := by simp
      rw [hl, Sem.run_bind, hc]
      exact ⟨own, hg, stay w, k0 (hnone rfl)⟩
    · have hne : L.isEmpty = false := by simp [Array.isEmpty, h0]
      simp only [hne, Bool.false_eq_true, if_false, Array.empty_append, Array.size_map]
      obtain ⟨n, w1, hn, hw1, hrun⟩ := run_chooseNext (P := P) w L.size (by omega)
      obtain ⟨m, k, v, hm, he, hs⟩ := hmem L[n] (Array.getElem_mem hn)
      have hg1 : Good Γ own w1 := by rcases hw1 with h | h <;> subst h; exact hg; exact hg.drew
      have hf1 : Fr (ids own) w w1 := by rcases hw1 with h | h <;> subst h; exact Fr.refl _ _; exact (Fr.refl _ _).drew
      have hsz : w1.heap = w.heap := by rcases hw1 with h | h <;> subst h <;> rfl
      have hit1 := obj_at hg1 hj rfl
      rw [Sem.run_bind, hrun, Result.andThen_ok]
      simp only [Array.getElem?_map, Array.getElem?_eq_getElem hn, Option.map_some]
      rw [Sem.run_bind, run_setIt hit1, Result.andThen_ok, he]
      refine ⟨_, hg1.setObj hj (itObj b es (seen.push m)), ⟨hf1.trans ((fr_setObj w1 bi _).mono (fun x hx => ?_)) (fun x hx => .inl hx), fun c hc => .inl (by rwa [ids_set hj] at hc)⟩, k1 m k v hm hs⟩
      have e : x = bi := by simpa using hx
      rw [e]; exact ids_mem (List.mem_of_getElem? hj)

theorem vops_entry (i j : Nat) {d : Nat} {x : Operand} {b bi m : Nat} {es : Ents} {seen : Array Nat} {k : List Int} {v : Int} (hx : ev f x = .pointer (some ⟨bi, 0, none⟩)) (hi : own[i]? = some (b, ⟨[], 0, 0, some (mapObj es)⟩)) (hj : own[j]? = some (bi, ⟨[], 0, 0, some (itObj b es (seen.push m))⟩))
    (hm : es[m]? = some (k, v)) (kk : VOps P Γ ops Q rest (upd f d (.tuple #[.agg (ints k).toArray, .int .i64 v])) own) :
    VOps P Γ ops Q (⟨some d, .entry x, ty, pos, aft, none⟩ :: rest) f own :=
  vops_go fun w hg => by
    show RunsTo P ((Instr.entry (ev f x) >>= fun v => pure (Next.value v)).run P w) _
    have hb := obj_at hg hi rfl
    have hit := obj_at hg hj rfl
    have hlt := (List.getElem?_eq_some_iff.1 hm).1
    have hfind : (es.zipIdx.map entOf).toArray.find? (·.born == m) = some (entOf ((k, v), m)) := by
      rw [← Array.find?_toList]
      refine find_born (entOf ((k, v), m)) _ ?_ ?_
      · have : ((es.zipIdx.map entOf).toArray.toList.map (·.born)) = List.range es.length := by
          apply List.ext_getElem?
          intro n
          by_cases hn : n < es.length
          · simp [hn, entOf]
          · simp [hn]
        rw [this]; exact List.nodup_range
      · have : (es.zipIdx.map entOf)[m]? = some (entOf ((k, v), m)) := by simp [hm]
        simpa using List.mem_of_getElem? this
    rw [hx, run_val]
    unfold Instr.entry
    simp only
    rw [Sem.run_bind, run_getIt hit, Result.andThen_ok]
    simp only [itObj, Array.back?_push]
    rw [Sem.run_bind, run_getMap hb, Result.andThen_ok]
    simp only [mapObj, bne_self_eq_false, Bool.false_eq_true, if_false, hfind]
    exact ⟨own, hg, stay w, kk⟩
end
end Go.VL

