import Derived.Test.YtnammdmiljjhjaaVLTally
import Derived.Laws.IdiomRangeMap
/- A part of the proof: Range. No conditions of its own. -/
namespace Go.VL
open Go.RowKit

def itObj (bm : Nat) (es : Ents) (seen : Array Nat) : Obj := .mapIter (some bm) es.length seen es.length
theorem run_getIt {P : Program} {w : World} {b bm : Nat} {es : Ents} {seen : Array Nat} (h : w.heap[b]? = some (itObj bm es seen)) : (getObj b).run P w = .ok (itObj bm es seen) w := by
  unfold itObj at *
  simp [getObj, Sem.run, h]
theorem run_setIt {P : Program} {w : World} {b bm : Nat} {es : Ents} {seen : Array Nat} (h : w.heap[b]? = some (itObj bm es seen)) (o : Obj) : (setObj b o).run P w = .ok () { w with heap := w.heap.setIfInBounds b o } := by
  unfold itObj at h
  simp [setObj, Sem.run, h]
theorem run_chooseNext {P : Program} (w : World) (n : Nat) (hn : 0 < n) : ∃ (j : Nat) (w1 : World), j < n ∧ (w1 = w ∨ w1 = w.drew) ∧ (choose (Question.mapNext n)).run P w = .ok j w1 := by
  by_cases hf : n ≤ 1
  · exact ⟨0, w, hn, .inl rfl, by simp [choose, Sem.run, Question.forced, hf]⟩
  · exact ⟨_, w.drew, Nat.mod_lt _ (by omega), .inr rfl, by
      simp only [choose, Sem.run, Question.forced, decide_eq_true_eq, hf, if_false, Question.cut]
      rfl⟩

theorem ent_mem {es : Ents} {x : MapEntry} (h : x ∈ (es.zipIdx.map entOf).toArray) : ∃ (m : Nat) (k : List Int) (v : Int), es[m]? = some (k, v) ∧ x = entOf ((k, v), m) := by
  have h' : x ∈ es.zipIdx.map entOf := by simpa using h
  obtain ⟨⟨⟨k, v⟩, m⟩, hp, rfl⟩ := List.mem_map.1 h'
  have := List.mem_zipIdx_iff_getElem?.1 hp
  exact ⟨m, k, v, by simpa using this, rfl⟩

section
variable {P : Program} {T : Nat → Option TI} {Γ : Ctx} {ops : Array Oper} {Q : (Nat → Value) → Own → Prop} {rest : List Oper} {f : Nat → Value} {own : Own}
variable {ty : TypeId} {pos : String} {aft : Array Edge}

theorem vops_range (i : Nat) {d t kt et : Nat} {x : Operand} {b : Nat} {es : Ents} (hm : P.underlying t = some (.map kt et)) (hx : ev f x = .map (some b)) (hi : own[i]? = some (b, ⟨[], 0, 0, some (mapObj es)⟩))
    (k : ∀ bi, bi ∉ ids own → VOps P Γ ops Q rest (upd f d (.pointer (some ⟨bi, 0, none⟩))) ((bi, ⟨[], 0, 0, some (itObj b es #[])⟩) :: own)) :
    VOps P Γ ops Q (⟨some d, .range t x, ty, pos, aft, none⟩ :: rest) f own :=
  vops_go fun w hg => by
    show RunsTo P ((Instr.range t (ev f x) >>= fun v => pure (Next.value v)).run P w) _
    have hb := obj_at hg hi rfl
    have := run_range_map (P := P) w t kt et b _ _ hm hb
    rw [hx, run_val, this]
    obtain ⟨g1, g2, g3⟩ := hg.newObj (itObj b es #[])
    refine ⟨_, g1, ⟨g3.mono (by simp), fun c hc => ?_⟩, k _ g2⟩
    rcases List.mem_cons.1 hc with h | h
    · exact .inr (Nat.le_of_eq h.symm)
    · exact .inl h

theorem vops_next (i j : Nat) {d : Nat} {x : Operand} {b bi : Nat} {es : Ents} {seen : Array Nat} (hx : ev f x = .pointer (some ⟨bi, 0, none⟩)) (hi : own[i]? = some (b, ⟨[], 0, 0, some (mapObj es)⟩)) (hj : own[j]? = some (bi, ⟨[], 0, 0, some (itObj b es seen)⟩))
    (k0 : (∀ m, m < es.length → seen.contains m = true) → VOps P Γ ops Q rest (upd f d (.tuple #[.bool false])) own)
    (k1 : ∀ (m : Nat) (k : List Int) (v : Int), es[m]? = some (k, v) → seen.contains m = false →
      VOps P Γ ops Q rest (upd f d (.tuple #[.bool true, .agg (ints k).toArray, .int .i64 v])) (own.set j (bi, ⟨[], 0, 0, some (itObj b es (seen.push m))⟩))) :
    VOps P Γ ops Q (⟨some d, .next x false, ty, pos, aft, none⟩ :: rest) f own :=
  vops_go fun w hg => by
    show RunsTo P ((Instr.next (ev f x) false ty >>= fun v => pure (Next.value v)).run P w) _
    have hb := obj_at hg hi rfl
    have hit := obj_at hg hj rfl
    have hold : ∀ x ∈ (es.zipIdx.map entOf).toArray.toList, x.born < es.length := fun x hx => by
      obtain ⟨m, k, v, hm, rfl⟩ := ent_mem (by simpa using hx)
      exact (List.getElem?_eq_some_iff.1 hm).1
    have htest := next_test_false seen (es.zipIdx.map entOf).toArray es.length es.length hold (Nat.le_refl _)
    rw [hx, run_val]
    unfold Instr.next
    simp only
    rw [Sem.run_bind, run_getIt hit, Result.andThen_ok]
    simp only [itObj]
    rw [Sem.run_bind, run_getMap hb, Result.andThen_ok]
    simp only [mapObj]
    rw [htest]
    simp only [Bool.false_eq_true, if_false]
    have hmem : ∀ x ∈ (Array.filter (fun e => !seen.contains e.born) (es.zipIdx.map entOf).toArray), ∃ (m : Nat) (k : List Int) (v : Int), es[m]? = some (k, v) ∧ x = entOf ((k, v), m) ∧ seen.contains m = false := fun x hx => by
      have hx' := Array.mem_filter.1 hx
      obtain ⟨m, k, v, hm, rfl⟩ := ent_mem hx'.1
      exact ⟨m, k, v, hm, rfl, by simpa [entOf] using hx'.2⟩
    have hnone : (Array.filter (fun e => !seen.contains e.born) (es.zipIdx.map entOf).toArray).size = 0 → ∀ m, m < es.length → seen.contains m = true := fun h0 m hm => by
      have he : entOf (es[m], m) ∈ (es.zipIdx.map entOf).toArray := by
        have : (es.zipIdx.map entOf)[m]? = some (entOf (es[m], m)) := by simp [hm]
        have := List.mem_of_getElem? this
        simpa using this
      have hemp := Array.eq_empty_of_size_eq_zero h0
      rw [Array.filter_eq_empty_iff] at hemp
      simpa [entOf] using hemp _ he
    generalize Array.filter (fun e => !seen.contains e.born) (es.zipIdx.map entOf).toArray = L at hmem hnone
    have e1 : L.filter (fun x => decide (x.born < es.length)) = L := Array.filter_eq_self.2 fun x hx => by
      obtain ⟨m, k, v, hm, rfl, _⟩ := hmem x hx
      have := (List.getElem?_eq_some_iff.1 hm).1
      exact decide_eq_true (by simpa [entOf] using this)
    have e2 : L.filter (fun x => decide (x.born ≥ es.length)) = #[] := by
      rw [Array.filter_eq_empty_iff]
      intro x hx
      obtain ⟨m, k, v, hm, rfl, _⟩ := hmem x hx
      have := (List.getElem?_eq_some_iff.1 hm).1
      simp [entOf]; omega
    simp only [e1, e2, Array.append_empty]
    by_cases h0 : L.size = 0
    · have hL : L = #[] := Array.eq_empty_of_size_eq_zero h0
      subst hL
      have hc : (choose (Question.mapNext (#[none] : Array (Option MapEntry)).size)).run P w = .ok 0 w := by simp [choose, Sem.run, Question.forced]
      have hl : ((if (#[] : Array MapEntry).isEmpty = true then #[none] else #[]) ++ Array.map some (#[] : Array MapEntry)) = (#[none] : Array (Option MapEntry)) := by simp
      rw [hl, Sem.run_bind, hc]
      exact ⟨own, hg, stay w, k0 (hnone rfl)⟩
    · have hne : L.isEmpty = false := by simp [Array.isEmpty, h0]
      simp only [hne, Bool.false_eq_true, if_false, Array.empty_append, Array.size_map]
      obtain ⟨n, w1, hn, hw1, hrun⟩ := run_chooseNext (P := P) w L.size (by omega)
      obtain ⟨m, k, v, hm, he, hs⟩ := hmem L[n] (Array.getElem_mem hn)
      have hg1 : Good Γ own w1 := by rcases hw1 with h | h <;> subst h; exact hg; exact hg.drew
      have hf1 : Fr (ids own) w w1 := by rcases hw1 with h | h <;> subst h; exact Fr.refl _ _; exact (Fr.refl _ _).drew
      have hsz : w1.heap = w.heap := by rcases hw1 with h | h <;> subst h <;> rfl
      have hit1 := obj_at hg1 hj rfl
      rw [Sem.run_bind, hrun, Result.andThen_ok]
      simp only [Array.getElem?_map, Array.getElem?_eq_getElem hn, Option.map_some]
      rw [Sem.run_bind, run_setIt hit1, Result.andThen_ok, he]
      refine ⟨_, hg1.setObj hj (itObj b es (seen.push m)), ⟨hf1.trans ((fr_setObj w1 bi _).mono (fun x hx => ?_)) (fun x hx => .inl hx), fun c hc => .inl (by rwa [ids_set hj] at hc)⟩, k1 m k v hm hs⟩
      have e : x = bi := by simpa using hx
      rw [e]; exact ids_mem (List.mem_of_getElem? hj)

theorem vops_entry (i j : Nat) {d : Nat} {x : Operand} {b bi m : Nat} {es : Ents} {seen : Array Nat} {k : List Int} {v : Int} (hx : ev f x = .pointer (some ⟨bi, 0, none⟩)) (hi : own[i]? = some (b, ⟨[], 0, 0, some (mapObj es)⟩)) (hj : own[j]? = some (bi, ⟨[], 0, 0, some (itObj b es (seen.push m))⟩))
    (hm : es[m]? = some (k, v)) (kk : VOps P Γ ops Q rest (upd f d (.tuple #[.agg (ints k).toArray, .int .i64 v])) own) :
    VOps P Γ ops Q (⟨some d, .entry x, ty, pos, aft, none⟩ :: rest) f own :=
  vops_go fun w hg => by
    show RunsTo P ((Instr.entry (ev f x) >>= fun v => pure (Next.value v)).run P w) _
    have hb := obj_at hg hi rfl
    have hit := obj_at hg hj rfl
    have hlt := (List.getElem?_eq_some_iff.1 hm).1
    have hfind : (es.zipIdx.map entOf).toArray.find? (·.born == m) = some (entOf ((k, v), m)) := by
      rw [← Array.find?_toList]
      refine find_born (entOf ((k, v), m)) _ ?_ ?_
      · have : ((es.zipIdx.map entOf).toArray.toList.map (·.born)) = List.range es.length := by
          apply List.ext_getElem?
          intro n
          by_cases hn : n < es.length
          · simp [hn, entOf]
          · simp [hn]
        rw [this]; exact List.nodup_range
      · have : (es.zipIdx.map entOf)[m]? = some (entOf ((k, v), m)) := by simp [hm]
        simpa using List.mem_of_getElem? this
    rw [hx, run_val]
    unfold Instr.entry
    simp only
    rw [Sem.run_bind, run_getIt hit, Result.andThen_ok]
    simp only [itObj, Array.back?_push]
    rw [Sem.run_bind, run_getMap hb, Result.andThen_ok]
    simp only [mapObj, bne_self_eq_false, Bool.false_eq_true, if_false, hfind]
    exact ⟨own, hg, stay w, kk⟩
end
end Go.VL
