import Derived.Test.YtlfflmoegfibgaaVLBA
import Derived.WideKeyRuns
/- A part of the proof: Map. No conditions of its own. -/
namespace Go.VL
open Go.RowKit

/-! maps from rows of numbers to numbers, to which entries are only added -/
abbrev Ents := List (List Int × Int)
def entOf (p : (List Int × Int) × Nat) : MapEntry := ⟨.agg (ints p.1.1).toArray, .int .i64 p.1.2, p.2⟩
def mapObj (es : Ents) : Obj := .map (es.zipIdx.map entOf).toArray es.length
def Ents.get (es : Ents) (k : List Int) : Int := match es.find? (fun e => decide (k = e.1)) with | some e => e.2 | none => 0

section
variable {P : Program} {T : Nat → Option TI}
theorem run_forU {P : Program} (w : World) (g : Nat → PUnit → Sem (ForInStep PUnit)) : ∀ (l : List Nat), (∀ i ∈ l, (g i ⟨⟩).run P w = .ok (.yield ⟨⟩) w) → (forIn l ⟨⟩ g).run P w = .ok ⟨⟩ w
  | [], _ => by simp
  | i :: l, h => by
    rw [List.forIn_cons, Sem.run_bind, h i (by simp), Result.andThen_ok]
    exact run_forU w g l (fun j hj => h j (by simp [hj]))

theorem run_checkKey_ints (hT : TyOk P T) (w : World) (em : Bool) (n len t e : Nat) (r : List Int) {a b b2 : Nat} {z z2 : List Value} (ht : T t = some ⟨.arr len e, a, b, z⟩) (he : T e = some ⟨.int .i64, 1, b2, z2⟩) (hr : r.length = len) :
    (Instr.checkKey em (n + 2) t (.agg (ints r).toArray)).run P w = .ok () w := by
  have hs : (sizeOf e).run P w = .ok 1 w := hT.size he w
  have hu := hT.und ht (d := .array len e) (fun d' hd' => hd')
  have hue := hT.und he (d := .int .i64) (fun d' hd' => hd')
  rw [Instr.checkKey, Sem.run_bind, run_underlying hu, Result.andThen_ok]
  simp only
  rw [Sem.run_bind, Std.Legacy.Range.forIn_eq_forIn_range']
  rw [run_forU w _ _ (fun i hi => ?_)]
  · rfl
  · have hi' : i < len := by
      have := List.mem_range'.1 hi
      obtain ⟨j, hj, rfl⟩ := this
      simp [Std.Legacy.Range.size] at hj ⊢; omega
    rw [Sem.run_bind, hs, Result.andThen_ok, Nat.mul_one, Sem.run_bind, run_part_ints hT he (by omega), Result.andThen_ok]
    rw [Sem.run_bind, Instr.checkKey, Sem.run_bind, run_underlying hue, Result.andThen_ok]
    rfl

theorem run_findAsking_ints (hT : TyOk P T) (w : World) (len t e : Nat) (k : List Int) {a b b2 : Nat} {z z2 : List Value} (ht : T t = some ⟨.arr len e, a, b, z⟩) (he : T e = some ⟨.int .i64, 1, b2, z2⟩) (hk : k.length = len) :
    ∀ (es : Ents), (∀ p ∈ es, p.1.length = len) → ∀ (j m : Nat), (Instr.findAsking t (.agg (ints k).toArray) ((es.zipIdx m).map entOf) j).run P w =
      .ok ((es.findIdx? (fun p => decide (k = p.1))).map fun i => (j + i, .int .i64 (es.get k))) w
  | [], _, j, m => rfl
  | p :: es, hes, j, m => by
    have ih := run_findAsking_ints hT w len t e k ht he hk es (fun q hq => hes q (by simp [hq]))
    have heq : (Op.equal t (.agg (ints k).toArray) (.agg (ints p.1).toArray)).run P w = .ok (decide (k = p.1)) w := run_equalIn_arr hT w _ len t e k p.1 ht he hk (hes p (by simp))
    rw [List.zipIdx_cons, List.map_cons, Instr.findAsking, Sem.run_bind]
    rw [show (entOf (p, m)).key = .agg (ints p.1).toArray from rfl, heq, Result.andThen_ok, List.findIdx?_cons]
    by_cases h : k = p.1
    · simp only [h, decide_true, if_true]
      simp [Ents.get, entOf]
    · simp only [h, decide_false, Bool.false_eq_true, if_false]
      rw [ih (j + 1) (m + 1)]
      cases hf : es.findIdx? (fun p => decide (k = p.1)) with
      | none => simp
      | some i => simp [Ents.get, h, Nat.add_comm, Nat.add_left_comm]
theorem run_findKey_ints (hT : TyOk P T) (w : World) (len t e : Nat) (k : List Int) {a b b2 : Nat} {z z2 : List Value} (ht : T t = some ⟨.arr len e, a, b, z⟩) (he : T e = some ⟨.int .i64, 1, b2, z2⟩) (hk : k.length = len)
    (es : Ents) (hes : ∀ p ∈ es, p.1.length = len) : (Instr.findKey t (.agg (ints k).toArray) (es.zipIdx.map entOf)).run P w = .ok ((es.findIdx? (fun p => decide (k = p.1))).map fun i => (i, .int .i64 (es.get k))) w := by
  have hu := hT.und ht (d := .array len e) (fun d' hd' => hd')
  refine (run_findKey_eq (P := P) (w := w) (k := t) (by rw [hu]) (.agg (ints k).toArray) (es.zipIdx.map entOf)).trans ?_
  have := run_findAsking_ints hT w len t e k ht he hk es hes 0 0
  simpa using this
theorem sameBits_ints (k : List Int) : Instr.sameBits 10000 (.agg (ints k).toArray) (.agg (ints k).toArray) = true := by
  have h : ∀ (l : List Int), ((ints l).zip (ints l)).all (fun p => Instr.sameBits 9999 p.1 p.2) = true := fun l => by
    induction l with
    | nil => rfl
    | cons x l ih => simp only [ints, List.map_cons, List.zip_cons_cons, List.all_cons, Bool.and_eq_true]; exact ⟨by simp [Instr.sameBits], ih⟩
  have := h k
  simp only [Instr.sameBits]
  simpa using this

end

/-! the steps -/
section
variable {P : Program} {T : Nat → Option TI} {Γ : Ctx} {ops : Array Oper} {Q : (Nat → Value) → Own → Prop} {rest : List Oper} {f : Nat → Value} {own : Own}
variable {ty : TypeId} {pos : String} {aft : Array Edge}

theorem Good.newObj {w : World} (hg : Good Γ own w) (o : Obj) : Good Γ ((w.heap.size, ⟨[], 0, 0, some o⟩) :: own) (w.alloc o) ∧ w.heap.size ∉ ids own ∧ Fr [] w (w.alloc o) := by
  have hfr : Fr [] w (w.alloc o) := ⟨rfl, rfl, rfl, Nat.le_refl _, by simp, fun k hk _ => heap_alloc_old w _ k hk⟩
  have hno : w.heap.size ∉ ids own := fun h => Nat.lt_irrefl _ (hg.ok.lt h)
  refine ⟨⟨hg.fr.trans hfr (by simp), ⟨?_, fun b k hb => ?_⟩, fun b k hb => ?_⟩, hno, hfr⟩
  · show (w.heap.size :: ids own).Nodup
    exact List.nodup_cons.2 ⟨hno, hg.ok.nodup⟩
  · rcases List.mem_cons.1 hb with h | h
    · cases h; exact Blk.ofObj (heap_alloc_new w _)
    · exact (hg.ok.same hfr).blk b k h
  · rcases List.mem_cons.1 hb with h | h
    · cases h; exact .inr hg.fr.size
    · exact hg.mine b k h

theorem vops_makeMap {d t : Nat} (k : ∀ b, b ∉ ids own → VOps P Γ ops Q rest (upd f d (.map (some b))) ((b, ⟨[], 0, 0, some (mapObj [])⟩) :: own)) :
    VOps P Γ ops Q (⟨some d, .makeMap t none, ty, pos, aft, none⟩ :: rest) f own :=
  vops_go fun w hg => by
    show RunsTo P ((Instr.makeMap t none >>= fun v => pure (Next.value v)).run P w) _
    have : (Instr.makeMap t none).run P w = .ok (.map (some w.heap.size)) (w.alloc (mapObj [])) := rfl
    rw [run_val, this]
    obtain ⟨g1, g2, g3⟩ := hg.newObj (mapObj [])
    refine ⟨_, g1, ⟨g3.mono (by simp), fun c hc => ?_⟩, k _ g2⟩
    rcases List.mem_cons.1 hc with h | h
    · exact .inr (Nat.le_of_eq h.symm)
    · exact .inl h

theorem obj_at {w : World} (hg : Good Γ own w) {i b : Nat} {k : Blk} {o : Obj} (hi : own[i]? = some (b, k)) (hk : k.obj = some o) : w.heap[b]? = some o := (hg.ok.blk b k (List.mem_of_getElem? hi)).toObj hk
theorem run_getMap {w : World} {b : Nat} {es : Ents} (h : w.heap[b]? = some (mapObj es)) : (getObj b).run P w = .ok (mapObj es) w := by
  unfold mapObj at *
  simp [getObj, Sem.run, h]

theorem run_zero0 {w : World} {et : Nat} {v : Value} (h : (P.info? et).bind (·.zero) = some v) : (zeroValue et).run P w = .ok v w := by
  cases hx : P.info? et with
  | none => simp [hx] at h
  | some x =>
    simp only [hx, Option.bind_some] at h
    simp [zeroValue, typeInfo, hx, h]

/-- The entry of a key, laid where there is none. -/
def Ents.laid (es : Ents) (k : List Int) : Ents := match es.findIdx? (fun p => decide (k = p.1)) with | some _ => es | none => es ++ [(k, 0)]
def Ents.at (es : Ents) (k : List Int) : Nat := match es.findIdx? (fun p => decide (k = p.1)) with | some i => i | none => es.length

theorem idx_get {k : List Int} : ∀ {es : Ents} {j : Nat}, es.findIdx? (fun p => decide (k = p.1)) = some j → ∃ v, es[j]? = some (k, v) ∧ es.get k = v
  | [], j, h => by simp at h
  | p :: es, j, h => by
    rw [List.findIdx?_cons] at h
    by_cases hp : k = p.1
    · simp only [hp, decide_true, if_true, Option.some.injEq] at h
      subst h
      exact ⟨p.2, by simp [hp], by simp [Ents.get, hp]⟩
    · simp only [hp, decide_false, Bool.false_eq_true, if_false, Option.map_eq_some_iff] at h
      obtain ⟨i, hi, rfl⟩ := h
      obtain ⟨v, h1, h2⟩ := idx_get hi
      exact ⟨v, by simpa using h1, by simpa [Ents.get, hp] using h2⟩

theorem born_idx : ∀ (es : Ents) (m j : Nat), j < es.length → ((es.zipIdx m).map entOf).findIdx? (fun e => (e.born : Int) == ((m + j : Nat) : Int)) = some j
  | [], _, _, h => by simp at h
  | p :: es, m, 0, _ => by simp [List.findIdx?_cons, entOf]
  | p :: es, m, j + 1, h => by
    have ih := born_idx es (m + 1) j (by simpa using h)
    rw [List.zipIdx_cons, List.map_cons, List.findIdx?_cons]
    have hne : (((entOf (p, m)).born : Int) == ((m + (j + 1) : Nat) : Int)) = false := by
      simp [entOf]; omega
    rw [hne]
    have e : m + 1 + j = m + (j + 1) := by omega
    rw [e] at ih
    simp only [Bool.false_eq_true, if_false, ih, Option.map_some]
theorem fr_setObj (w : World) (b : Nat) (o : Obj) : Fr [b] w { w with heap := w.heap.setIfInBounds b o } :=
  ⟨rfl, rfl, rfl, Nat.le_refl _, by simp, fun c _ hne => Array.getElem?_setIfInBounds_ne (by simpa [eq_comm] using hne)⟩
theorem run_setMap {w : World} {b : Nat} {es : Ents} (h : w.heap[b]? = some (mapObj es)) (o : Obj) : (setObj b o).run P w = .ok () { w with heap := w.heap.setIfInBounds b o } := by
  unfold mapObj at h
  simp [setObj, Sem.run, h]
theorem Good.setObj {w : World} (hg : Good Γ own w) {i b : Nat} {k : Blk} (hi : own[i]? = some (b, k)) (o : Obj) :
    Good Γ (own.set i (b, ⟨[], 0, 0, some o⟩)) { w with heap := w.heap.setIfInBounds b o } := by
  have hlt := hg.ok.lt (ids_mem (List.mem_of_getElem? hi))
  exact hg.write hi (fr_setObj w b o) (Blk.ofObj (by show (w.heap.setIfInBounds b o)[b]? = _; rw [Array.getElem?_setIfInBounds_self_of_lt hlt]))

theorem map_set {es : Ents} {i : Nat} {p : List Int × Int} (v : Int) (hi : es[i]? = some p) :
    ((es.zipIdx.map entOf).toArray.modify i fun e => { e with val := .int .i64 v }) = ((es.set i (p.1, v)).zipIdx.map entOf).toArray := by
  apply Array.ext_getElem?
  intro j
  rw [Array.getElem?_modify]
  by_cases hj : i = j
  · subst hj
    have hlt := (List.getElem?_eq_some_iff.1 hi).1
    have he : es[i] = p := by rw [List.getElem?_eq_getElem hlt] at hi; exact Option.some.inj hi
    simp [hlt, entOf, he]
  · simp [hj, List.getElem?_set_ne hj]
theorem map_key {es : Ents} {i : Nat} {k : List Int} {v : Int} (hi : es[i]? = some (k, v)) :
    ((es.zipIdx.map entOf).toArray.modify i fun e => { e with key := .agg (ints k).toArray }) = (es.zipIdx.map entOf).toArray := by
  apply Array.ext_getElem?
  intro j
  rw [Array.getElem?_modify]
  by_cases hj : i = j
  · subst hj
    simp [hi, entOf]
  · simp [hj]

theorem vops_lookup (i : Nat) (hT : TyOk P T) {d t kt et len e : Nat} {x y : Operand} {b : Nat} {es : Ents} {k : List Int} {a b1 b2 : Nat} {z z2 : List Value} (hm : P.underlying t = some (.map kt et)) (ht : T kt = some ⟨.arr len e, a, b1, z⟩) (he : T e = some ⟨.int .i64, 1, b2, z2⟩)
    (hz0 : (P.info? et).bind (·.zero) = some (.int .i64 0)) (hx : ev f x = .map (some b)) (hy : ev f y = .agg (ints k).toArray) (hk : k.length = len) (hes : ∀ p ∈ es, p.1.length = len) (hi : own[i]? = some (b, ⟨[], 0, 0, some (mapObj es)⟩))
    (kk : VOps P Γ ops Q rest (upd f d (.int .i64 (es.get k))) own) :
    VOps P Γ ops Q (⟨some d, .lookup t x y false, ty, pos, aft, none⟩ :: rest) f own :=
  vops_go fun w hg => by
    show RunsTo P ((Instr.lookup t (ev f x) (ev f y) false >>= fun v => pure (Next.value v)).run P w) _
    have hb := obj_at hg hi rfl
    have hck := run_checkKey_ints hT w (es.zipIdx.map entOf).toArray.isEmpty 9998 len kt e k ht he hk
    have hfk := run_findKey_ints hT w len kt e k ht he hk es hes
    have : (Instr.lookup t (ev f x) (ev f y) false).run P w = .ok (.int .i64 (es.get k)) w := by
      rw [hx, hy]
      unfold Instr.lookup
      rw [Sem.run_bind, run_underlying hm, Result.andThen_ok]
      simp only
      rw [Sem.run_bind, run_getMap hb, Result.andThen_ok]
      simp only [mapObj]
      rw [Sem.run_bind, Sem.run_pure, Result.andThen_ok, Sem.run_bind, hck, Result.andThen_ok, Sem.run_bind]
      show ((Instr.findKey kt (Value.agg (ints k).toArray) (es.zipIdx.map entOf)).run P w).andThen _ = _
      rw [hfk, Result.andThen_ok]
      cases hf : es.findIdx? (fun p => decide (k = p.1)) with
      | none =>
        have hz1 := run_zero0 (w := w) hz0
        have hget : es.get k = 0 := by
          unfold Ents.get
          rw [List.find?_eq_none.2 (fun p hp => by simpa using List.findIdx?_eq_none_iff.1 hf p hp)]
        simp [hz1, hget]
      | some i => simp
    rw [run_val, this]
    exact ⟨own, hg, stay w, kk⟩

theorem vops_mapEntry (i : Nat) (hT : TyOk P T) {d t kt et len e : Nat} {x y : Operand} {b : Nat} {es : Ents} {k : List Int} {a b1 b2 : Nat} {z z2 : List Value} (hm : P.underlying t = some (.map kt et)) (ht : T kt = some ⟨.arr len e, a, b1, z⟩) (he : T e = some ⟨.int .i64, 1, b2, z2⟩)
    (hz0 : (P.info? et).bind (·.zero) = some (.int .i64 0)) (hx : ev f x = .map (some b)) (hy : ev f y = .agg (ints k).toArray) (hk : k.length = len) (hes : ∀ p ∈ es, p.1.length = len) (hi : own[i]? = some (b, ⟨[], 0, 0, some (mapObj es)⟩))
    (kk : VOps P Γ ops Q rest (upd f d (.tuple #[.int .i64 (es.get k), .int .i64 (es.at k)])) (own.set i (b, ⟨[], 0, 0, some (mapObj (es.laid k))⟩))) :
    VOps P Γ ops Q (⟨some d, .mapEntry t x y, ty, pos, aft, none⟩ :: rest) f own :=
  vops_go fun w hg => by
    show RunsTo P ((Instr.mapEntry t (ev f x) (ev f y) >>= fun v => pure (Next.value v)).run P w) _
    have hb := obj_at hg hi rfl
    have hck := run_checkKey_ints hT w false 9998 len kt e k ht he hk
    have hfk := run_findKey_ints hT w len kt e k ht he hk es hes
    have : (Instr.mapEntry t (ev f x) (ev f y)).run P w = .ok (.tuple #[.int .i64 (es.get k), .int .i64 (es.at k)]) { w with heap := w.heap.setIfInBounds b (mapObj (es.laid k)) } := by
      rw [hx, hy]
      unfold Instr.mapEntry
      rw [Sem.run_bind, run_underlying hm, Result.andThen_ok]
      simp only
      rw [Sem.run_bind, run_getMap hb, Result.andThen_ok]
      simp only [mapObj]
      rw [Sem.run_bind, hck, Result.andThen_ok, Sem.run_bind]
      show ((Instr.findKey kt (Value.agg (ints k).toArray) (es.zipIdx.map entOf)).run P w).andThen _ = _
      rw [hfk, Result.andThen_ok]
      cases hf : es.findIdx? (fun p => decide (k = p.1)) with
      | none =>
        have hz1 := run_zero0 (w := w) hz0
        have hget : es.get k = 0 := by
          unfold Ents.get
          rw [List.find?_eq_none.2 (fun p hp => by simpa using List.findIdx?_eq_none_iff.1 hf p hp)]
        simp only [Option.map_none]
        rw [Sem.run_bind, hz1, Result.andThen_ok, Sem.run_bind, run_setMap hb, Result.andThen_ok]
        simp [hget, Ents.at, Ents.laid, hf, goInt, List.zipIdx_append, entOf]
      | some j =>
        obtain ⟨v, hj, hv⟩ := idx_get hf
        have hent : (es.zipIdx.map entOf).toArray[j]? = some (entOf ((k, v), j)) := by simp [hj]
        have hst : ∀ w : World, (Instr.keyThatStays (.agg (ints k).toArray) (.agg (ints k).toArray)).run P w = .ok (.agg (ints k).toArray) w := fun w => by
          unfold Instr.keyThatStays
          rw [if_pos (sameBits_ints k)]; rfl
        simp only [Option.map_some, hent]
        show ((Instr.keyThatStays (.agg (ints k).toArray) (.agg (ints k).toArray) >>= _).run P w) = _
        rw [Sem.run_bind, hst, Result.andThen_ok, Sem.run_bind, run_setMap hb, Result.andThen_ok, map_key hj]
        simp [Ents.at, Ents.laid, hf, goInt, entOf]
    rw [run_val, this]
    exact ⟨_, hg.setObj hi _, ⟨(fr_setObj w b _).mono (fun x hx => by
      have e : x = b := by simpa using hx
      rw [e]; exact ids_mem (List.mem_of_getElem? hi)), fun c hc => .inl (by rwa [ids_set hi] at hc)⟩, kk⟩

theorem vops_entryStore (i : Nat) {t : Nat} {x y z : Operand} {b j : Nat} {es : Ents} {k : List Int} {v0 v : Int} (hx : ev f x = .map (some b)) (hy : ev f y = .int .i64 j) (hz : ev f z = .int .i64 v) (hj : es[j]? = some (k, v0))
    (hi : own[i]? = some (b, ⟨[], 0, 0, some (mapObj es)⟩))
    (kk : VOps P Γ ops Q rest f (own.set i (b, ⟨[], 0, 0, some (mapObj (es.set j (k, v)))⟩))) :
    VOps P Γ ops Q (⟨none, .entryStore t x y z, ty, pos, aft, none⟩ :: rest) f own :=
  vops_go0 fun w hg => by
    show RunsTo P ((do Instr.entryStore t (ev f x) (ev f y) (ev f z); pure Next.skip : Sem Next).run P w) _
    have hb := obj_at hg hi rfl
    have hlt := (List.getElem?_eq_some_iff.1 hj).1
    have hfi : (es.zipIdx.map entOf).toArray.findIdx? (fun e => (e.born : Int) == (j : Int)) = some j := by
      have := born_idx es 0 j hlt
      simpa using this
    have : (Instr.entryStore t (ev f x) (ev f y) (ev f z)).run P w = .ok () { w with heap := w.heap.setIfInBounds b (mapObj (es.set j (k, v))) } := by
      rw [hx, hy, hz]
      unfold Instr.entryStore
      simp only
      rw [Sem.run_bind, run_getMap hb, Result.andThen_ok]
      simp only [mapObj]
      rw [Sem.run_bind]
      rw [show (asInt (.int .i64 (j : Int))).run P w = .ok (j : Int) w from rfl, Result.andThen_ok, hfi]
      simp only
      rw [run_setMap hb, map_set v hj]
      simp
    rw [Sem.run_bind, this]
    exact ⟨_, hg.setObj hi _, ⟨(fr_setObj w b _).mono (fun x hx => by
      have e : x = b := by simpa using hx
      rw [e]; exact ids_mem (List.mem_of_getElem? hi)), fun c hc => .inl (by rwa [ids_set hi] at hc)⟩, kk⟩
end
end Go.VL
