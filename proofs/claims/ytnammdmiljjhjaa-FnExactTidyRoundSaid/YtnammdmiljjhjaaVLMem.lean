import Derived.Test.YtnammdmiljjhjaaVLOp
import Derived.Laws.AppendOwn
/- A part of the proof: Mem. No conditions of its own. -/
namespace Go.VL
open Go.RowKit

/-! own lists -/
theorem ids_set {own : Own} {i : Nat} {b : Nat} {k k' : Blk} (h : own[i]? = some (b, k)) : ids (own.set i (b, k')) = ids own := by
  unfold ids
  rw [List.map_set]
  apply List.ext_getElem?
  intro j
  by_cases hj : i = j
  · subst hj
    have hlt := (List.getElem?_eq_some_iff.1 h).1
    rw [List.getElem?_set_self (by simpa using hlt), List.getElem?_map, h]; rfl
  · rw [List.getElem?_set_ne hj]

theorem mem_set_cases {own : Own} {i : Nat} {x p : Nat × Blk} (h : p ∈ own.set i x) : p = x ∨ ∃ j, j ≠ i ∧ own[j]? = some p := by
  obtain ⟨j, hj⟩ := List.mem_iff_getElem?.1 h
  by_cases hij : i = j
  · subst hij
    rw [List.getElem?_set] at hj
    simp only [if_true] at hj
    split at hj
    · left; exact (Option.some.inj hj).symm
    · cases hj
  · rw [List.getElem?_set_ne hij] at hj
    exact .inr ⟨j, fun e => hij e.symm, hj⟩

theorem nodup_idx {own : Own} (h : (ids own).Nodup) {i j : Nat} {b : Nat} {k k' : Blk} (hi : own[i]? = some (b, k)) (hj : own[j]? = some (b, k')) : i = j := by
  have h1 : (ids own)[i]? = some b := by unfold ids; rw [List.getElem?_map, hi]; rfl
  have h2 : (ids own)[j]? = some b := by unfold ids; rw [List.getElem?_map, hj]; rfl
  have hl : i < (ids own).length := (List.getElem?_eq_some_iff.1 h1).1
  exact (List.getElem?_inj hl h).1 (h1.trans h2.symm)

/-- One block of the call's own gets a new content. -/
theorem Good.write {Γ : Ctx} {own : Own} {w w' : World} {i b : Nat} {k k' : Blk} (hg : Good Γ own w) (hi : own[i]? = some (b, k)) (hf : Fr [b] w w')
    (hn : k'.at w'.heap[b]?) : Good Γ (own.set i (b, k')) w' := by
  have hm : (b, k) ∈ own := List.mem_of_getElem? hi
  have hmine : ∀ x ∈ [b], x ∈ Γ.W ∨ Γ.w0.heap.size ≤ x := fun x hx => by
    have e : x = b := by simpa using hx
    rw [e]; exact hg.mine b k hm
  refine ⟨hg.fr.trans hf hmine, ⟨by rw [ids_set hi]; exact hg.ok.nodup, fun c q hc => ?_⟩, fun c q hc => ?_⟩
  · rcases mem_set_cases hc with h | ⟨j, hj, hjj⟩
    · cases h; exact hn
    · have h1 := hg.ok.blk c q (List.mem_of_getElem? hjj)
      have hne : c ≠ b := fun e => by subst e; exact hj (nodup_idx hg.ok.nodup hjj hi)
      rw [hf.block c (hg.ok.lt (ids_mem (List.mem_of_getElem? hjj))) (by simpa using hne)]; exact h1
  · rcases mem_set_cases hc with h | ⟨j, hj, hjj⟩
    · cases h; exact hg.mine b k hm
    · exact hg.mine c q (List.mem_of_getElem? hjj)

/-- A new block. -/
theorem Good.new {Γ : Ctx} {own : Own} {w : World} (hg : Good Γ own w) (arr : Array Value) (e : TypeId) :
    Good Γ ((w.heap.size, ⟨arr.toList, e, arr.size, none⟩) :: own) (w.alloc (.cells arr e)) ∧ w.heap.size ∉ ids own ∧ Fr [] w (w.alloc (.cells arr e)) := by
  have hfr : Fr [] w (w.alloc (.cells arr e)) := ⟨rfl, rfl, rfl, Nat.le_refl _, by simp, fun k hk _ => heap_alloc_old w _ k hk⟩
  have hno : w.heap.size ∉ ids own := fun h => Nat.lt_irrefl _ (hg.ok.lt h)
  refine ⟨⟨hg.fr.trans hfr (by simp), ⟨?_, fun b k hb => ?_⟩, fun b k hb => ?_⟩, hno, hfr⟩
  · show (w.heap.size :: ids own).Nodup
    exact List.nodup_cons.2 ⟨hno, hg.ok.nodup⟩
  · rcases List.mem_cons.1 hb with h | h
    · cases h; exact Blk.ofRow ⟨arr, heap_alloc_new w _, rfl, fun i v hv => by simpa using hv⟩
    · exact (hg.ok.same hfr).blk b k h
  · rcases List.mem_cons.1 hb with h | h
    · cases h; exact .inr hg.fr.size
    · exact hg.mine b k h

/-! what is seen -/
def Sees (Γ : Ctx) (own : Own) (b o : Nat) (v : Value) : Prop := ∀ w, Good Γ own w → w.cell? ⟨b, o, none⟩ = some v
def SeesL (Γ : Ctx) (own : Own) (b o : Nat) (cs : List Value) : Prop := ∀ j v, cs[j]? = some v → Sees Γ own b (o + j) v

theorem sees_mem {Γ : Ctx} {own : Own} {b o : Nat} {k : Blk} {v : Value} (h : (b, k) ∈ own) (hv : k.cells[o]? = some v) : Sees Γ own b o v :=
  fun _ hg => cell_of_blk hg.ok h hv
theorem sees_at {Γ : Ctx} {own : Own} {b o : Nat} (i : Nat) {k : Blk} {v : Value} (h : own[i]? = some (b, k)) (hv : k.cells[o]? = some v) : Sees Γ own b o v :=
  sees_mem (List.mem_of_getElem? h) hv
theorem sees_old {Γ : Ctx} {own : Own} {b o : Nat} {v : Value} (h : Γ.w0.cell? ⟨b, o, none⟩ = some v) (hb : b ∉ Γ.W) : Sees Γ own b o v :=
  fun _ hg => hg.fr.cell hb h
theorem seesL_at {Γ : Ctx} {own : Own} {b : Nat} (i : Nat) {k : Blk} {cs : List Value} (h : own[i]? = some (b, k)) (hv : k.cells = cs) : SeesL Γ own b 0 cs :=
  fun j v hj => by rw [Nat.zero_add]; exact sees_at i h (by rw [hv]; exact hj)

section
variable {P : Program} {T : Nat → Option TI} {Γ : Ctx} {ops : Array Oper} {Q : (Nat → Value) → Own → Prop} {rest : List Oper} {f : Nat → Value} {own : Own}
variable {ty : TypeId} {pos : String} {aft : Array Edge}

/-! taking a step -/
theorem vops_go {d : Nat} {op : Op} (h : Step P Γ ⟨some d, op, ty, pos, aft, none⟩ f own (fun v own' => VOps P Γ ops Q rest (upd f d v) own')) : VOps P Γ ops Q (⟨some d, op, ty, pos, aft, none⟩ :: rest) f own := h
theorem vops_go0 {op : Op} (h : Step P Γ ⟨none, op, ty, pos, aft, none⟩ f own (fun _ own' => VOps P Γ ops Q rest f own')) : VOps P Γ ops Q (⟨none, op, ty, pos, aft, none⟩ :: rest) f own := h
theorem vops_nil (h : Q f own) : VOps P Γ ops Q [] f own := h

/-- A guarded operation: the guard is known. -/
theorem vops_gon {d : Tmp} {op : Op} {j : Nat} {want : Bool} (hg : gval ops f j = some want)
    (h : VOps P Γ ops Q (⟨some d, op, ty, pos, aft, none⟩ :: rest) f own) : VOps P Γ ops Q (⟨some d, op, ty, pos, aft, some (j, want)⟩ :: rest) f own := by
  have h' : Step P Γ ⟨some d, op, ty, pos, aft, none⟩ f own (fun v own' => VOps P Γ ops Q rest (upd f d v) own') := h
  exact .inl ⟨hg, h'⟩
theorem vops_goff {d : Tmp} {op : Op} {j : Nat} {want b : Bool} (hg : gval ops f j = some b) (hb : b ≠ want)
    (h : VOps P Γ ops Q rest (upd f d undef) own) : VOps P Γ ops Q (⟨some d, op, ty, pos, aft, some (j, want)⟩ :: rest) f own :=
  .inr ⟨by rw [hg]; simpa using hb, h⟩
theorem upd_self (f : Nat → Value) (d : Nat) : upd f d (f d) = f := by
  funext t
  by_cases h : t = d
  · subst h; rw [upd_same]
  · rw [upd_ne _ _ h]
/-- A slot that holds a test: both ways. -/
theorem vops_split {l : List Oper} (t : Nat) {p : Prop} [Decidable p] (hf : f t = .bool (decide p)) (ht : p → VOps P Γ ops Q l (upd f t (.bool true)) own) (hn : ¬ p → VOps P Γ ops Q l (upd f t (.bool false)) own) :
    VOps P Γ ops Q l f own := by
  by_cases h : p
  · have := ht h
    rwa [show upd f t (.bool true) = f by rw [show Value.bool true = f t by rw [hf, decide_eq_true h]]; exact upd_self f t] at this
  · have := hn h
    rwa [show upd f t (.bool false) = f by rw [show Value.bool false = f t by rw [hf, decide_eq_false h]]; exact upd_self f t] at this
theorem vops_splitn {l : List Oper} (t : Nat) {p : Prop} [Decidable p] (hf : f t = .bool (!decide p)) (ht : p → VOps P Γ ops Q l (upd f t (.bool false)) own) (hn : ¬ p → VOps P Γ ops Q l (upd f t (.bool true)) own) :
    VOps P Γ ops Q l f own := by
  by_cases h : p
  · have := ht h
    rwa [show upd f t (.bool false) = f by rw [show Value.bool false = f t by rw [hf, decide_eq_true h]; rfl]; exact upd_self f t] at this
  · have := hn h
    rwa [show upd f t (.bool true) = f by rw [show Value.bool true = f t by rw [hf, decide_eq_false h]; rfl]; exact upd_self f t] at this
theorem vops_splitb {l : List Oper} (t : Nat) {b : Bool} (hf : f t = .bool b) (ht : b = true → VOps P Γ ops Q l (upd f t (.bool true)) own) (hn : b = false → VOps P Γ ops Q l (upd f t (.bool false)) own) :
    VOps P Γ ops Q l f own := by
  cases b
  · have := hn rfl
    rwa [show upd f t (.bool false) = f by rw [← hf]; exact upd_self f t] at this
  · have := ht rfl
    rwa [show upd f t (.bool true) = f by rw [← hf]; exact upd_self f t] at this

theorem gval_of {j t : Nat} {b : Bool} (hd : (ops[j]?).bind (·.dst) = some t) (hf : f t = .bool b) : gval ops f j = some b := by
  unfold gval; rw [hd]
  show (match f t with | .bool b => some b | _ => none) = some b
  rw [hf]
/-- A guard that is a test: both ways. -/
theorem vops_gsplit {d : Tmp} {op : Op} {j t : Nat} {want : Bool} {p : Prop} [Decidable p] (hd : (ops[j]?).bind (·.dst) = some t) (hf : f t = .bool (decide p))
    (ht : p → VOps P Γ ops Q (⟨some d, op, ty, pos, aft, some (j, want)⟩ :: rest) (upd f t (.bool true)) own)
    (hn : ¬ p → VOps P Γ ops Q (⟨some d, op, ty, pos, aft, some (j, want)⟩ :: rest) (upd f t (.bool false)) own) :
    VOps P Γ ops Q (⟨some d, op, ty, pos, aft, some (j, want)⟩ :: rest) f own := (fun _ => vops_split t hf ht hn) hd
theorem vops_gsplitn {d : Tmp} {op : Op} {j t : Nat} {want : Bool} {p : Prop} [Decidable p] (hd : (ops[j]?).bind (·.dst) = some t) (hf : f t = .bool (!decide p))
    (ht : p → VOps P Γ ops Q (⟨some d, op, ty, pos, aft, some (j, want)⟩ :: rest) (upd f t (.bool false)) own)
    (hn : ¬ p → VOps P Γ ops Q (⟨some d, op, ty, pos, aft, some (j, want)⟩ :: rest) (upd f t (.bool true)) own) :
    VOps P Γ ops Q (⟨some d, op, ty, pos, aft, some (j, want)⟩ :: rest) f own := (fun _ => vops_splitn t hf ht hn) hd
theorem vops_gsplitb {d : Tmp} {op : Op} {j t : Nat} {want b : Bool} (hd : (ops[j]?).bind (·.dst) = some t) (hf : f t = .bool b)
    (ht : b = true → VOps P Γ ops Q (⟨some d, op, ty, pos, aft, some (j, want)⟩ :: rest) (upd f t (.bool true)) own)
    (hn : b = false → VOps P Γ ops Q (⟨some d, op, ty, pos, aft, some (j, want)⟩ :: rest) (upd f t (.bool false)) own) :
    VOps P Γ ops Q (⟨some d, op, ty, pos, aft, some (j, want)⟩ :: rest) f own := (fun _ => vops_splitb t hf ht hn) hd

/-- A guarded operation. -/
theorem vops_guardT {d : Tmp} {op : Op} {j t : Nat} {b : Bool} (hd : (ops[j]?).bind (·.dst) = some t) (hf : f t = .bool b)
    (h : BSplit b (VOps P Γ ops Q (⟨some d, op, ty, pos, aft, none⟩ :: rest) (upd f t (.bool true)) own) (VOps P Γ ops Q rest (upd (upd f t (.bool false)) d undef) own)) :
    VOps P Γ ops Q (⟨some d, op, ty, pos, aft, some (j, true)⟩ :: rest) f own := by
  cases b
  · have := h.2 rfl
    rw [← hf, upd_self] at this
    exact vops_goff (gval_of hd hf) (by decide) this
  · have := h.1 rfl
    rw [← hf, upd_self] at this
    exact vops_gon (gval_of hd hf) this
theorem vops_guardF {d : Tmp} {op : Op} {j t : Nat} {b : Bool} (hd : (ops[j]?).bind (·.dst) = some t) (hf : f t = .bool b)
    (h : BSplit b (VOps P Γ ops Q rest (upd (upd f t (.bool true)) d undef) own) (VOps P Γ ops Q (⟨some d, op, ty, pos, aft, none⟩ :: rest) (upd f t (.bool false)) own)) :
    VOps P Γ ops Q (⟨some d, op, ty, pos, aft, some (j, false)⟩ :: rest) f own := by
  cases b
  · have := h.2 rfl
    rw [← hf, upd_self] at this
    exact vops_gon (gval_of hd hf) this
  · have := h.1 rfl
    rw [← hf, upd_self] at this
    exact vops_goff (gval_of hd hf) (by decide) this

/-- .. whose guard itself was not run. -/
theorem vops_guardU {d : Tmp} {op : Op} {j t : Nat} {want : Bool} (hd : (ops[j]?).bind (·.dst) = some t) (hf : f t = .tuple #[])
    (h : VOps P Γ ops Q rest (upd f d undef) own) : VOps P Γ ops Q (⟨some d, op, ty, pos, aft, some (j, want)⟩ :: rest) f own :=
  .inr ⟨by
    unfold gval; rw [hd]
    show (match f t with | .bool b => some b | _ => none) ≠ some want
    rw [hf]; simp, h⟩

/-- An operation that touches no memory. -/
theorem vops_p (hT : TyOk P T) {d : Nat} {op : Op} {c : Prop} {v : Value} (h : aexec T f op = some (c, v)) (hc : c) (k : VOps P Γ ops Q rest (upd f d v) own) :
    VOps P Γ ops Q (⟨some d, op, ty, pos, aft, none⟩ :: rest) f own :=
  vops_go fun w hg => by rw [aexec_sound hT h hc]; exact ⟨own, hg, stay w, k⟩
/-- .. where no condition is. -/
theorem vops_q (hT : TyOk P T) {d : Nat} {op : Op} {v : Value} (h : aexec T f op = some (True, v)) (k : VOps P Γ ops Q rest (upd f d v) own) :
    VOps P Γ ops Q (⟨some d, op, ty, pos, aft, none⟩ :: rest) f own := vops_p hT h trivial k

theorem sizeAgg {t : Nat} {i : TI} (hT : TyOk P T) (ht : T t = some i) (ha : i.isAgg = true) (w : World) : (isAgg t).run P w = .ok true w := by
  obtain ⟨d, hd, hf⟩ := (hT t i ht).desc
  unfold isAgg
  rw [Sem.run_bind, run_underlying hd]
  cases hs : i.sh <;> simp only [TI.isAgg, hs, Bool.false_eq_true] at ha <;> simp only [hs, Sh.fits] at hf
  · subst hf; rfl
  · obtain ⟨fields, rfl, _⟩ := hf; rfl

theorem run_loadCells {w : World} {b o : Nat} : ∀ (cs : List Value) (i : Nat) (acc : Array Value), (∀ j v, cs[j]? = some v → w.cell? ⟨b, o + (i + j), none⟩ = some v) →
    (loadCellsFrom ⟨b, o, none⟩ i cs.length acc).run P w = .ok (acc ++ cs.toArray) w := by
  intro cs
  induction cs with
  | nil => intro i acc _; simp [loadCellsFrom]
  | cons v cs ih =>
    intro i acc h
    have h0 : w.cell? ((⟨b, o, none⟩ : Addr).add i) = some v := by rw [Addr.add_lit]; exact h 0 v rfl
    simp only [List.length_cons, loadCellsFrom]
    rw [Sem.run_bind, run_load, h0]
    show (loadCellsFrom ⟨b, o, none⟩ (i + 1) cs.length (acc.push v)).run P w = _
    rw [ih (i + 1) (acc.push v) fun j u hu => by have := h (j + 1) u hu; rwa [show i + (j + 1) = i + 1 + j by omega] at this]
    simp

theorem vops_load (hT : TyOk P T) {d : Nat} {t : Nat} {x : Operand} {i : TI} {b o : Nat} {v : Value} (ht : T t = some i) (hp : i.plain = true) (hx : ev f x = .pointer (some ⟨b, o, none⟩)) (hs : Sees Γ own b o v)
    (k : VOps P Γ ops Q rest (upd f d v) own) : VOps P Γ ops Q (⟨some d, .load t x, ty, pos, aft, none⟩ :: rest) f own :=
  vops_go fun w hg => by
    show RunsTo P ((Instr.loadAt t (ev f x) >>= fun v => pure (Next.value v)).run P w) _
    have : (Instr.loadAt t (ev f x)).run P w = .ok v w := by
      rw [hx]
      show (loadVar t ⟨b, o, none⟩).run P w = _
      unfold loadVar
      rw [Sem.run_bind, isAgg_plain hT ht hp, Result.andThen_ok, if_neg (by simp), run_load, hs w hg]
    rw [run_val, this]
    exact ⟨own, hg, stay w, k⟩

theorem vops_loadN (hT : TyOk P T) {d : Nat} {t : Nat} {x : Operand} {i : TI} {b o : Nat} (cs : List Value) (ht : T t = some i) (ha : i.isAgg = true) (hx : ev f x = .pointer (some ⟨b, o, none⟩)) (hn : cs.length = i.size) (hs : SeesL Γ own b o cs)
    (k : VOps P Γ ops Q rest (upd f d (.agg cs.toArray)) own) : VOps P Γ ops Q (⟨some d, .load t x, ty, pos, aft, none⟩ :: rest) f own :=
  vops_go fun w hg => by
    show RunsTo P ((Instr.loadAt t (ev f x) >>= fun v => pure (Next.value v)).run P w) _
    have : (Instr.loadAt t (ev f x)).run P w = .ok (.agg cs.toArray) w := by
      rw [hx]
      show (loadVar t ⟨b, o, none⟩).run P w = _
      unfold loadVar
      rw [Sem.run_bind, sizeAgg hT ht ha, Result.andThen_ok, if_pos rfl, Sem.run_bind, hT.size ht, Result.andThen_ok, Sem.run_bind]
      unfold loadCells
      rw [← hn, run_loadCells cs 0 #[] (fun j v hv => by rw [Nat.zero_add]; exact hs j v hv w hg)]
      simp
    rw [run_val, this]
    exact ⟨own, hg, stay w, k⟩

/-! new blocks -/
theorem run_zero {t : Nat} {i : TI} (hT : TyOk P T) (ht : T t = some i) (hz : i.zero ≠ []) (w : World) : ∃ z : Value, (zeroValue t).run P w = .ok z w ∧ z.cells.toList = i.zero := by
  obtain ⟨x, hx, _, _, h | ⟨z, hz1, hz2⟩⟩ := (hT t i ht).info
  · exact absurd h hz
  · exact ⟨z, by simp [zeroValue, typeInfo, hx, hz1], hz2⟩

theorem vops_alloc (hT : TyOk P T) {d : Nat} {t : Nat} {i : TI} (ht : T t = some i) (hz : i.zero ≠ [])
    (k : ∀ b, b ∉ ids own → VOps P Γ ops Q rest (upd f d (.pointer (some ⟨b, 0, none⟩))) ((b, ⟨i.zero, t, i.zero.length, none⟩) :: own)) :
    VOps P Γ ops Q (⟨some d, .alloc t, ty, pos, aft, none⟩ :: rest) f own :=
  vops_go fun w hg => by
    obtain ⟨z, hz1, hz2⟩ := run_zero hT ht hz w
    show RunsTo P ((Instr.alloc t true (.tuple #[]) >>= fun v => pure (Next.value v)).run P w) _
    have : (Instr.alloc t true (.tuple #[])).run P w = .ok (.pointer (some ⟨w.heap.size, 0, none⟩)) (w.alloc (.cells z.cells t)) := by
      unfold Instr.alloc
      rw [Sem.run_bind, hz1, Result.andThen_ok]
      rfl
    rw [run_val, this]
    obtain ⟨g1, g2, g3⟩ := hg.new z.cells t
    refine ⟨_, g1, ⟨g3.mono (by simp), fun c hc => ?_⟩, ?_⟩
    · rcases List.mem_cons.1 hc with h | h
      · exact .inr (Nat.le_of_eq h.symm)
      · exact .inl h
    have e : z.cells.size = i.zero.length := by rw [← hz2]; simp
    rw [hz2, e]
    exact k _ g2

theorem vops_box {d : Nat} {t : Nat} {x : Operand} (cs : List Value) (hx : (ev f x).cells.toList = cs)
    (k : ∀ b, b ∉ ids own → VOps P Γ ops Q rest (upd f d (.pointer (some ⟨b, 0, none⟩))) ((b, ⟨cs, t, cs.length, none⟩) :: own)) :
    VOps P Γ ops Q (⟨some d, .box t x, ty, pos, aft, none⟩ :: rest) f own :=
  vops_go fun w hg => by
    show RunsTo P ((Instr.box t (ev f x) >>= fun v => pure (Next.value v)).run P w) _
    have : (Instr.box t (ev f x)).run P w = .ok (.pointer (some ⟨w.heap.size, 0, none⟩)) (w.alloc (.cells (ev f x).cells t)) := rfl
    rw [run_val, this]
    obtain ⟨g1, g2, g3⟩ := hg.new (ev f x).cells t
    refine ⟨_, g1, ⟨g3.mono (by simp), fun c hc => ?_⟩, ?_⟩
    · rcases List.mem_cons.1 hc with h | h
      · exact .inr (Nat.le_of_eq h.symm)
      · exact .inl h
    have e : (ev f x).cells.size = cs.length := by rw [← hx]; simp
    rw [hx, e]
    exact k _ g2

/-! stores -/
def Value.one : Value → Bool
  | .agg _ | .tuple _ => false
  | _ => true

theorem fr_setCell (w : World) (b o : Nat) (v : Value) : Fr [b] w (w.setCell ⟨b, o, none⟩ v) :=
  ⟨rfl, rfl, rfl, Nat.le_refl _, by simp, fun k hk hb => by
    refine heap_setCell_other w _ k v ?_
    simpa using hb⟩

theorem Good.setCell {w : World} (hg : Good Γ own w) {i b o : Nat} {k : Blk} (hi : own[i]? = some (b, k)) (hk : k.obj = none) (v : Value) :
    Good Γ (own.set i (b, ⟨k.cells.set o v, k.elem, k.size, none⟩)) (w.setCell ⟨b, o, none⟩ v) := by
  obtain ⟨arr, h1, h2, h3⟩ := hg.ok.row (List.mem_of_getElem? hi) hk
  refine hg.write hi (fr_setCell w b o v) <| Blk.ofRow ⟨arr.setIfInBounds o v, heap_setCell_same w b o arr k.elem v h1, by simpa using h2, fun j u hu => ?_⟩
  show (arr.setIfInBounds o v)[j]? = some u
  have hu' : (k.cells.set o v)[j]? = some u := hu
  by_cases hj : o = j
  · subst hj
    rw [List.getElem?_set] at hu'
    simp only [if_true] at hu'
    split at hu'
    · rename_i hlt
      obtain ⟨u0, hu0⟩ : ∃ u0, k.cells[o]? = some u0 := ⟨_, List.getElem?_eq_getElem hlt⟩
      have := h3 o u0 hu0
      have hlt2 := (Array.getElem?_eq_some_iff.1 this).1
      rw [Array.getElem?_setIfInBounds_self_of_lt hlt2]; exact hu'
    · cases hu'
  · rw [List.getElem?_set_ne hj] at hu'
    rw [Array.getElem?_setIfInBounds_ne hj]
    exact h3 j u hu'

theorem vops_store (hT : TyOk P T) {t : Nat} {x y : Operand} {b o : Nat} {v : Value} {ti : TI} {k : Blk} (i : Nat) (ht : T t = some ti) (hp : ti.size = 1) (hx : ev f x = .pointer (some ⟨b, o, none⟩)) (hy : ev f y = v) (hv : Value.one v = true)
    (hi : own[i]? = some (b, k)) (hlt : o < k.cells.length)
    (kk : VOps P Γ ops Q rest f (own.set i (b, ⟨k.cells.set o v, k.elem, k.size, none⟩))) : VOps P Γ ops Q (⟨none, .store t x y, ty, pos, aft, none⟩ :: rest) f own :=
  vops_go0 fun w hg => by
    show RunsTo P ((do Instr.storeAt t (ev f x) (ev f y); pure Next.skip : Sem Next).run P w) _
    have hm := List.mem_of_getElem? hi
    have hkk := hg.ok.rowLt hm hlt
    obtain ⟨arr, h1, h2, h3⟩ := hg.ok.row hm hkk
    obtain ⟨u0, hu0⟩ : ∃ u0, k.cells[o]? = some u0 := ⟨_, List.getElem?_eq_getElem hlt⟩
    have hc : w.cell? ⟨b, o, none⟩ = some u0 := cell_of_blk hg.ok hm hu0
    have hfz : w.frozen? ⟨b, o, none⟩ = false := frozen_of_row w b o arr k.elem h1
    have hcells : v.cells = #[v] := by cases v <;> first | rfl | cases hv
    have hone : v.oneCell' = true := by cases v <;> first | rfl | cases hv
    have : (Instr.storeAt t (ev f x) (ev f y)).run P w = .ok () (w.setCell ⟨b, o, none⟩ v) := by
      rw [hx, hy]
      show (storeVar t ⟨b, o, none⟩ v).run P w = _
      unfold storeVar
      rw [Sem.run_bind, hT.size ht, Result.andThen_ok, hcells, hp]
      show (storeCells ⟨b, o, none⟩ [v] 0).run P w = _
      unfold storeCells
      rw [Sem.run_bind]
      have hs : (store ((⟨b, o, none⟩ : Addr).add 0) v).run P w = .ok () (w.setCell ⟨b, o, none⟩ v) := by
        rw [show (⟨b, o, none⟩ : Addr).add 0 = ⟨b, o, none⟩ from rfl, run_store P w _ v _ hone]
        simp [hc, hfz]
      rw [hs]; rfl
    rw [Sem.run_bind, this]
    exact ⟨_, hg.setCell hi hkk v, ⟨(fr_setCell w b o v).mono (fun x hx => by
      have e : x = b := by simpa using hx
      rw [e]; exact ids_mem hm), fun c hc => .inl (by rwa [ids_set hi] at hc)⟩, kk⟩
end
end Go.VL
