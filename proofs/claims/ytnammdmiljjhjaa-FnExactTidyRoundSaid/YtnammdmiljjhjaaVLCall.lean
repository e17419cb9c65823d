import Derived.Test.YtnammdmiljjhjaaVLMem
/- A part of the proof: Call. No conditions of its own. -/
namespace Go.VL
open Go.RowKit

/-! calls -/
def Ent (P : Program) (g : Nat) : Prop := ∃ fn : Func, P.funcs[g]? = some fn ∧ (fn.name == "runtime.NumGoroutine") = false ∧ fn.body.isNone = false

theorem run_callFunc {P : Program} {g : Nat} (h : Ent P g) (args : Array Value) (w : World) : (callFunc g args).run P w = .ok (.enter g args) w := by
  obtain ⟨fn, h1, h2, h3⟩ := h
  unfold callFunc
  rw [Sem.run_bind, run_program, Result.andThen_ok]
  simp only [h1, h2, h3]
  rfl

theorem run_callOp {P : Program} {g : Nat} (h : Ent P g) (f : Nat → Value) (d : Option Tmp) (l : List Operand) (atys : Array TypeId) (ty : TypeId) (pos : String) (aft : Array Edge) (gd : Option (Nat × Bool)) (w : World) {as : List Value} (ha : l.map (ev f) = as) :
    (execOp (ev f) ⟨d, .call ⟨.value (.func g), l.toArray, atys⟩, ty, pos, aft, gd⟩).run P w = .ok (.enter g as.toArray) w := by
  show (do let d ← (pure { target := .fn (.func g) #[], args := #[] ++ l.toArray.map (ev f) } : Sem Deferred); invoke d.target d.args : Sem Next).run P w = _
  rw [Sem.run_bind, Sem.run_pure, Result.andThen_ok]
  show (callFunc g ((#[] ++ l.toArray.map (ev f)) ++ #[])).run P w = _
  rw [run_callFunc h]
  simp [ha]

/-- What a call that writes nothing of what was there comes to: a value, new blocks, and what is said of both. -/
def Res (w : World) (S : Value → Own → Prop) : Ending → World → Prop :=
  fun e w' => ∃ v new, e = .returned v ∧ Fr [] w w' ∧ OwnOk new w' ∧ (∀ b ∈ ids new, w.heap.size ≤ b) ∧ S v new
def Is (v : Value) : Value → Own → Prop := fun v' new => v' = v ∧ new = []

theorem Res.pure {w w' : World} {v : Value} (h : Fr [] w w') : Res w (Is v) (.returned v) w' :=
  ⟨v, [], rfl, h, ⟨List.nodup_nil, fun _ _ h => (by simp at h)⟩, fun _ h => (by simp [ids] at h), rfl, rfl⟩

theorem Good.join {Γ : Ctx} {own new : Own} {w w' : World} (hg : Good Γ own w) (hf : Fr [] w w') (hn : OwnOk new w') (hi : ∀ b ∈ ids new, w.heap.size ≤ b) : Good Γ (new ++ own) w' := by
  have h1 := hg.same hf
  refine ⟨h1.fr, ⟨?_, fun b k hb => ?_⟩, fun b k hb => ?_⟩
  · show (List.map Prod.fst (new ++ own)).Nodup
    rw [List.map_append]
    refine List.nodup_append.2 ⟨hn.nodup, h1.ok.nodup, fun x hx y hy e => ?_⟩
    subst e
    exact Nat.lt_irrefl _ (Nat.lt_of_lt_of_le (hg.ok.lt hy) (hi x hx))
  · rcases List.mem_append.1 hb with h | h
    · exact hn.blk b k h
    · exact h1.ok.blk b k h
  · rcases List.mem_append.1 hb with h | h
    · exact .inr (Nat.le_trans hg.fr.size (hi b (ids_mem h)))
    · exact h1.mine b k h

/-- A call that may write blocks that were there: those of own0. -/
def ResM (w : World) (own0 : Own) (S : Value → Own → Prop) : Ending → World → Prop :=
  fun e w' => ∃ v new, e = .returned v ∧ Fr (ids own0) w w' ∧ OwnOk new w' ∧ (∀ b ∈ ids new, b ∈ ids own0 ∨ w.heap.size ≤ b) ∧ S v new

theorem OwnOk.sub {own new : Own} {w : World} (h : OwnOk own w) (hn : (ids new).Nodup) (hs : ∀ p ∈ new, p ∈ own) : OwnOk new w :=
  ⟨hn, fun b k hb => h.blk b k (hs _ hb)⟩

theorem Good.joinM {Γ : Ctx} {own0 own new : Own} {w w' : World} (hg : Good Γ (own0 ++ own) w) (hf : Fr (ids own0) w w') (hn : OwnOk new w') (hi : ∀ b ∈ ids new, b ∈ ids own0 ∨ w.heap.size ≤ b) : Good Γ (new ++ own) w' := by
  have hnd : (ids own0 ++ ids own).Nodup := by have := hg.ok.nodup; rwa [ids, List.map_append] at this
  have hdis : ∀ x ∈ ids own0, ∀ y ∈ ids own, x ≠ y := (List.nodup_append.1 hnd).2.2
  have hold : ∀ b k, (b, k) ∈ own → b ∉ ids own0 := fun b k hb h => hdis b h b (ids_mem hb) rfl
  have hlt : ∀ b k, (b, k) ∈ own → b < w.heap.size := fun b k hb => hg.ok.lt (ids_mem (List.mem_append_right _ hb))
  refine ⟨hg.fr.trans hf (fun x hx => ?_), ⟨?_, fun b k hb => ?_⟩, fun b k hb => ?_⟩
  · obtain ⟨k, hk⟩ := mem_ids hx
    exact hg.mine x k (List.mem_append_left _ hk)
  · show (List.map Prod.fst (new ++ own)).Nodup
    rw [List.map_append]
    refine List.nodup_append.2 ⟨hn.nodup, (List.nodup_append.1 hnd).2.1, fun x hx y hy e => ?_⟩
    subst e
    obtain ⟨k, hk⟩ := mem_ids hy
    rcases hi x hx with h | h
    · exact hdis x h x hy rfl
    · exact Nat.lt_irrefl _ (Nat.lt_of_lt_of_le (hlt x k hk) h)
  · rcases List.mem_append.1 hb with h | h
    · exact hn.blk b k h
    · rw [hf.block b (hlt b k h) (hold b k h)]
      exact hg.ok.blk b k (List.mem_append_right _ h)
  · rcases List.mem_append.1 hb with h | h
    · rcases hi b (ids_mem h) with h' | h'
      · obtain ⟨k', hk'⟩ := mem_ids h'
        exact hg.mine b k' (List.mem_append_left _ hk')
      · exact .inr (Nat.le_trans hg.fr.size h')
    · exact hg.mine b k (List.mem_append_right _ h)

section
variable {P : Program} {T : Nat → Option TI} {Γ : Ctx} {ops : Array Oper} {Q : (Nat → Value) → Own → Prop} {rest : List Oper} {f : Nat → Value} {own : Own}
variable {ty : TypeId} {pos : String} {aft : Array Edge}

theorem vops_call {d g : Nat} {l : List Operand} {atys : Array TypeId} {as : List Value} {S : Value → Own → Prop} (he : Ent P g) (ha : l.map (ev f) = as)
    (h : ∀ w, Good Γ own w → Calls P g as.toArray w (Res w S)) (k : ∀ v new, S v new → VOps P Γ ops Q rest (upd f d v) (new ++ own)) :
    VOps P Γ ops Q (⟨some d, .call ⟨.value (.func g), l.toArray, atys⟩, ty, pos, aft, none⟩ :: rest) f own :=
  vops_go fun w hg => by
    rw [run_callOp he f _ l atys ty pos aft none w ha]
    exact (h w hg).mono fun e w' ⟨v, new, he, h1, h2, h3, h4⟩ => ⟨v, he, new ++ own, hg.join h1 h2 h3, ⟨h1.mono (by simp), fun b hb => by
      have hb' : b ∈ ids new ++ ids own := by rwa [ids, List.map_append] at hb
      rcases List.mem_append.1 hb' with h | h
      · exact .inr (h3 b h)
      · exact .inl h⟩, k v new h4⟩
theorem vops_callp {d g : Nat} {l : List Operand} {atys : Array TypeId} {as : List Value} {v : Value} (he : Ent P g) (ha : l.map (ev f) = as)
    (h : ∀ w, Good Γ own w → Calls P g as.toArray w (Res w (Is v))) (k : VOps P Γ ops Q rest (upd f d v) own) :
    VOps P Γ ops Q (⟨some d, .call ⟨.value (.func g), l.toArray, atys⟩, ty, pos, aft, none⟩ :: rest) f own :=
  vops_call he ha h fun v' new ⟨h1, h2⟩ => by subst h1; subst h2; exact k
theorem vops_callM {d g : Nat} {l : List Operand} {atys : Array TypeId} {as : List Value} {own0 own1 : Own} {S : Value → Own → Prop} (he : Ent P g) (ha : l.map (ev f) = as)
    (hp : own.Perm (own0 ++ own1))
    (h : ∀ w, Good Γ (own0 ++ own1) w → Calls P g as.toArray w (ResM w own0 S)) (k : ∀ v new, S v new → VOps P Γ ops Q rest (upd f d v) (new ++ own1)) :
    VOps P Γ ops Q (⟨some d, .call ⟨.value (.func g), l.toArray, atys⟩, ty, pos, aft, none⟩ :: rest) f own :=
  vops_go fun w hg => by
    have hg' : Good Γ (own0 ++ own1) w := ⟨hg.fr, ⟨(hp.map Prod.fst).nodup_iff.1 hg.ok.nodup, fun b k hb => hg.ok.blk b k (hp.mem_iff.2 hb)⟩, fun b k hb => hg.mine b k (hp.mem_iff.2 hb)⟩
    rw [run_callOp he f _ l atys ty pos aft none w ha]
    have hin : ∀ x ∈ ids own0 ++ ids own1, x ∈ ids own := fun x hx => by
      have e : ids (own0 ++ own1) = ids own0 ++ ids own1 := List.map_append
      exact (hp.map Prod.fst).mem_iff.2 (by rw [← e] at hx; exact hx)
    exact (h w hg').mono fun e w' ⟨v, new, he, h1, h2, h3, h4⟩ => ⟨v, he, new ++ own1, hg'.joinM h1 h2 h3, ⟨h1.mono fun x hx => hin x (List.mem_append_left _ hx), fun b hb => by
      have hb' : b ∈ ids new ++ ids own1 := by rwa [ids, List.map_append] at hb
      rcases List.mem_append.1 hb' with h | h
      · rcases h3 b h with h' | h'
        · exact .inl (hin b (List.mem_append_left _ h'))
        · exact .inr h'
      · exact .inl (hin b (List.mem_append_right _ h))⟩, k v new h4⟩

theorem Good.perm {own own' : Own} {w : World} (hg : Good Γ own w) (hp : own.Perm own') : Good Γ own' w :=
  ⟨hg.fr, ⟨(hp.map Prod.fst).nodup_iff.1 hg.ok.nodup, fun b k hb => hg.ok.blk b k (hp.mem_iff.2 hb)⟩, fun b k hb => hg.mine b k (hp.mem_iff.2 hb)⟩
/-- The order of what is owned does not matter. -/
theorem vw_perm {ro : Option Nat} {n : Nat} {c : Code} {Q : Post} {own' : Own} (hp : own.Perm own') (h : VWr ro P Γ n c Q f own') : VWr ro P Γ n c Q f own :=
  fun a w ha hg hm => h a w ha (hg.perm hp) (hm.sub fun _ hb => (hp.map Prod.fst).mem_iff.2 hb)
theorem vw_drop {ro : Option Nat} {n : Nat} {c : Code} {Q : Post} {own' : Own} (hp : own'.Sublist own) (h : VWr ro P Γ n c Q f own') : VWr ro P Γ n c Q f own :=
  fun a w ha hg hm => h a w ha ⟨hg.fr, hg.ok.sub ((hp.map Prod.fst).nodup hg.ok.nodup) (fun _ hp' => hp.subset hp'), fun b k hb => hg.mine b k (hp.subset hb)⟩ (hm.sub fun _ hb => (hp.map Prod.fst).subset hb)

/-! a function, entered and left -/
def fr0 : List Value → Nat → Value
  | [], _ => undef
  | v :: _, 0 => v
  | _ :: r, t + 1 => fr0 r t
theorem fr0_eq : ∀ (as : List Value) (t : Nat), fr0 as t = as.getD t undef
  | [], t => by simp [fr0]
  | v :: r, 0 => by simp [fr0]
  | v :: r, t + 1 => by rw [fr0, fr0_eq r t]; simp

theorem fr_start (as : List Value) (n : Nat) (hl : as.length ≤ n) : FR n (fr0 as) ⟨as.toArray ++ Array.replicate (n - as.toArray.size) undef, []⟩ := by
  refine ⟨by simp; omega, fun t => ?_⟩
  rw [fr0_eq]
  by_cases h : t < as.length
  · simp [Array.getElem?_append, h]
  · have h' : as.length ≤ t := by omega
    by_cases h2 : t < n
    · simp [Array.getElem?_append, h, show t - as.length < n - as.length by omega]
    · simp [Array.getElem?_append, h, show ¬ t - as.length < n - as.length by omega]

/-- How the results are read. -/
def RV (P : Program) (Γ : Ctx) (n : Nat) (fn : Func) (f : Nat → Value) (own : Own) (v : Value) : Prop :=
  ∀ a w, FR n f a → Good Γ own w → (results fn a.tmps).run P w = .ok v w

/-- What is asked of the end of a body. -/
@[reducible] def Out (P : Program) (Γ : Ctx) (n : Nat) (fn : Func) (S : Value → Own → Prop) : Post
  | .ret, f, own | .normal, f, own => ∃ v new, RV P Γ n fn f own v ∧ (ids new).Nodup ∧ (∀ p ∈ new, p ∈ own) ∧ S v new
  | _, _, _ => False

/-- The marks are taken off; then the results are read. -/
theorem leaves_marks {fn : Func} {tmps : Array Value} {R : Ending → World → Prop} : ∀ (rs : List Nat) (w : World), rs.Nodup → (∀ r ∈ rs, w.heap[r]? = some (.deferred (some []))) →
    (∀ w', Fr rs w w' → ∃ v, (results fn tmps).run P w' = .ok v w' ∧ R (.returned v) w') → LeavesInM Fence.wide 0 P fn tmps R (rs.map mark) .returning w
  | [], w, _, _, h => h w (Fr.refl _ _)
  | r :: rs, w, hn, hr, h => by
    have hr0 := hr r List.mem_cons_self
    have hn' := List.nodup_cons.1 hn
    have hfr : Fr [r] w (w.putObj r (.deferred none)) := ⟨rfl, rfl, rfl, Nat.le_refl _, by simp, fun b _ hb => World.putObj_heap_other (by simpa using hb)⟩
    refine ⟨by simp, .inl ⟨r, _, rfl, run_takeDeferred hr0, leaves_marks rs _ hn'.2 (fun q hq => ?_) fun w' hf => h w' ?_⟩⟩
    · rw [World.putObj_heap_other (fun e : q = r => hn'.1 (by rw [← e]; exact hq))]
      exact hr q (List.mem_cons_of_mem _ hq)
    · exact (hfr.mono (m := r :: rs) (fun x hx => by simp at hx; simp [hx])).trans hf (fun x hx => .inl (List.mem_cons_of_mem _ hx))
theorem Good.marks {own : Own} {w w' : World} {rs : List Nat} (hg : Good Γ own w) (hr : ∀ r ∈ rs, r ∉ ids own ∧ Γ.w0.heap.size ≤ r) (hf : Fr rs w w') : Good Γ own w' :=
  ⟨⟨hf.os.trans hg.fr.os, hf.tape.trans hg.fr.tape, hf.output.trans hg.fr.output, Nat.le_trans hg.fr.drawn hf.drawn, Nat.le_trans hg.fr.size hf.size, fun b hb hw => (hf.block b (Nat.lt_of_lt_of_le hb hg.fr.size) (fun hm => by have := (hr b hm).2; omega)).trans (hg.fr.block b hb hw)⟩,
   ⟨hg.ok.nodup, fun b k hb => by rw [hf.block b (hg.ok.lt (ids_mem hb)) (fun hm => (hr b hm).1 (ids_mem hb))]; exact hg.ok.blk b k hb⟩, hg.mine⟩
theorem leaves_of_vw {own0 : Own} {w0 : World} {fn : Func} {n : Nat} {S : Value → Own → Prop} {a : Act} {w : World} {f : Nat → Value} {own : Own} (h1 : FR n f a) (h2 : Good ⟨w0, ids own0⟩ own w) (hm : Mk none ⟨w0, ids own0⟩ own a.defers w)
    (h3 : ∃ v new, RV P ⟨w0, ids own0⟩ n fn f own v ∧ (ids new).Nodup ∧ (∀ p ∈ new, p ∈ own) ∧ S v new) : LeavesInM Fence.wide 0 P fn a.tmps (ResM w0 own0 S) a.defers .returning w := by
  obtain ⟨v, new, hr, hnd, hs, hS⟩ := h3
  obtain ⟨_, rs, e, hrn, hrs⟩ := hm
  rw [e]
  refine leaves_marks rs w hrn (fun r hr => (hrs r hr).1) fun w' hf => ?_
  have h2' := h2.marks (fun r hr => (hrs r hr).2) hf
  refine ⟨v, hr a w' h1 h2', v, new, rfl, h2'.fr, h2'.ok.sub hnd hs, fun b hb => ?_, hS⟩
  obtain ⟨k, hk⟩ := mem_ids hb
  exact h2'.mine b k (hs _ hk)

theorem calls_of_vwM {g n : Nat} {fn : Func} {c : Code} {as : List Value} {w : World} {own0 : Own} {S : Value → Own → Prop} (hf : P.funcs[g]? = some fn) (hb : fn.body = some c) (hn : fn.ntmps = n) (hl : as.length ≤ n)
    (ho : OwnOk own0 w) (h : VW P ⟨w, ids own0⟩ n c (Out P ⟨w, ids own0⟩ n fn S) (fr0 as) own0) : Calls P g as.toArray w (ResM w own0 S) := by
  refine callsIn_wide.1 (callsIn_of_wp_marks (n := 0) hf hb trivial ?_)
  rw [hn]
  refine wpIn_mono (h _ w (fr_start as n hl) ⟨Fr.refl _ _, ho, fun b k hb => .inl (ids_mem hb)⟩ (Mk.nil _ _ _ _)) ?_
  rintro e a w' ⟨f, own, h1, h2, hm, h3⟩
  cases e with
  | normal => exact leaves_of_vw h1 h2 hm h3
  | ret => exact leaves_of_vw h1 h2 hm h3
  | _ => exact h3.elim

theorem calls_of_vw {g n : Nat} {fn : Func} {c : Code} {as : List Value} {w : World} {S : Value → Own → Prop} (hf : P.funcs[g]? = some fn) (hb : fn.body = some c) (hn : fn.ntmps = n) (hl : as.length ≤ n)
    (h : VW P ⟨w, []⟩ n c (Out P ⟨w, []⟩ n fn S) (fr0 as) []) : Calls P g as.toArray w (Res w S) := by
  refine (calls_of_vwM (own0 := []) hf hb hn hl ⟨List.nodup_nil, fun _ _ h => by cases h⟩ h).mono ?_
  rintro e w' ⟨v, new, rfl, h1, h2, h3, h4⟩
  exact ⟨v, new, rfl, h1, h2, fun b hb => (h3 b hb).resolve_left (by simp [ids]), h4⟩

theorem rv_tmp {n t : Nat} {fn : Func} {v : Value} (h : fn.results = #[.tmp t]) (hv : f t = v) : RV P Γ n fn f own v :=
  fun a w ha _ => by rw [results_tmp h, ha.get t, hv]
theorem rv_tmp2 {n t u : Nat} {fn : Func} {v x : Value} (h : fn.results = #[.tmp t, .tmp u]) (hv : f t = v) (hx : f u = x) : RV P Γ n fn f own (.tuple #[v, x]) :=
  fun a w ha _ => by rw [results_tmp2 h, ha.get t, ha.get u, hv, hx]

theorem rv_one {n t : Nat} {fn : Func} {v : Value} {S : Value → Own → Prop} (h : fn.results = #[.tmp t]) (hv : f t = v) (hS : S v []) : Out P Γ n fn S .ret f own :=
  ⟨v, [], rv_tmp h hv, List.nodup_nil, fun _ h => (by simp at h), hS⟩
theorem rv_oneN {n t : Nat} {fn : Func} {v : Value} {S : Value → Own → Prop} (h : fn.results = #[.tmp t]) (hv : f t = v) (hS : S v []) : Out P Γ n fn S .normal f own :=
  rv_one h hv hS

theorem rv_bool {n t : Nat} {fn : Func} {b b' : Bool} (h : fn.results = #[.tmp t]) (hv : f t = .bool b) (hb : b = b') : Out P Γ n fn (Is (.bool b')) .ret f own :=
  rv_one h hv ⟨by rw [hb], rfl⟩
theorem rv_int {n t : Nat} {fn : Func} {k : IntKind} {b b' : Int} (h : fn.results = #[.tmp t]) (hv : f t = .int k b) (hb : b = b') : Out P Γ n fn (Is (.int k b')) .ret f own :=
  rv_one h hv ⟨by rw [hb], rfl⟩

theorem run_loadVarN {w : World} (hT : TyOk P T) {t : Nat} {i : TI} {b o : Nat} (cs : List Value) (ht : T t = some i) (ha : i.isAgg = true) (hn : cs.length = i.size) (hs : SeesL Γ own b o cs) (hg : Good Γ own w) :
    (loadVar t ⟨b, o, none⟩).run P w = .ok (.agg cs.toArray) w := by
  unfold loadVar
  rw [Sem.run_bind, sizeAgg hT ht ha, Result.andThen_ok, if_pos rfl, Sem.run_bind, hT.size ht, Result.andThen_ok, Sem.run_bind]
  unfold loadCells
  rw [← hn, run_loadCells cs 0 #[] (fun j v hv => by rw [Nat.zero_add]; exact hs j v hv w hg)]
  simp

/-- One result, in a cell. -/
theorem rv_cell (hT : TyOk P T) {n p t b o : Nat} {i : TI} {fn : Func} {cs : List Value} (h : fn.results = #[.cell p t]) (hp : f p = .pointer (some ⟨b, o, none⟩)) (ht : T t = some i) (ha : i.isAgg = true) (hn : cs.length = i.size) (hs : SeesL Γ own b o cs) :
    RV P Γ n fn f own (.agg cs.toArray) :=
  fun a w ha' hg => by
    have := run_loadVarN hT cs ht ha hn hs hg
    have hq := ha'.get p
    simp only [Array.getD_eq_getD_getElem?] at hq
    simp [results, h, hq, hp, asAddr, this]
/-- Two results, the first one in a cell. -/
theorem rv_cell2 (hT : TyOk P T) {n p t b o u : Nat} {i : TI} {fn : Func} {cs : List Value} {x : Value} (h : fn.results = #[.cell p t, .tmp u]) (hp : f p = .pointer (some ⟨b, o, none⟩)) (ht : T t = some i) (ha : i.isAgg = true) (hn : cs.length = i.size) (hs : SeesL Γ own b o cs) (hx : f u = x) :
    RV P Γ n fn f own (.tuple #[.agg cs.toArray, x]) :=
  fun a w ha' hg => by
    have := run_loadVarN hT cs ht ha hn hs hg
    have hu := ha'.get u
    have hq := ha'.get p
    simp only [Array.getD_eq_getD_getElem?] at hu hq
    simp [results, h, hq, hp, asAddr, this, hu, hx]
end

end Go.VL
