import Derived.Test.YtlfflmoegfibgaaVLRanF
import Derived.Recover
/-! Operations that may panic, and functions that do. -/
namespace Go.VL
open Go.RowKit

/-- One panic that nobody has recovered. -/
abbrev pan (v : Value) : List PanicEntry := [{ v, recovered := false }]

def RunsToP (P : Program) (r : Result Next) (S : Value → World → Prop) (E : List PanicEntry → World → Prop) : Prop :=
  match r with
  | .ok (.value v) w' => S v w'
  | .ok .skip w' => S undef w'
  | .ok (.enter g args) w' => Calls P g args w' fun e w'' => match e with
    | .returned v => S v w''
    | .panicked ch => E ch w''
    | .outgrown => False
  | .halt (.panic v) w' => E (pan v) w'
  | _ => False

theorem RunsToP.mono {P : Program} {r : Result Next} {S S' : Value → World → Prop} {E E' : List PanicEntry → World → Prop} (h : RunsToP P r S E) (hs : ∀ v w, S v w → S' v w) (he : ∀ c w, E c w → E' c w) : RunsToP P r S' E' := by
  cases r with
  | ok n w' =>
    cases n <;> simp only [RunsToP] at h ⊢
    case value v => exact hs _ _ h
    case skip => exact hs _ _ h
    case enter g args =>
      refine h.mono fun e w'' hv => ?_
      cases e with
      | returned v => exact hs _ _ hv
      | panicked ch => exact he _ _ hv
      | outgrown => exact hv
  | halt x w' =>
    cases x <;> simp only [RunsToP] at h ⊢
    case panic v => exact he _ _ h

theorem wp_of_runsP {P : Program} {ro : Option Nat} {o : Oper} {a : Act} {w : World} {next : Act → World → Prop} {Q : Exit → Act → World → Prop} (hd : noDefer o = true)
    (h : RunsToP P ((execOp a.eval o).run P w) (fun v w' => next (a.put o.dst v) w') (fun ch w' => Q (.panic ch) a w')) : o.wpIn (fen ro) 0 P a w next Q := by
  refine ⟨fun f _ => fen_fn ro f, ?_⟩
  rw [semAt_plain hd]
  generalize (execOp a.eval o).run P w = r at *
  cases r with
  | ok n w' =>
    cases n <;> simp only [RunsToP] at h <;> simp only [Oper.uponIn]
    case value v => exact h
    case skip => exact h
    case enter g args =>
      refine ⟨fun hh => (by cases ro <;> cases hh), ?_⟩
      have h1 : Calls P g args w' (fun
        | .returned v, w'' => next (a.put o.dst v) w''
        | .panicked chain, w'' => Q (.panic chain) a w''
        | .outgrown, _ => LetsOut Q) := by
          refine h.mono fun e w'' hv => ?_
          cases e with
          | returned v => exact hv
          | panicked ch => exact hv
          | outgrown => exact hv.elim
      cases ro <;> exact callsIn_wide.2 h1
  | halt x w' =>
    cases x <;> simp only [RunsToP] at h <;> simp only [Oper.uponIn]
    case panic v => exact h

/-- An operation that may panic, and then leaves all that is owned as it was. -/
def StepP (P : Program) (Γ : Ctx) (o : Oper) (f : Nat → Value) (own : Own) (S : Value → Own → Prop) (E : List PanicEntry → Prop) : Prop :=
  ∀ w, Good Γ own w → RunsToP P ((execOp (ev f) o).run P w)
    (fun v w' => ∃ own', Good Γ own' w' ∧ (Fr (ids own) w w' ∧ ∀ b ∈ ids own', b ∈ ids own ∨ w.heap.size ≤ b) ∧ S v own')
    (fun ch w' => Good Γ own w' ∧ Fr (ids own) w w' ∧ E ch)

/-- What is asked behind a region whose last operation may panic. -/
def Last (P : Program) (Γ : Ctx) (Q : Post) (o : Oper) (f : Nat → Value) (own : Own) : Prop :=
  StepP P Γ o f own (fun v own' => Q .normal (put f o.dst v) own') (fun ch => Q (.panic ch) f own)

theorem tail_last {ro : Option Nat} {P : Program} {Γ : Ctx} {n : Nat} {ops : Array Oper} {Q : Post} {o : Oper} (hgo : o.guard = none) (hno : noDefer o = true) (hdo : ∀ t, o.dst = some t → t < n) :
    ∀ (l : List Oper) (f : Nat → Value) (own : Own), dstOk n l = true → VOps P Γ ops (Last P Γ Q o) l f own →
      ∀ a w, FR n f a → Good Γ own w → Mk ro Γ own a.defers w → wpTail ro P ops (VQ ro Γ n Q) (l ++ [o]) a w := by
  intro l
  induction l with
  | nil =>
    intro f own _ h a w ha hg hm
    have hw : Region.wanted o (yielded ops a.tmps) = true := by simp [Region.wanted, hgo]
    show wpTail ro P ops (VQ ro Γ n Q) [o] a w
    simp only [wpTail, hw, if_true]
    refine wp_of_runsP hno ?_
    rw [ha.eval]
    refine (h w hg).mono ?_ ?_
    · rintro v w' ⟨own', hg', hfr, hS⟩
      exact ⟨_, own', ha.put _ _ hdo, hg', by rw [put_defers]; exact hm.step hfr.1 hfr.2, hS⟩
    · rintro ch w' ⟨hg', hfr, hE⟩
      exact ⟨f, own, ha, hg', hm.step hfr (fun b hb => .inl hb), hE⟩
  | cons o1 l ih =>
    intro f own hd h a w ha hg hm
    simp only [dstOk, List.all_cons, Bool.and_eq_true] at hd
    obtain ⟨⟨hnd, hd0⟩, hd1⟩ := hd
    have hdo1 : ∀ t, o1.dst = some t → t < n := fun t ht => by rw [ht] at hd0; simpa [Nat.blt_eq] using hd0
    have go : ∀ S : Value → Own → Prop, Step P Γ o1 f own S → (∀ v own', S v own' → VOps P Γ ops (Last P Γ Q o) l (put f o1.dst v) own') →
        o1.wpIn (fen ro) 0 P a w (wpTail ro P ops (VQ ro Γ n Q) (l ++ [o])) (VQ ro Γ n Q) := fun S hs hk => by
      refine wp_of_runs hnd ?_
      rw [ha.eval]
      exact (hs w hg).mono fun v w' ⟨own', hg', hfr, hS⟩ => ih _ _ hd1 (hk v own' hS) _ _ (ha.put _ _ hdo1) hg' (by rw [put_defers]; exact hm.step hfr.1 hfr.2)
    simp only [VOps] at h
    simp only [List.cons_append, wpTail]
    cases hgd : o1.guard with
    | none =>
      simp only [hgd] at h
      have hw : Region.wanted o1 (yielded ops a.tmps) = true := by simp [Region.wanted, hgd]
      simp only [hw, if_true]
      exact go _ h fun _ _ hh => hh
    | some jw =>
      obtain ⟨j, want⟩ := jw
      simp only [hgd] at h
      have hy := yielded_eq ha ops j
      rcases h with ⟨h1, h2⟩ | ⟨h1, h2⟩
      · have hw : Region.wanted o1 (yielded ops a.tmps) = true := by simp [Region.wanted, hgd, hy, h1]
        simp only [hw, if_true]
        exact go _ h2 fun _ _ hh => hh
      · have hw : Region.wanted o1 (yielded ops a.tmps) = false := by simpa [Region.wanted, hgd, hy] using h1
        simp only [hw, Bool.false_eq_true, if_false]
        exact ih _ _ hd1 h2 _ _ (ha.put _ _ hdo1) hg (by rw [put_defers]; exact hm)

def splitLast : List Oper → Option (List Oper × Oper)
  | [] => none
  | [o] => some ([], o)
  | o :: p :: r => match splitLast (p :: r) with
    | some (a, x) => some (o :: a, x)
    | none => none
theorem splitLast_eq : ∀ {l a : List Oper} {o : Oper}, splitLast l = some (a, o) → l = a ++ [o]
  | [], _, _, h => by cases h
  | [x], _, _, h => by simp only [splitLast, Option.some.injEq, Prod.mk.injEq] at h; obtain ⟨rfl, rfl⟩ := h; rfl
  | x :: p :: r, a, o, h => by
    simp only [splitLast] at h
    split at h
    · rename_i a' x' he
      simp only [Option.some.injEq, Prod.mk.injEq] at h
      obtain ⟨rfl, rfl⟩ := h
      rw [splitLast_eq he]; rfl
    · cases h
def lastOk (n : Nat) (o : Oper) : Bool := o.guard.isNone && dstOk n [o]

theorem vw_regionP {ro : Option Nat} {P : Program} {Γ : Ctx} {n : Nat} {id : Nat} {l a : List Oper} {o : Oper} {Q : Post} {f : Nat → Value} {own : Own} (hs : splitLast l = some (a, o)) (hd : dstOk n a = true) (ho : lastOk n o = true)
    (h : VOps P Γ l.toArray (Last P Γ Q o) a f own) : VWr ro P Γ n (.region id l.toArray false) Q f own := by
  intro ac w ha hg hm
  refine wpIn_region ?_
  simp only [lastOk, dstOk, List.all_cons, List.all_nil, Bool.and_true, Bool.and_eq_true] at ho
  have hl := splitLast_eq hs
  have h1 := tail_last (ro := ro) (n := n) (by simpa using ho.1) ho.2.1 (fun t ht => by have := ho.2.2; rw [ht] at this; simpa [Nat.blt_eq] using this) a f own hd h ac w ha hg hm
  have h2 := wpOps_of_tail (ro := ro) (P := P) (Q := VQ ro Γ n Q) (ops := l.toArray) (a ++ [o]) 0 (fun j => by rw [← hl]; simp) ac w h1
  rw [List.range_eq_range', ← hl] at *
  simpa using h2

/-- What a call that hands nothing back comes to: it returns, or panics with a value. -/
def Need (w : World) (c : Option Value) : Ending → World → Prop := fun e w' => Fr [] w w' ∧ match c with
  | none => e = .returned (.tuple #[])
  | some v => e = .panicked (pan v)

section
variable {P : Program} {Γ : Ctx} {f : Nat → Value} {own : Own} {Q : Post}
variable {ty : TypeId} {pos : String} {aft : Array Edge}
theorem runsP_need {g : Nat} {as : Array Value} {c : Option Value} {d : Option Tmp} {w : World} (hg : Good Γ own w) (h : Calls P g as w (Need w c))
    (k0 : c = none → Q .normal (put f d (.tuple #[])) own) (k1 : ∀ v, c = some v → Q (.panic (pan v)) f own) :
    RunsToP P (.ok (.enter g as) w) (fun v w' => ∃ own', Good Γ own' w' ∧ (Fr (ids own) w w' ∧ ∀ b ∈ ids own', b ∈ ids own ∨ w.heap.size ≤ b) ∧ Q .normal (put f d v) own') (fun ch w' => Good Γ own w' ∧ Fr (ids own) w w' ∧ Q (.panic ch) f own) := by
  refine h.mono ?_
  rintro e w' ⟨hf, he⟩
  cases c with
  | none =>
    have he : e = .returned (.tuple #[]) := he
    subst he
    exact ⟨own, hg.same hf, ⟨hf.mono (by simp), fun b hb => .inl hb⟩, k0 rfl⟩
  | some v =>
    have he : e = .panicked (pan v) := he
    subst he
    exact ⟨hg.same hf, hf.mono (by simp), k1 v rfl⟩
theorem last_call {d : Option Tmp} {g : Nat} {l : List Operand} {atys : Array TypeId} {as : List Value} {c : Option Value} (he : Ent P g) (ha : l.map (ev f) = as)
    (h : ∀ w, Good Γ own w → Calls P g as.toArray w (Need w c)) (k0 : c = none → Q .normal (put f d (.tuple #[])) own) (k1 : ∀ v, c = some v → Q (.panic (pan v)) f own) :
    Last P Γ Q ⟨d, .call ⟨.value (.func g), l.toArray, atys⟩, ty, pos, aft, none⟩ f own := fun w hg => by
  rw [run_callOp he f _ l atys ty pos aft none w ha]
  exact runsP_need hg (h w hg) k0 k1
theorem last_callV {d : Option Tmp} {g : Nat} {x : Operand} {l : List Operand} {lb : List Value} {atys : Array TypeId} {as : List Value} {c : Option Value} (he : Ent P g) (hx : ev f x = .func (.func g) #[] lb.toArray) (ha : l.map (ev f) = as)
    (h : ∀ w, Good Γ own w → Calls P g (as ++ lb).toArray w (Need w c)) (k0 : c = none → Q .normal (put f d (.tuple #[])) own) (k1 : ∀ v, c = some v → Q (.panic (pan v)) f own) :
    Last P Γ Q ⟨d, .call ⟨.value x, l.toArray, atys⟩, ty, pos, aft, none⟩ f own := fun w hg => by
  rw [run_callV he hx _ _ _ _ _ _ _ _ ha]
  exact runsP_need hg (h w hg) k0 k1

/-- What is asked of a body that hands nothing back, and may panic. -/
@[reducible] def OutN (c : Option Value) : Post
  | .ret, _, _ | .normal, _, _ => c = none
  | .panic ch, _, _ => ∃ v, ch = pan v ∧ c = some v
  | _, _, _ => False

theorem leaves_marksP {fn : Func} {tmps : Array Value} {R : Ending → World → Prop} {ch : List PanicEntry} : ∀ (rs : List Nat) (w : World), rs.Nodup → (∀ r ∈ rs, w.heap[r]? = some (.deferred (some []))) →
    (∀ w', Fr rs w w' → R (.panicked ch) w') → LeavesInM Fence.wide 0 P fn tmps R (rs.map mark) (.panicking ch) w
  | [], w, _, _, h => h w (Fr.refl _ _)
  | r :: rs, w, hn, hr, h => by
    have hr0 := hr r List.mem_cons_self
    have hn' := List.nodup_cons.1 hn
    have hfr : Fr [r] w (w.putObj r (.deferred none)) := ⟨rfl, rfl, rfl, Nat.le_refl _, by simp, fun b _ hb => World.putObj_heap_other (by simpa using hb)⟩
    refine ⟨by simp, .inl ⟨r, _, rfl, run_takeDeferred hr0, leaves_marksP rs _ hn'.2 (fun q hq => ?_) fun w' hf => h w' ?_⟩⟩
    · rw [World.putObj_heap_other (fun e : q = r => hn'.1 (by rw [← e]; exact hq))]
      exact hr q (List.mem_cons_of_mem _ hq)
    · exact (hfr.mono (m := r :: rs) (fun x hx => by simp at hx; simp [hx])).trans hf (fun x hx => .inl (List.mem_cons_of_mem _ hx))

theorem calls_of_vwN {g n : Nat} {fn : Func} {cd : Code} {as : List Value} {w : World} {c : Option Value} (hf : P.funcs[g]? = some fn) (hb : fn.body = some cd) (hn : fn.ntmps = n) (hl : as.length ≤ n) (hres : fn.results = #[])
    (h : VW P ⟨w, []⟩ n cd (OutN c) (fr0 as) []) : Calls P g as.toArray w (Need w c) := by
  refine callsIn_wide.1 (callsIn_of_wp_marks (n := 0) hf hb trivial ?_)
  rw [hn]
  refine wpIn_mono (h _ w (fr_start as n hl) ⟨Fr.refl _ _, ⟨List.nodup_nil, fun _ _ h => by cases h⟩, fun b k hb => by cases hb⟩ (Mk.nil _ _ _ _)) ?_
  rintro e a w' ⟨f, own, h1, h2, ⟨_, rs, e2, hrn, hrs⟩, h3⟩
  have fin : ∀ w2, Fr rs w' w2 → Fr [] w w2 := fun w2 hf2 => (h2.marks (fun r hr => (hrs r hr).2) hf2).fr
  have ok : c = none → LeavesInM Fence.wide 0 P fn a.tmps (Need w c) a.defers .returning w' := fun hc => by
    rw [e2]
    exact leaves_marks rs w' hrn (fun r hr => (hrs r hr).1) fun w2 hf2 => ⟨_, results_none hres _ _ _, fin w2 hf2, by rw [hc]⟩
  cases e with
  | normal => exact ok h3
  | ret => exact ok h3
  | panic ch =>
    obtain ⟨v, rfl, hc⟩ := h3
    show LeavesInM Fence.wide 0 P fn a.tmps (Need w c) a.defers (.panicking (pan v)) w'
    rw [e2]
    exact leaves_marksP rs w' hrn (fun r hr => (hrs r hr).1) fun w2 hf2 => ⟨fin w2 hf2, by rw [hc]⟩
  | _ => exact h3.elim

/-- A panic with an error. -/
theorem last_panic {d : Option Tmp} {x : Operand} {t : TypeId} {v : Value} (hx : ev f x = .iface t v) (k : Q (.panic (pan (.iface t v))) f own) : Last P Γ Q ⟨d, .panic x, ty, pos, aft, none⟩ f own := fun w hg => by
  show RunsToP P ((Instr.panic (ev f x) >>= fun v => pure (Next.value v)).run P w) _ _
  have : (Instr.panic (ev f x)).run P w = .halt (.panic (.iface t v)) w := by rw [hx]; rfl
  rw [run_val, this]
  exact ⟨hg, Fr.refl _ _, k⟩
variable {T : Nat → Option TI} {ops : Array Oper} {QQ : (Nat → Value) → Own → Prop} {rest : List Oper}
/-- A load of an interface value. -/
theorem vops_loadX {d : Nat} {t : Nat} {ms : Array (String × TypeId)} {x : Operand} {b o : Nat} {v : Value} (hi : P.underlying t = some (.interface ms)) (hx : ev f x = .pointer (some ⟨b, o, none⟩)) (hs : Sees Γ own b o v)
    (k : VOps P Γ ops QQ rest (upd f d v) own) : VOps P Γ ops QQ (⟨some d, .load t x, ty, pos, aft, none⟩ :: rest) f own :=
  vops_go fun w hg => by
    show RunsTo P ((Instr.loadAt t (ev f x) >>= fun v => pure (Next.value v)).run P w) _
    have : (Instr.loadAt t (ev f x)).run P w = .ok v w := by
      rw [hx]
      show (loadVar t ⟨b, o, none⟩).run P w = _
      have ha : (isAgg t).run P w = .ok false w := by
        unfold isAgg
        rw [Sem.run_bind, run_underlying hi]
        rfl
      unfold loadVar
      rw [Sem.run_bind, ha, Result.andThen_ok, if_neg (by simp), run_load, hs w hg]
    rw [run_val, this]
    exact ⟨own, hg, stay w, k⟩
/-- A rest, whatever the sign. -/
theorem vops_remT {d t : Nat} {k : IntKind} {x y : Operand} {a b : Int} (hx : ev f x = .int k a) (hy : ev f y = .int k b) (hb : b ≠ 0) (kk : VOps P Γ ops QQ rest (upd f d (.int k (a.tmod b))) own) {u : TypeId} :
    VOps P Γ ops QQ (⟨some d, .binOp .rem t x y u, ty, pos, aft, none⟩ :: rest) f own :=
  vops_go fun w hg => by
    have hr : (execOp (ev f) ⟨some d, .binOp .rem t x y u, ty, pos, aft, none⟩).run P w = .ok (.value (.int k (a.tmod b))) w := by
      show ((do eqGuard .rem t x y (ev f x) (ev f y); binOp .rem t (ev f x) (ev f y)) >>= fun v => pure (Next.value v)).run P w = _
      rw [run_val, hx, hy, eqGuard_at_int, Sem.run_bind, Sem.run_pure, Result.andThen_ok]
      simp [binOp, Op.intDiv, hb]
    rw [hr]
    exact ⟨own, hg, stay w, kk⟩
end
end Go.VL
