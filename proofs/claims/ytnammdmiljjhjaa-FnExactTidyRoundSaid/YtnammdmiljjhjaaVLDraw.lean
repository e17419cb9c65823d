import Derived.Test.YtnammdmiljjhjaaVLArr
/- A part of the proof: Draw. No conditions of its own. -/
namespace Go.VL
open Go.RowKit

/-! a region whose order is drawn -/
section
variable {P : Program} {Γ : Ctx} {ops : Array Oper} {Q : (Nat → Value) → Own → Prop} {f : Nat → Value} {own : Own}

theorem Step.mono {o : Oper} {S S' : Value → Own → Prop} (h : Step P Γ o f own S) (hs : ∀ v own', S v own' → S' v own') : Step P Γ o f own S' :=
  fun w hg => (h w hg).mono fun _ _ ⟨own', h1, h2, h3⟩ => ⟨own', h1, h2, hs _ _ h3⟩

theorem ev_put {d : Option Tmp} {v : Value} {x : Operand} (h : ∀ t, d = some t → x ≠ .tmp t) : ev (put f d v) x = ev f x := by
  cases d with
  | none => rfl
  | some d =>
    cases x with
    | tmp t =>
      have hne : t ≠ d := fun e => h d rfl (by rw [e])
      exact upd_ne f v hne
    | _ => rfl
theorem gval_put {o : Oper} {j : Nat} {want : Bool} (hg : o.guard = some (j, want)) {d : Option Tmp} {v : Value} (h : ∀ t, d = some t → t ∉ o.looksAt ops) : gval ops (put f d v) j = gval ops f j := by
  cases d with
  | none => rfl
  | some d =>
    unfold gval
    cases ht : (ops[j]?).bind (·.dst) with
    | none => rfl
    | some t =>
      have hne : t ≠ d := fun e => h d rfl (by subst e; simp [Oper.looksAt, hg, ht])
      show (match upd f d v t with | .bool b => some b | _ => none) = (match f t with | .bool b => some b | _ => none)
      rw [upd_ne f v hne]
theorem exec_put {o : Oper} (hs : ∀ cs b, o.op ≠ .select cs b) {d : Option Tmp} {v : Value} (h : ∀ t, d = some t → t ∉ o.looksAt ops) : execOp (ev (put f d v)) o = execOp (ev f) o :=
  execOp_congr o hs fun x hx => ev_put fun t ht hxt => h t ht (by
    subst hxt
    exact List.mem_append_left _ (List.mem_filterMap.2 ⟨.tmp t, by simpa using hx, rfl⟩))
theorem put_comm {d e : Option Tmp} (v u : Value) (h : ∀ t, d = some t → e ≠ some t) : put (put f d v) e u = put (put f e u) d v := by
  cases d with
  | none => rfl
  | some d =>
    cases e with
    | none => rfl
    | some e =>
      have hne : d ≠ e := fun he => h d rfl (by rw [he])
      exact upd_comm f v u hne

def OpV (P : Program) (Γ : Ctx) (ops : Array Oper) (o : Oper) (f : Nat → Value) (own : Own) (S : Value → Own → Prop) : Prop :=
  match o.guard with
  | none => Step P Γ o f own S
  | some (j, want) => (gval ops f j = some want ∧ Step P Γ o f own S) ∨ (gval ops f j ≠ some want ∧ S undef own)

theorem OpV.mono {o : Oper} {S S' : Value → Own → Prop} (h : OpV P Γ ops o f own S) (hs : ∀ v own', S v own' → S' v own') : OpV P Γ ops o f own S' := by
  unfold OpV at *
  cases hg : o.guard with
  | none => simp only [hg] at h ⊢; exact h.mono hs
  | some jw =>
    obtain ⟨j, want⟩ := jw
    simp only [hg] at h ⊢
    exact h.imp (fun h => ⟨h.1, h.2.mono hs⟩) (fun h => ⟨h.1, hs _ _ h.2⟩)
theorem OpV.put {o : Oper} (hs : ∀ cs b, o.op ≠ .select cs b) {d : Option Tmp} {v : Value} (hd : ∀ t, d = some t → t ∉ o.looksAt ops) {S : Value → Own → Prop} (h : OpV P Γ ops o (put f d v) own S) : OpV P Γ ops o f own S := by
  have he := exec_put (f := f) (ops := ops) hs (v := v) hd
  have hst : Step P Γ o (VL.put f d v) own S → Step P Γ o f own S := fun h w hg => by have := h w hg; rwa [he] at this
  unfold OpV at *
  cases hg : o.guard with
  | none => simp only [hg] at h ⊢; exact hst h
  | some jw =>
    obtain ⟨j, want⟩ := jw
    simp only [hg] at h ⊢
    rw [gval_put hg hd] at h
    exact h.imp (fun h => ⟨h.1, hst h.2⟩) id
theorem OpV.put' {o : Oper} (hs : ∀ cs b, o.op ≠ .select cs b) {d : Option Tmp} {v : Value} (hd : ∀ t, d = some t → t ∉ o.looksAt ops) {S : Value → Own → Prop} (h : OpV P Γ ops o f own S) : OpV P Γ ops o (VL.put f d v) own S := by
  have he := exec_put (f := f) (ops := ops) hs (v := v) hd
  have hst : Step P Γ o f own S → Step P Γ o (VL.put f d v) own S := fun h w hg => by have := h w hg; rwa [← he] at this
  unfold OpV at *
  cases hg : o.guard with
  | none => simp only [hg] at h ⊢; exact hst h
  | some jw =>
    obtain ⟨j, want⟩ := jw
    simp only [hg] at h ⊢
    rw [gval_put hg hd]
    exact h.imp (fun h => ⟨h.1, hst h.2⟩) id

def Sub (base own : Own) : Prop := ∀ p ∈ base, p ∈ own
def keepB (o : Oper) : Bool := match o.op with | .store .. | .mapUpdate .. | .mapEntry .. | .entryStore .. | .insert .. => false | _ => true

def AnyV (P : Program) (Γ : Ctx) (ops : Array Oper) (base : Own) (Q : (Nat → Value) → Own → Prop) : Nat → Array Bool → (Nat → Value) → Own → Prop
  | 0, listed, f, own => Region.ready .any ops listed = [] ∧ Q f own
  | fuel + 1, listed, f, own => (Region.ready .any ops listed = [] → Q f own) ∧
    ∀ i ∈ Region.ready .any ops listed, ∀ o, ops[i]? = some o →
      OpV P Γ ops o f own (fun v own' => (keepB o = true → ∀ p ∈ base, p ∈ own → p ∈ own') ∧ AnyV P Γ ops base Q fuel (listed.setIfInBounds i true) (put f o.dst v) own')

theorem anyV_sound {ro : Option Nat} {base : Own} {n : Nat} {Q : Post} (hd : dstOk n ops.toList = true) : ∀ (fuel : Nat) (listed : Array Bool) (f : Nat → Value) (own : Own),
    AnyV P Γ ops base (fun f own => Q .normal f own) fuel listed f own → ∀ a w, FR n f a → Good Γ own w → Mk ro Γ own a.defers w → wpAnyIn (fen ro) 0 P .any ops (VQ ro Γ n Q) fuel listed a w := by
  have hdo : ∀ (i : Nat) (o : Oper), ops[i]? = some o → ∀ t, o.dst = some t → t < n := fun i o ho t ht => by
    have := List.all_eq_true.1 hd o (by
      have := Array.mem_of_getElem? ho
      simpa using this)
    simp only [Bool.and_eq_true] at this
    have := this.2
    rw [ht] at this
    simpa [Nat.blt_eq] using this
  have hnd : ∀ (i : Nat) (o : Oper), ops[i]? = some o → noDefer o = true := fun i o ho => by
    have := List.all_eq_true.1 hd o (by
      have := Array.mem_of_getElem? ho
      simpa using this)
    simp only [Bool.and_eq_true] at this
    exact this.1
  intro fuel
  induction fuel with
  | zero => intro listed f own h a w ha hg hm; exact ⟨h.1, f, own, ha, hg, hm, h.2⟩
  | succ fuel ih =>
    intro listed f own h a w ha hg hm
    refine ⟨fun h0 => ⟨f, own, ha, hg, hm, h.1 h0⟩, fun i hi => ?_⟩
    obtain ⟨_, o, ho, _⟩ := mem_ready.1 hi
    have hv := h.2 i hi o ho
    unfold wpOpIn
    simp only [ho]
    have hy : ∀ j, yielded ops a.tmps j = gval ops f j := yielded_eq ha ops
    have go : Step P Γ o f own (fun v own' => (keepB o = true → ∀ p ∈ base, p ∈ own → p ∈ own') ∧ AnyV P Γ ops base (fun f own => Q .normal f own) fuel (listed.setIfInBounds i true) (put f o.dst v) own') →
        o.wpIn (fen ro) 0 P a w (wpAnyIn (fen ro) 0 P .any ops (VQ ro Γ n Q) fuel (listed.setIfInBounds i true)) (VQ ro Γ n Q) := fun hs => by
      refine wp_of_runs (hnd i o ho) ?_
      rw [ha.eval]
      exact (hs w hg).mono fun v w' ⟨own', hg', hfr, hS⟩ => ih _ _ _ hS.2 _ _ (ha.put _ _ (hdo i o ho)) hg' (by rw [put_defers]; exact hm.step hfr.1 hfr.2)
    unfold OpV at hv
    cases hgd : o.guard with
    | none =>
      simp only [hgd] at hv
      have hw : Region.wanted o (yielded ops a.tmps) = true := by simp [Region.wanted, hgd]
      simp only [hw, if_true]
      exact go hv
    | some jw =>
      obtain ⟨j, want⟩ := jw
      simp only [hgd] at hv
      rcases hv with ⟨h1, h2⟩ | ⟨h1, h2⟩
      · have hw : Region.wanted o (yielded ops a.tmps) = true := by simp [Region.wanted, hgd, hy, h1]
        simp only [hw, if_true]
        exact go h2
      · have hw : Region.wanted o (yielded ops a.tmps) = false := by simpa [Region.wanted, hgd, hy] using h1
        simp only [hw, Bool.false_eq_true, if_false]
        exact ⟨fun f _ => fen_fn ro f, ih _ _ _ h2.2 _ _ (ha.put _ _ (hdo i o ho)) hg (by rw [put_defers]; exact hm)⟩

/-- A quiet operation: one value, in every world in which the blocks base lie as they did. -/
def QY (P : Program) (Γ : Ctx) (ops : Array Oper) (base : Own) (o : Oper) (f : Nat → Value) (v : Value) : Prop :=
  match o.guard with
  | none => ∀ w, Good Γ base w → (execOp (ev f) o).run P w = .ok (.value v) w
  | some (j, want) => (gval ops f j = some want ∧ ∀ w, Good Γ base w → (execOp (ev f) o).run P w = .ok (.value v) w) ∨ (gval ops f j ≠ some want ∧ v = undef)

theorem Good.sub {base own : Own} {w : World} (hg : Good Γ own w) (hn : (ids base).Nodup) (hs : Sub base own) : Good Γ base w :=
  ⟨hg.fr, hg.ok.sub hn hs, fun b k hb => hg.mine b k (hs _ hb)⟩

theorem QY.opV {base : Own} {o : Oper} {v : Value} {S : Value → Own → Prop} (h : QY P Γ ops base o f v) (hn : (ids base).Nodup) (hs : Sub base own) (hS : S v own) : OpV P Γ ops o f own S := by
  have st : (∀ w, Good Γ base w → (execOp (ev f) o).run P w = .ok (.value v) w) → Step P Γ o f own S := fun h w hg => by
    rw [h w (hg.sub hn hs)]; exact ⟨own, hg, stay w, hS⟩
  unfold QY at h
  unfold OpV
  cases hg : o.guard with
  | none => simp only [hg] at h ⊢; exact st h
  | some jw =>
    obtain ⟨j, want⟩ := jw
    simp only [hg] at h ⊢
    rcases h with ⟨h1, h2⟩ | ⟨h1, rfl⟩
    · exact .inl ⟨h1, st h2⟩
    · exact .inr ⟨h1, hS⟩

theorem QY.put {base : Own} {o : Oper} {v : Value} (hs : ∀ cs b, o.op ≠ .select cs b) {d : Option Tmp} {u : Value} (hd : ∀ t, d = some t → t ∉ o.looksAt ops) (h : QY P Γ ops base o f v) : QY P Γ ops base o (VL.put f d u) v := by
  have he := exec_put (f := f) (ops := ops) hs (v := u) hd
  unfold QY at *
  cases hg : o.guard with
  | none => simp only [hg] at h ⊢; rw [he]; exact h
  | some jw =>
    obtain ⟨j, want⟩ := jw
    simp only [hg] at h ⊢
    rw [gval_put hg hd, he]; exact h

theorem anyV_first {base qb : Own} (hqb : qb = [] ∨ qb = base) (hnd : (ids base).Nodup) {i : Nat} {oi : Oper} {v : Value} (hi : ops[i]? = some oi) (hsel : ∀ (j : Nat) (o : Oper) cs b, ops[j]? = some o → o.op ≠ .select cs b) :
    ∀ (fuel : Nat) (listed : Array Bool) (f : Nat → Value) (own : Own),
      (∀ j oj, ops[j]? = some oj → j ≠ i → listed.getD j true = false → (∀ e ∈ oj.after, Region.binds .any e = true → e.on ≠ i) → oi.apart ops oj = true ∧ (qb = [] ∨ keepB oj = true)) →
      i ∈ Region.ready .any ops listed → QY P Γ ops qb oi f v → (qb = [] ∨ Sub base own) →
      AnyV P Γ ops base Q fuel (listed.setIfInBounds i true) (put f oi.dst v) own → AnyV P Γ ops base Q (fuel + 1) listed f own := by
  have hnq : (ids qb).Nodup := by rcases hqb with h | h <;> rw [h]; exact List.nodup_nil; exact hnd
  have hsq : ∀ own, (qb = [] ∨ Sub base own) → Sub qb own := fun own h => by
    rcases hqb with h1 | h1
    · rw [h1]; intro p hp; cases hp
    · rcases h with h2 | h2
      · rw [h2]; intro p hp; cases hp
      · rw [h1]; exact h2
  intro fuel
  induction fuel with
  | zero =>
    intro listed f own _ hr hy hb H
    refine ⟨fun h => (by rw [h] at hr; cases hr), fun j hj o ho => ?_⟩
    by_cases hji : j = i
    · subst hji
      obtain rfl : oi = o := Option.some.inj (hi.symm.trans ho)
      exact hy.opV hnq (hsq own hb) ⟨fun _ _ _ h => h, H⟩
    · have := ready_mono hj hji
      rw [H.1] at this
      cases this
  | succ fuel ih =>
    intro listed f own hfree hr hy hb H
    refine ⟨fun h => (by rw [h] at hr; cases hr), fun j hj oj hoj => ?_⟩
    by_cases hji : j = i
    · subst hji
      obtain rfl : oi = oj := Option.some.inj (hi.symm.trans hoj)
      exact hy.opV hnq (hsq own hb) ⟨fun _ _ _ h => h, H⟩
    · have h1 := H.2 j (ready_mono hj hji) oj hoj
      obtain ⟨hjun, oj', hoj', hall⟩ := mem_ready.1 hj
      obtain rfl : oj = oj' := Option.some.inj (hoj.symm.trans hoj')
      have hnot : ∀ e ∈ oj.after, Region.binds .any e = true → e.on ≠ i := fun e he hbd heq => by
        have h1 := hall e he hbd
        have h0 := (mem_ready.1 hr).1
        rw [heq] at h1
        rcases Nat.lt_or_ge i listed.size with h' | h'
        · simp [h'] at h0 h1; rw [h0] at h1; cases h1
        · simp [Array.getElem?_eq_none h'] at h1
      obtain ⟨hap, hkeep⟩ := hfree j oj hoj hji hjun hnot
      obtain ⟨a1, a2, a3⟩ := Oper.apart_spec hap
      refine (OpV.put (fun cs b => hsel j oj cs b hoj) a1 h1).mono fun u own' ⟨k1, k2⟩ => ⟨k1, ?_⟩
      have hfree' : ∀ k ok, ops[k]? = some ok → k ≠ i → (listed.setIfInBounds j true).getD k true = false →
          (∀ e ∈ ok.after, Region.binds .any e = true → e.on ≠ i) → oi.apart ops ok = true ∧ (qb = [] ∨ keepB ok = true) := fun k ok hk hki hun hno => by
        refine hfree k ok hk hki ?_ hno
        by_cases hjk : j = k
        · subst hjk; exact hjun
        · rw [getD_set_ne true hjk] at hun; exact hun
      refine ih (listed.setIfInBounds j true) (put f oj.dst u) own' hfree' (ready_mono hr (Ne.symm hji)) (hy.put (fun cs b => hsel i oi cs b hi) a3) ?_ ?_
      · rcases hkeep with h | h
        · exact .inl h
        · rcases hb with hb | hb
          · exact .inl hb
          · exact .inr (fun p hp => k1 h p hp (hb p hp))
      · rw [Array.setIfInBounds_comm _ _ hji, ← put_comm (f := f) v u a2]
        exact k2

/-! the canonical order -/
def allocB (o : Oper) : Bool := match o.op, o.guard with | .alloc _, none => true | _, _ => false
/-- listed, and all allocations besides. -/
def orAll (ops : Array Oper) (listed : Array Bool) : Array Bool := (List.range ops.size).foldl (fun l i => if ((ops[i]?).map allocB).getD false then l.setIfInBounds i true else l) listed

def freeK (ops : Array Oper) (listed : Array Bool) (i : Nat) : Bool :=
  (List.range ops.size).all fun j => j == i || listed.getD j true || match ops[j]? with
    | some oj => oj.after.any (fun e => Region.binds .any e && e.on == i) || keepB oj
    | none => true

def VD (P : Program) (Γ : Ctx) (ops : Array Oper) (base : Own) (Q : (Nat → Value) → Own → Prop) : List Nat → Array Bool → (Nat → Value) → Own → Prop
  | [], listed, f, own => Region.ready .any ops listed = [] ∧ Q f own
  | i :: L, listed, f, own => ∃ o, ops[i]? = some o ∧ (Region.ready .any ops listed).contains i = true ∧
    ((Region.free .any ops listed i = true ∧ ∃ v, QY P Γ ops [] o f v ∧ VD P Γ ops base Q L (listed.setIfInBounds i true) (put f o.dst v) own) ∨
     (Region.free .any ops listed i = true ∧ freeK ops listed i = true ∧ Sub base own ∧ ∃ v, QY P Γ ops base o f v ∧ VD P Γ ops base Q L (listed.setIfInBounds i true) (put f o.dst v) own) ∨
     (Region.ready .any ops listed = [i] ∧ OpV P Γ ops o f own (fun v own' => (keepB o = true → ∀ p ∈ base, p ∈ own → p ∈ own') ∧ VD P Γ ops base Q L (listed.setIfInBounds i true) (put f o.dst v) own')) ∨
     ((ids base).Nodup → Region.noSelect ops = true → AnyV P Γ ops base Q (L.length + 1) listed f own))

theorem freeK_spec {i : Nat} {listed : Array Bool} (h : freeK ops listed i = true) (j : Nat) (oj : Oper) (hj : ops[j]? = some oj) (hne : j ≠ i) (hun : listed.getD j true = false) (hno : ∀ e ∈ oj.after, Region.binds .any e = true → e.on ≠ i) : keepB oj = true := by
  simp only [freeK, List.all_eq_true, List.mem_range] at h
  have h1 := h j (Array.getElem?_eq_some_iff.1 hj).1
  simp only [hj, Bool.or_eq_true, beq_iff_eq, hne, false_or, hun, Bool.false_eq_true] at h1
  rcases h1 with h1 | h1
  · obtain ⟨e, he, hb⟩ := Array.any_eq_true'.1 h1
    simp only [Bool.and_eq_true, beq_iff_eq] at hb
    exact absurd hb.2 (hno e he hb.1)
  · exact h1

theorem anyV_of_vd {base : Own} (hnd : (ids base).Nodup) (hsel : Region.noSelect ops = true) : ∀ (L : List Nat) (listed : Array Bool) (f : Nat → Value) (own : Own),
    VD P Γ ops base Q L listed f own → AnyV P Γ ops base Q L.length listed f own
  | [], _, _, _, h => h
  | i :: L, listed, f, own, h => by
    obtain ⟨o, ho, hr, h | h | h | h⟩ := h
    · obtain ⟨hf, v, hy, hk⟩ := h
      exact anyV_first (qb := []) (.inl rfl) hnd ho (Region.noSelect_spec hsel) L.length listed f own
        (fun j oj hj hne hun hno => ⟨Region.free_spec ho hf j oj hj hne hun hno, .inl rfl⟩) (by simpa using hr) hy (.inl rfl) (anyV_of_vd hnd hsel L _ _ _ hk)
    · obtain ⟨hf, hkp, hsb, v, hy, hk⟩ := h
      exact anyV_first (qb := base) (.inr rfl) hnd ho (Region.noSelect_spec hsel) L.length listed f own
        (fun j oj hj hne hun hno => ⟨Region.free_spec ho hf j oj hj hne hun hno, .inr (freeK_spec hkp j oj hj hne hun hno)⟩) (by simpa using hr) hy (.inr hsb) (anyV_of_vd hnd hsel L _ _ _ hk)
    · obtain ⟨h1, h2⟩ := h
      refine ⟨fun h0 => (by rw [h0] at h1; cases h1), fun j hj oj hoj => ?_⟩
      rw [h1] at hj
      obtain rfl : j = i := by simpa using hj
      obtain rfl : o = oj := Option.some.inj (ho.symm.trans hoj)
      exact h2.mono fun v own' ⟨k1, k2⟩ => ⟨k1, anyV_of_vd hnd hsel L _ _ _ k2⟩
    · exact h hnd hsel

theorem vw_draw {ro : Option Nat} {n : Nat} {id : Nat} {l : List Oper} {Q : Post} (L : List Nat) (hm : P.follows .mixedOrders = true) (hd : dstOk n l = true) (hsel : Region.noSelect l.toArray = true) (hL : L.length = l.length)
    (h : VD P Γ l.toArray own (fun f own => Q .normal f own) L (Array.replicate l.length false) f own) : VWr ro P Γ n (.region id l.toArray true) Q f own := by
  intro a w ha hg hmk
  refine wpIn_region_any hm ?_
  have h1 := anyV_of_vd (base := own) hg.ok.nodup hsel L _ f own h
  have h2 := anyV_sound (ro := ro) (n := n) (Q := Q) (by simpa using hd) _ _ f own h1 a { w with drawn := w.drawn + 1 } ha hg.drew hmk.drew
  rw [hL] at h2
  simpa using h2

def GOn (ops : Array Oper) (f : Nat → Value) : Option (Nat × Bool) → Prop
  | none => True
  | some (j, want) => gval ops f j = some want

variable {T : Nat → Option TI} {base : Own} {L : List Nat} {listed : Array Bool} {i d : Nat} {op : Op} {ty : TypeId} {pos : String} {aft : Array Edge} {g : Option (Nat × Bool)}

theorem qy_of_run {v : Value} (hg : GOn ops f g) (h : ∀ w, Good Γ base w → (execOp (ev f) ⟨some d, op, ty, pos, aft, g⟩).run P w = .ok (.value v) w) : QY P Γ ops base ⟨some d, op, ty, pos, aft, g⟩ f v := by
  unfold QY
  cases g with
  | none => exact h
  | some jw => exact .inl ⟨hg, h⟩

theorem vd_p (hT : TyOk P T) (ho : ops[i]? = some ⟨some d, op, ty, pos, aft, g⟩) {c : Prop} {v : Value} (hg : GOn ops f g) (h : aexec T f op = some (c, v)) (hr : (Region.ready .any ops listed).contains i = true) (hf : Region.free .any ops listed i = true) (hc : c)
    (k : VD P Γ ops base Q L (listed.setIfInBounds i true) (upd f d v) own) : VD P Γ ops base Q (i :: L) listed f own :=
  ⟨_, ho, hr, .inl ⟨hf, v, qy_of_run hg fun w _ => aexec_sound hT h hc _ _ _ _ _ w, k⟩⟩
theorem vd_q (hT : TyOk P T) (ho : ops[i]? = some ⟨some d, op, ty, pos, aft, g⟩) {v : Value} (hg : GOn ops f g) (h : aexec T f op = some (True, v)) (hr : (Region.ready .any ops listed).contains i = true) (hf : Region.free .any ops listed i = true)
    (k : VD P Γ ops base Q L (listed.setIfInBounds i true) (upd f d v) own) : VD P Γ ops base Q (i :: L) listed f own := vd_p hT ho hg h hr hf trivial k
/-- A guard that says no. -/
theorem vd_skip {j : Nat} {want : Bool} {b : Option Bool} (ho : ops[i]? = some ⟨some d, op, ty, pos, aft, some (j, want)⟩) (hg : gval ops f j = b) (hb : b ≠ some want) (hr : (Region.ready .any ops listed).contains i = true) (hf : Region.free .any ops listed i = true)
    (k : VD P Γ ops base Q L (listed.setIfInBounds i true) (upd f d undef) own) : VD P Γ ops base Q (i :: L) listed f own :=
  ⟨_, ho, hr, .inl ⟨hf, undef, .inr ⟨by rw [hg]; exact hb, rfl⟩, k⟩⟩
theorem vd_skipT {j : Nat} (ho : ops[i]? = some ⟨some d, op, ty, pos, aft, some (j, false)⟩) (hg : gval ops f j = some true) (hr : (Region.ready .any ops listed).contains i = true) (hf : Region.free .any ops listed i = true)
    (k : VD P Γ ops base Q L (listed.setIfInBounds i true) (upd f d undef) own) : VD P Γ ops base Q (i :: L) listed f own := vd_skip ho hg (by decide) hr hf k
theorem vd_skipF {j : Nat} (ho : ops[i]? = some ⟨some d, op, ty, pos, aft, some (j, true)⟩) (hg : gval ops f j = some false) (hr : (Region.ready .any ops listed).contains i = true) (hf : Region.free .any ops listed i = true)
    (k : VD P Γ ops base Q L (listed.setIfInBounds i true) (upd f d undef) own) : VD P Γ ops base Q (i :: L) listed f own := vd_skip ho hg (by decide) hr hf k
theorem vd_skipU {j : Nat} {want : Bool} (ho : ops[i]? = some ⟨some d, op, ty, pos, aft, some (j, want)⟩) (hg : gval ops f j = none) (hr : (Region.ready .any ops listed).contains i = true) (hf : Region.free .any ops listed i = true)
    (k : VD P Γ ops base Q L (listed.setIfInBounds i true) (upd f d undef) own) : VD P Γ ops base Q (i :: L) listed f own := vd_skip ho hg (by simp) hr hf k
theorem vd_load (hT : TyOk P T) {t : Nat} {x : Operand} {ti : TI} {b o : Nat} {v : Value} (ho : ops[i]? = some ⟨some d, .load t x, ty, pos, aft, g⟩) (hg : GOn ops f g) (ht : T t = some ti) (hp : ti.plain = true) (hx : ev f x = .pointer (some ⟨b, o, none⟩))
    (hr : (Region.ready .any ops listed).contains i = true) (hf : Region.free .any ops listed i = true) (hk : freeK ops listed i = true) (hs : Sees Γ base b o v) (hsb : Sub base own)
    (k : VD P Γ ops base Q L (listed.setIfInBounds i true) (upd f d v) own) : VD P Γ ops base Q (i :: L) listed f own :=
  ⟨_, ho, hr, .inr (.inl ⟨hf, hk, hsb, v, qy_of_run hg fun w hgd => by
    show ((Instr.loadAt t (ev f x) >>= fun v => pure (Next.value v)).run P w) = _
    have : (Instr.loadAt t (ev f x)).run P w = .ok v w := by
      rw [hx]
      show (loadVar t ⟨b, o, none⟩).run P w = _
      unfold loadVar
      rw [Sem.run_bind, isAgg_plain hT ht hp, Result.andThen_ok, if_neg (by simp), run_load, hs w hgd]
    rw [run_val, this]; rfl, k⟩)⟩
theorem vd_loadN (hT : TyOk P T) {t : Nat} {x : Operand} {ti : TI} {b o : Nat} (cs : List Value) (ho : ops[i]? = some ⟨some d, .load t x, ty, pos, aft, g⟩) (hg : GOn ops f g) (ht : T t = some ti) (hp : ti.isAgg = true) (hx : ev f x = .pointer (some ⟨b, o, none⟩)) (hn : cs.length = ti.size)
    (hr : (Region.ready .any ops listed).contains i = true) (hf : Region.free .any ops listed i = true) (hk : freeK ops listed i = true) (hs : SeesL Γ base b o cs) (hsb : Sub base own)
    (k : VD P Γ ops base Q L (listed.setIfInBounds i true) (upd f d (.agg cs.toArray)) own) : VD P Γ ops base Q (i :: L) listed f own :=
  ⟨_, ho, hr, .inr (.inl ⟨hf, hk, hsb, _, qy_of_run hg fun w hgd => by
    show ((Instr.loadAt t (ev f x) >>= fun v => pure (Next.value v)).run P w) = _
    have : (Instr.loadAt t (ev f x)).run P w = .ok (.agg cs.toArray) w := by
      rw [hx]
      exact run_loadVarN hT cs ht hp hn hs hgd
    rw [run_val, this]; rfl, k⟩)⟩
theorem vd_eqA (hT : TyOk P T) {t u len e : Nat} {x y : Operand} {r q : List Int} {a b a2 b2 : Nat} {z z2 : List Value} (ho : ops[i]? = some ⟨some d, .binOp .eql t x y u, ty, pos, aft, g⟩) (hg : GOn ops f g) (hx : ev f x = .agg (ints r).toArray) (hy : ev f y = .agg (ints q).toArray)
    (ht : T t = some ⟨.arr len e, a, b, z⟩) (he : T e = some ⟨.int .i64, a2, b2, z2⟩) (ha2 : a2 = 1) (hgt : P.eqGuardType P.depth t = false) (hr : r.length = len) (hq : q.length = len)
    (hrd : (Region.ready .any ops listed).contains i = true) (hf : Region.free .any ops listed i = true)
    (k : VD P Γ ops base Q L (listed.setIfInBounds i true) (upd f d (.bool (decide (r = q)))) own) : VD P Γ ops base Q (i :: L) listed f own :=
  ⟨_, ho, hrd, .inl ⟨hf, _, qy_of_run hg fun w _ => by
    show (do let v ← (do eqGuard .eql t x y (ev f x) (ev f y); binOp .eql t (ev f x) (ev f y)); pure (Next.value v) : Sem Next).run P w = _
    rw [hx, hy, run_val, run_eql_arr hT ht he ha2 hgt hr hq]; rfl, k⟩⟩
/-- The one that stands next. -/
theorem vd_one {o : Oper} (ho : ops[i]? = some o) (hr : (Region.ready .any ops listed).contains i = true) (h1 : Region.ready .any ops listed = [i]) (hg : o.guard = none)
    (h : VOps P Γ ops (fun f' own' => (keepB o = true → ∀ p ∈ base, p ∈ own → p ∈ own') ∧ VD P Γ ops base Q L (listed.setIfInBounds i true) f' own') [o] f own) : VD P Γ ops base Q (i :: L) listed f own := by
  refine ⟨o, ho, hr, .inr (.inr (.inl ⟨h1, ?_⟩))⟩
  unfold OpV
  simp only [hg]
  simp only [VOps, hg] at h
  exact h
theorem vd_oneG {op : Op} {j : Nat} {want : Bool} (ho : ops[i]? = some ⟨some d, op, ty, pos, aft, some (j, want)⟩) (hr : (Region.ready .any ops listed).contains i = true) (h1 : Region.ready .any ops listed = [i]) (hg : gval ops f j = some want)
    (h : VOps P Γ ops (fun f' own' => (keepB ⟨some d, op, ty, pos, aft, none⟩ = true → ∀ p ∈ base, p ∈ own → p ∈ own') ∧ VD P Γ ops base Q L (listed.setIfInBounds i true) f' own') [⟨some d, op, ty, pos, aft, none⟩] f own) : VD P Γ ops base Q (i :: L) listed f own := by
  refine ⟨_, ho, hr, .inr (.inr (.inl ⟨h1, .inl ⟨hg, ?_⟩⟩))⟩
  exact h
/-- Two stand next: each of them first. -/
theorem vd_two {j : Nat} {o u : Oper} (L1 L2 : List Nat) (ho : ops[i]? = some o) (hu : ops[j]? = some u) (hr : Region.ready .any ops listed = [i, j]) (hg : o.guard = none) (hgu : u.guard = none) (hl1 : L1.length = L.length) (hl2 : L2.length = L.length)
    (h : VOps P Γ ops (fun f' own' => (keepB o = true → ∀ p ∈ base, p ∈ own → p ∈ own') ∧ VD P Γ ops base Q L1 (listed.setIfInBounds i true) f' own') [o] f own)
    (k : VOps P Γ ops (fun f' own' => (keepB u = true → ∀ p ∈ base, p ∈ own → p ∈ own') ∧ VD P Γ ops base Q L2 (listed.setIfInBounds j true) f' own') [u] f own) : VD P Γ ops base Q (i :: L) listed f own := by
  refine ⟨o, ho, by rw [hr]; simp, .inr (.inr (.inr fun hnd hsel => ⟨fun h0 => (by rw [h0] at hr; cases hr), fun x hx ox hox => ?_⟩))⟩
  rw [hr] at hx
  rcases List.mem_cons.1 hx with rfl | hx
  · obtain rfl : o = ox := Option.some.inj (ho.symm.trans hox)
    unfold OpV
    simp only [hg]
    simp only [VOps, hg] at h
    exact h.mono fun v own' ⟨k1, k2⟩ => ⟨k1, by rw [← hl1]; exact anyV_of_vd hnd hsel L1 _ _ _ k2⟩
  · obtain rfl : x = j := by simpa using hx
    obtain rfl : u = ox := Option.some.inj (hu.symm.trans hox)
    unfold OpV
    simp only [hgu]
    simp only [VOps, hgu] at k
    exact k.mono fun v own' ⟨k1, k2⟩ => ⟨k1, by rw [← hl2]; exact anyV_of_vd hnd hsel L2 _ _ _ k2⟩
theorem vd_nil (hr : Region.ready .any ops listed = []) (h : Q f own) : VD P Γ ops base Q [] listed f own := ⟨hr, h⟩
theorem vd_gsplit {j t : Nat} {want b : Bool} (ho : ops[i]? = some ⟨some d, op, ty, pos, aft, some (j, want)⟩) (hd : (ops[j]?).bind (·.dst) = some t) (hf : f t = .bool b)
    (h : BSplit b (VD P Γ ops base Q (i :: L) listed (upd f t (.bool true)) own) (VD P Γ ops base Q (i :: L) listed (upd f t (.bool false)) own)) : VD P Γ ops base Q (i :: L) listed f own := by
  have _ := ho
  have _ := hd
  cases b
  · have := h.2 rfl
    rwa [← hf, upd_self] at this
  · have := h.1 rfl
    rwa [← hf, upd_self] at this
theorem sub_refl : Sub own own := fun _ h => h
theorem sub_cons {x : Nat × Blk} (h : Sub base own) : Sub base (x :: own) := fun p hp => List.mem_cons_of_mem _ (h p hp)
theorem sub_app {new : Own} (h : Sub base own) : Sub base (new ++ own) := fun p hp => List.mem_append_right _ (h p hp)
end
end Go.VL
