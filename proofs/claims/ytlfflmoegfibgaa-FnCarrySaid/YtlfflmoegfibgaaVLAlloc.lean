import Derived.Test.YtlfflmoegfibgaaVLBB
/-! A drawn region with an allocation that waits for nothing: it may come at any time. -/
namespace Go.VL
open Go.RowKit
section
variable {P : Program} {Γ : Ctx} {ops : Array Oper} {Q : (Nat → Value) → Own → Prop} {f : Nat → Value} {own : Own}

/-- What is owned besides stands still. -/
theorem Step.frame {o : Oper} {x : Nat × Blk} {S : Value → Own → Prop} (h : Step P Γ o f own S) : Step P Γ o f (x :: own) (fun v own'' => ∃ own', own'' = x :: own' ∧ x.1 ∉ ids own' ∧ S v own') := fun w hg => by
  have hg0 : Good Γ own w := Good.tail hg
  refine (h w hg0).mono fun v w' ⟨own', h1, ⟨h2, h3⟩, h4⟩ => ?_
  have hnx : x.1 ∉ ids own := (List.nodup_cons.1 (show (x.1 :: ids own).Nodup from hg.ok.nodup)).1
  have hlt : x.1 < w.heap.size := hg.ok.lt (List.mem_cons_self)
  have hnx' : x.1 ∉ ids own' := fun hx => by
    rcases h3 _ hx with h | h
    · exact hnx h
    · omega
  have hblk : w'.heap[x.1]? = w.heap[x.1]? := h2.block _ hlt hnx
  refine ⟨x :: own', ⟨h1.fr, ⟨List.nodup_cons.2 ⟨hnx', h1.ok.nodup⟩, fun b k hb => ?_⟩, fun b k hb => ?_⟩, ⟨h2.mono fun _ hh => List.mem_cons_of_mem _ hh, fun b hb => ?_⟩, own', rfl, hnx', h4⟩
  · rcases List.mem_cons.1 hb with h | h
    · subst h
      have := hg.ok.blk b k List.mem_cons_self
      rw [show w'.heap[b]? = w.heap[b]? from hblk]; exact this
    · exact h1.ok.blk b k h
  · rcases List.mem_cons.1 hb with h | h
    · subst h
      exact hg.mine b k List.mem_cons_self
    · exact h1.mine b k h
  · rcases List.mem_cons.1 hb with h | h
    · exact .inl (by rw [h]; exact List.mem_cons_self)
    · rcases h3 b h with h | h
      · exact .inl (List.mem_cons_of_mem _ h)
      · exact .inr h
theorem OpV.frame {o : Oper} {x : Nat × Blk} {S : Value → Own → Prop} (hx : x.1 ∉ ids own) (h : OpV P Γ ops o f own S) : OpV P Γ ops o f (x :: own) (fun v own'' => ∃ own', own'' = x :: own' ∧ x.1 ∉ ids own' ∧ S v own') := by
  unfold OpV at *
  cases hg : o.guard with
  | none => simp only [hg] at h ⊢; exact h.frame
  | some jw =>
    obtain ⟨j, want⟩ := jw
    simp only [hg] at h ⊢
    exact h.imp (fun h => ⟨h.1, h.2.frame⟩) (fun h => ⟨h.1, own, rfl, hx, h.2⟩)
theorem OpV.perm {o : Oper} {own' : Own} {S : Value → Own → Prop} (hp : own.Perm own') (h : OpV P Γ ops o f own' S) : OpV P Γ ops o f own (fun v o' => S v o' ∨ (o' = own ∧ S v own')) := by
  unfold OpV at *
  cases hg : o.guard with
  | none => simp only [hg] at h ⊢; exact (Step.perm hp h).mono fun _ _ h => .inl h
  | some jw =>
    obtain ⟨j, want⟩ := jw
    simp only [hg] at h ⊢
    exact h.imp (fun h => ⟨h.1, (Step.perm hp h.2).mono fun _ _ h => .inl h⟩) (fun h => ⟨h.1, by simp [h.2]⟩)

/-- Q, whatever the order of what is owned. -/
def Up (Q : (Nat → Value) → Own → Prop) : (Nat → Value) → Own → Prop := fun f own => ∃ own', own.Perm own' ∧ Q f own'
theorem up_of {own' : Own} (hp : own.Perm own') (h : Up Q f own') : Up Q f own := by
  obtain ⟨o, h1, h2⟩ := h; exact ⟨o, hp.trans h1, h2⟩
theorem anyV_mono {base : Own} {Q' : (Nat → Value) → Own → Prop} (hq : ∀ f own, Q f own → Q' f own) : ∀ (fuel : Nat) (listed : Array Bool) (f : Nat → Value) (own : Own), AnyV P Γ ops base Q fuel listed f own → AnyV P Γ ops base Q' fuel listed f own
  | 0, _, _, _, h => ⟨h.1, hq _ _ h.2⟩
  | fuel + 1, _, _, _, h => ⟨fun h0 => hq _ _ (h.1 h0), fun i hi o ho => (h.2 i hi o ho).mono fun _ _ ⟨k1, k2⟩ => ⟨k1, anyV_mono hq fuel _ _ _ k2⟩⟩
theorem anyV_perm {base : Own} : ∀ (fuel : Nat) (listed : Array Bool) (f : Nat → Value) (own own' : Own), own.Perm own' → AnyV P Γ ops base (Up Q) fuel listed f own' → AnyV P Γ ops base (Up Q) fuel listed f own
  | 0, _, _, _, _, hp, h => ⟨h.1, up_of hp h.2⟩
  | fuel + 1, _, _, _, _, hp, h => ⟨fun h0 => up_of hp (h.1 h0), fun i hi o ho => (OpV.perm hp (h.2 i hi o ho)).mono fun _ _ hh => by
      rcases hh with ⟨k1, k2⟩ | ⟨rfl, k1, k2⟩
      · exact ⟨fun hk p hpb hpo => k1 hk p hpb (hp.mem_iff.1 hpo), k2⟩
      · exact ⟨fun _ p _ hpo => hpo, anyV_perm fuel _ _ _ _ hp k2⟩⟩

variable {T : Nat → Option TI}
/-- The allocation a (into d, of the type t) has not come yet. -/
def VDP (P : Program) (T : Nat → Option TI) (Γ : Ctx) (ops : Array Oper) (base : Own) (Q : (Nat → Value) → Own → Prop) (a d t : Nat) (z : List Value) : List Nat → Array Bool → (Nat → Value) → Own → Prop
  | [], _, _, _ => False
  | i :: L, listed, f, own => 
    (i = a ∧ Region.ready .any ops listed = [a] ∧ ∀ b, b ∉ ids own → VD P Γ ops base Q L (listed.setIfInBounds a true) (upd f d (.pointer (some ⟨b, 0, none⟩))) ((b, ⟨z, t, z.length, none⟩) :: own)) ∨
    (Nat.beq i a = false ∧ L.isEmpty = false ∧ ∃ o, ops[i]? = some o ∧ (Region.ready .any ops listed).contains i = true ∧
    ((Region.free .any ops listed i = true ∧ ∃ v, QY P Γ ops [] o f v ∧ VDP P T Γ ops base Q a d t z L (listed.setIfInBounds i true) (put f o.dst v) own) ∨
     (Region.free .any ops listed i = true ∧ freeK ops listed i = true ∧ Sub base own ∧ ∃ v, QY P Γ ops base o f v ∧ VDP P T Γ ops base Q a d t z L (listed.setIfInBounds i true) (put f o.dst v) own) ∨
     (Region.ready .any ops (listed.setIfInBounds a true) = [i] ∧ (∀ oa, ops[a]? = some oa → o.apart ops oa = true) ∧ OpV P Γ ops o f own (fun v own' => (keepB o = true → ∀ p ∈ base, p ∈ own → p ∈ own') ∧ VDP P T Γ ops base Q a d t z L (listed.setIfInBounds i true) (put f o.dst v) own'))))

theorem set_comm {listed : Array Bool} {i j : Nat} : (listed.setIfInBounds i true).setIfInBounds j true = (listed.setIfInBounds j true).setIfInBounds i true := by
  by_cases h : i = j
  · subst h; rfl
  · exact Array.setIfInBounds_comm _ _ h
theorem vdp_early {base : Own} (hnd : (ids base).Nodup) (hsel : Region.noSelect ops = true) {a d t : Nat} {z : List Value} {ty : TypeId} {pos : String} {aft : Array Edge} (ha : ops[a]? = some ⟨some d, .alloc t, ty, pos, aft, none⟩) (hft : ∀ e ∈ aft, Region.binds .any e = false) :
    ∀ (L : List Nat) (listed : Array Bool) (f : Nat → Value) (own : Own), listed.getD a true = false → VDP P T Γ ops base Q a d t z L listed f own →
      ∀ b own', b ∉ ids own → own'.Perm ((b, ⟨z, t, z.length, none⟩) :: own) → AnyV P Γ ops base (Up Q) (L.length - 1) (listed.setIfInBounds a true) (upd f d (.pointer (some ⟨b, 0, none⟩))) own'
  | [], _, _, _, _, h => h.elim
  | i :: L, listed, f, own, hla, h => by
    intro b own' hb hp
    have _ := hft
    rcases h with ⟨rfl, hr, k⟩ | ⟨hia, hL, o, ho, hr, h⟩
    · have h1 := anyV_of_vd hnd hsel L _ _ _ (k b hb)
      have h2 := anyV_mono (Q' := Up Q) (fun f own h => ⟨own, List.Perm.refl _, h⟩) _ _ _ _ h1
      exact anyV_perm _ _ _ _ _ hp h2
    · have hne : i ≠ a := fun e => by rw [e] at hia; simp at hia
      have hsp := Region.noSelect_spec hsel
      have hlen : (i :: L).length - 1 = (L.length - 1) + 1 := by
        cases L with
        | nil => cases hL
        | cons _ _ => simp
      have hla' : (listed.setIfInBounds i true).getD a true = false := by rw [getD_set_ne true hne]; exact hla
      have hri : i ∈ Region.ready .any ops (listed.setIfInBounds a true) := ready_mono (by simpa using hr) hne
      have hbt : (b, (⟨z, t, z.length, none⟩ : Blk)) ∈ own' := hp.mem_iff.2 List.mem_cons_self
      have hun : ∀ j, (listed.setIfInBounds a true).getD j true = false → listed.getD j true = false := fun j hj => by
        by_cases haj : a = j
        · rw [← haj]; exact hla
        · rwa [getD_set_ne true haj] at hj
      have _ := hbt
      rw [hlen]
      rcases h with ⟨hf, v, hy, hk⟩ | ⟨hf, hkp, hsb, v, hy, hk⟩ | ⟨hra, hap, hk⟩
      · have hpa := fun hno => Region.free_spec ho hf a _ ha (Ne.symm hne) hla hno
        obtain ⟨a1, a2, a3⟩ := Oper.apart_spec (hpa fun e he hbd => by rw [hft e he] at hbd; cases hbd)
        have hI := vdp_early hnd hsel ha hft L _ _ _ hla' hk b own' hb hp
        refine anyV_first (qb := []) (.inl rfl) hnd ho hsp _ _ _ _ (fun j oj hj hji hun' hno => ⟨Region.free_spec ho hf j oj hj hji (hun j hun') hno, .inl rfl⟩) hri (QY.put (hsp i o · · ho) (d := some d) a3 hy) (.inl rfl) ?_
        rw [set_comm] at hI
        rw [show upd (put f o.dst v) d (.pointer (some ⟨b, 0, none⟩)) = put (upd f d (.pointer (some ⟨b, 0, none⟩))) o.dst v from (put_comm (f := f) (d := o.dst) (e := some d) v (.pointer (some ⟨b, 0, none⟩)) a2)] at hI
        exact hI
      · have hpa := fun hno => Region.free_spec ho hf a _ ha (Ne.symm hne) hla hno
        obtain ⟨a1, a2, a3⟩ := Oper.apart_spec (hpa fun e he hbd => by rw [hft e he] at hbd; cases hbd)
        have hI := vdp_early hnd hsel ha hft L _ _ _ hla' hk b own' hb hp
        have hsb' : Sub base own' := fun p hpb => hp.mem_iff.2 (List.mem_cons_of_mem _ (hsb p hpb))
        refine anyV_first (qb := base) (.inr rfl) hnd ho hsp _ _ _ _ (fun j oj hj hji hun' hno => ⟨Region.free_spec ho hf j oj hj hji (hun j hun') hno, .inr (freeK_spec hkp j oj hj hji (hun j hun') hno)⟩) hri (QY.put (hsp i o · · ho) (d := some d) a3 hy) (.inr hsb') ?_
        rw [set_comm] at hI
        rw [show upd (put f o.dst v) d (.pointer (some ⟨b, 0, none⟩)) = put (upd f d (.pointer (some ⟨b, 0, none⟩))) o.dst v from (put_comm (f := f) (d := o.dst) (e := some d) v (.pointer (some ⟨b, 0, none⟩)) a2)] at hI
        exact hI
      · obtain ⟨a1, a2, a3⟩ := Oper.apart_spec (hap _ ha)
        refine ⟨fun h0 => (by rw [h0] at hra; cases hra), fun j hj oj hoj => ?_⟩
        rw [hra] at hj
        obtain rfl : j = i := by simpa using hj
        obtain rfl : o = oj := Option.some.inj (ho.symm.trans hoj)
        have h1 := OpV.put' (hsp j o · · ho) (d := some d) (v := .pointer (some ⟨b, 0, none⟩)) a3 hk
        have h2 := OpV.perm hp (h1.frame (x := (b, ⟨z, t, z.length, none⟩)) hb)
        refine h2.mono fun v o' hh => ?_
        have fin : ∀ own1 : Own, o'.Perm ((b, ⟨z, t, z.length, none⟩) :: own1) → b ∉ ids own1 → VDP P T Γ ops base Q a d t z L (listed.setIfInBounds j true) (put f o.dst v) own1 →
            AnyV P Γ ops base (Up Q) (L.length - 1) ((listed.setIfInBounds a true).setIfInBounds j true) (put (upd f d (.pointer (some ⟨b, 0, none⟩))) o.dst v) o' := fun own1 hp1 hb1 hv1 => by
          have hI := vdp_early hnd hsel ha hft L _ _ _ hla' hv1 b o' hb1 hp1
          rw [set_comm] at hI
          rw [show upd (put f o.dst v) d (.pointer (some ⟨b, 0, none⟩)) = put (upd f d (.pointer (some ⟨b, 0, none⟩))) o.dst v from (put_comm (f := f) (d := o.dst) (e := some d) v (.pointer (some ⟨b, 0, none⟩)) a2)] at hI
          exact hI
        rcases hh with ⟨own1, rfl, hb1, k1, k2⟩ | ⟨rfl, own1, he, hb1, k1, k2⟩
        · exact ⟨fun hkb p hpb hpo => by
            rcases List.mem_cons.1 (hp.mem_iff.1 hpo) with h | h
            · rw [h]; exact List.mem_cons_self
            · exact List.mem_cons_of_mem _ (k1 hkb p hpb h), fin own1 (List.Perm.refl _) hb1 k2⟩
        · exact ⟨fun _ p _ hpo => hpo, fin own1 (by rw [← he]; exact hp) hb1 k2⟩
theorem alloc_step (hT : TyOk P T) {d t : Nat} {i : TI} {ty : TypeId} {pos : String} {aft : Array Edge} (ht : T t = some i) (hz : i.zero ≠ []) {S : Value → Own → Prop}
    (k : ∀ b, b ∉ ids own → S (.pointer (some ⟨b, 0, none⟩)) ((b, ⟨i.zero, t, i.zero.length, none⟩) :: own)) : Step P Γ ⟨some d, .alloc t, ty, pos, aft, none⟩ f own S := by
  intro w hg
  obtain ⟨z, hz1, hz2⟩ := run_zero hT ht hz w
  show RunsTo P ((Instr.alloc t true (.tuple #[]) >>= fun v => pure (Next.value v)).run P w) _
  have : (Instr.alloc t true (.tuple #[])).run P w = .ok (.pointer (some ⟨w.heap.size, 0, none⟩)) (w.alloc (.cells z.cells t)) := by
    unfold Instr.alloc
    rw [Sem.run_bind, hz1, Result.andThen_ok]
    rfl
  rw [run_val, this]
  obtain ⟨g1, g2, g3⟩ := hg.new z.cells t
  refine ⟨_, g1, ⟨g3.mono (by simp), fun c hc => ?_⟩, ?_⟩
  · rcases List.mem_cons.1 hc with h | h
    · exact .inr (Nat.le_of_eq h.symm)
    · exact .inl h
  have e : z.cells.size = i.zero.length := by rw [← hz2]; simp
  rw [hz2, e]
  exact k _ g2
theorem vdp_late {base : Own} (hT : TyOk P T) (hnd : (ids base).Nodup) (hsel : Region.noSelect ops = true) {a d t : Nat} {i0 : TI} {ty : TypeId} {pos : String} {aft : Array Edge} (ht : T t = some i0) (hz : i0.zero ≠ []) (ha : ops[a]? = some ⟨some d, .alloc t, ty, pos, aft, none⟩) (hft : ∀ e ∈ aft, Region.binds .any e = false) :
    ∀ (L : List Nat) (listed : Array Bool) (f : Nat → Value) (own : Own), listed.getD a true = false → VDP P T Γ ops base Q a d t i0.zero L listed f own → AnyV P Γ ops base (Up Q) L.length listed f own
  | [], _, _, _, _, h => h.elim
  | i :: L, listed, f, own, hla, h => by
    have hE := vdp_early hnd hsel ha hft (i :: L) listed f own hla h
    have hsp := Region.noSelect_spec hsel
    have hall : OpV P Γ ops ⟨some d, .alloc t, ty, pos, aft, none⟩ f own (fun v own' => (keepB ⟨some d, .alloc t, ty, pos, aft, none⟩ = true → ∀ p ∈ base, p ∈ own → p ∈ own') ∧ AnyV P Γ ops base (Up Q) L.length (listed.setIfInBounds a true) (upd f d v) own') :=
      alloc_step hT ht hz fun b hb => ⟨fun _ p _ hp => List.mem_cons_of_mem _ hp, hE b _ hb (List.Perm.refl _)⟩
    rcases h with ⟨rfl, hr, k⟩ | ⟨hia, hL, o, ho, hr, h⟩
    · refine ⟨fun h0 => (by rw [h0] at hr; cases hr), fun j hj oj hoj => ?_⟩
      rw [hr] at hj
      obtain rfl : j = i := by simpa using hj
      obtain rfl := Option.some.inj (ha.symm.trans hoj)
      exact hall
    · have hne : i ≠ a := fun e => by rw [e] at hia; simp at hia
      have hla' : (listed.setIfInBounds i true).getD a true = false := by rw [getD_set_ne true hne]; exact hla
      have hri : i ∈ Region.ready .any ops listed := by simpa using hr
      rcases h with ⟨hf, v, hy, hk⟩ | ⟨hf, hkp, hsb, v, hy, hk⟩ | ⟨hra, hap, hk⟩
      · exact anyV_first (qb := []) (.inl rfl) hnd ho hsp _ _ _ _ (fun j oj hj hji hun hno => ⟨Region.free_spec ho hf j oj hj hji hun hno, .inl rfl⟩) hri hy (.inl rfl) (vdp_late hT hnd hsel ht hz ha hft L _ _ _ hla' hk)
      · exact anyV_first (qb := base) (.inr rfl) hnd ho hsp _ _ _ _ (fun j oj hj hji hun hno => ⟨Region.free_spec ho hf j oj hj hji hun hno, .inr (freeK_spec hkp j oj hj hji hun hno)⟩) hri hy (.inr hsb) (vdp_late hT hnd hsel ht hz ha hft L _ _ _ hla' hk)
      · refine ⟨fun h0 => (by rw [h0] at hri; cases hri), fun j hj oj hoj => ?_⟩
        by_cases hja : j = a
        · subst hja
          obtain rfl := Option.some.inj (ha.symm.trans hoj)
          exact hall
        · have hj2 := ready_mono hj hja
          rw [hra] at hj2
          obtain rfl : j = i := by simpa using hj2
          obtain rfl : o = oj := Option.some.inj (ho.symm.trans hoj)
          exact hk.mono fun v own' ⟨k1, k2⟩ => ⟨k1, vdp_late hT hnd hsel ht hz ha hft L _ _ _ hla' k2⟩
theorem vw_drawP {ro : Option Nat} {n : Nat} {id : Nat} {l : List Oper} {Q : Post} (base : Own) (L : List Nat) (a d t : Nat) (z : List Value) {i0 : TI} {ty : TypeId} {pos : String} {aft : Array Edge} (hT : TyOk P T) (ha : l.toArray[a]? = some ⟨some d, .alloc t, ty, pos, aft, none⟩) (ht : T t = some i0) (hz : i0.zero = z) (hz0 : z ≠ [])
    (hft : aft.all (fun e => !Region.binds .any e) = true) (hm : P.follows .mixedOrders = true) (hd : dstOk n l = true) (hsel : Region.noSelect l.toArray = true) (hL : L.length = l.length) (hla : a < l.length) (hb : OLe base own)
    (h : VDP P T Γ l.toArray base (fun f own => Q .normal f own) a d t z L (Array.replicate l.length false) f own) : VWr ro P Γ n (.region id l.toArray true) Q f own := by
  subst hz
  intro ac w hac hg hmk
  have h1 := vdp_late hT (hb.nodup hg.ok.nodup) hsel ht hz0 ha (fun e he => by
    have := Array.all_eq_true'.1 hft e he
    simpa using this) L _ f own (by simp [hla]) h
  refine wpIn_mono (Q := VQ ro Γ n (fun e f own => ∃ own' : Own, own.Perm own' ∧ Q e f own')) (wpIn_region_any hm ?_) ?_
  · have h2 := anyV_sound (ro := ro) (n := n) (Q := fun e f own => ∃ own' : Own, own.Perm own' ∧ Q e f own') (by simpa using hd) _ _ f own h1 ac { w with drawn := w.drawn + 1 } hac hg.drew hmk.drew
    rw [hL] at h2
    simpa using h2
  · rintro e a' w' ⟨f', own', h1, h2, hm', own'', h3, h4⟩
    exact ⟨f', own'', h1, h2.perm h3, hm'.sub (fun b hb => (h3.map Prod.fst).mem_iff.2 hb), h4⟩

def GSpl (b : Bool) (A B : Prop) : Prop := BSplit b A B
variable {base : Own} {L : List Nat} {listed : Array Bool} {i d a dd tt : Nat} {zz : List Value} {op : Op} {ty : TypeId} {pos : String} {aft : Array Edge} {g : Option (Nat × Bool)}
theorem vp_run (ho : ops[i]? = some ⟨some d, op, ty, pos, aft, g⟩) {v : Value} (hg : GOn ops f g) (hia : Nat.beq i a = false) (hL : L.isEmpty = false) (h : ∀ w, (execOp (ev f) ⟨some d, op, ty, pos, aft, g⟩).run P w = .ok (.value v) w) (hr : (Region.ready .any ops listed).contains i = true) (hf : Region.free .any ops listed i = true)
    (k : VDP P T Γ ops base Q a dd tt zz L (listed.setIfInBounds i true) (upd f d v) own) : VDP P T Γ ops base Q a dd tt zz (i :: L) listed f own :=
  .inr ⟨hia, hL, _, ho, hr, .inl ⟨hf, v, qy_of_run hg fun w _ => h w, k⟩⟩
theorem vp_p (hT : TyOk P T) (ho : ops[i]? = some ⟨some d, op, ty, pos, aft, g⟩) {c : Prop} {v : Value} (hg : GOn ops f g) (hia : Nat.beq i a = false) (hL : L.isEmpty = false) (h : aexec T f op = some (c, v)) (hr : (Region.ready .any ops listed).contains i = true) (hf : Region.free .any ops listed i = true) (hc : c)
    (k : VDP P T Γ ops base Q a dd tt zz L (listed.setIfInBounds i true) (upd f d v) own) : VDP P T Γ ops base Q a dd tt zz (i :: L) listed f own :=
  vp_run ho hg hia hL (fun w => aexec_sound hT h hc _ _ _ _ _ w) hr hf k
theorem vp_q (hT : TyOk P T) (ho : ops[i]? = some ⟨some d, op, ty, pos, aft, g⟩) {v : Value} (hg : GOn ops f g) (hia : Nat.beq i a = false) (hL : L.isEmpty = false) (h : aexec T f op = some (True, v)) (hr : (Region.ready .any ops listed).contains i = true) (hf : Region.free .any ops listed i = true)
    (k : VDP P T Γ ops base Q a dd tt zz L (listed.setIfInBounds i true) (upd f d v) own) : VDP P T Γ ops base Q a dd tt zz (i :: L) listed f own := vp_p hT ho hg hia hL h hr hf trivial k
theorem vp_load (hT : TyOk P T) {t : Nat} {x : Operand} {ti : TI} {b o : Nat} {v : Value} (ho : ops[i]? = some ⟨some d, .load t x, ty, pos, aft, g⟩) (hg : GOn ops f g) (hia : Nat.beq i a = false) (hL : L.isEmpty = false) (ht : T t = some ti) (hp : ti.plain = true) (hx : ev f x = .pointer (some ⟨b, o, none⟩))
    (hr : (Region.ready .any ops listed).contains i = true) (hf : Region.free .any ops listed i = true) (hk : freeK ops listed i = true) (hs : Sees Γ base b o v) (hsb : Sub base own)
    (k : VDP P T Γ ops base Q a dd tt zz L (listed.setIfInBounds i true) (upd f d v) own) : VDP P T Γ ops base Q a dd tt zz (i :: L) listed f own :=
  .inr ⟨hia, hL, _, ho, hr, .inr (.inl ⟨hf, hk, hsb, v, qy_of_run hg fun w hgd => by
    show ((Instr.loadAt t (ev f x) >>= fun v => pure (Next.value v)).run P w) = _
    have : (Instr.loadAt t (ev f x)).run P w = .ok v w := by
      rw [hx]
      show (loadVar t ⟨b, o, none⟩).run P w = _
      unfold loadVar
      rw [Sem.run_bind, isAgg_plain hT ht hp, Result.andThen_ok, if_neg (by simp), run_load, hs w hgd]
    rw [run_val, this]; rfl, k⟩)⟩
theorem vp_loadN (hT : TyOk P T) {t : Nat} {x : Operand} {ti : TI} {b o : Nat} (cs : List Value) (ho : ops[i]? = some ⟨some d, .load t x, ty, pos, aft, g⟩) (hg : GOn ops f g) (hia : Nat.beq i a = false) (hL : L.isEmpty = false) (ht : T t = some ti) (hp : ti.isAgg = true) (hx : ev f x = .pointer (some ⟨b, o, none⟩)) (hn : cs.length = ti.size)
    (hr : (Region.ready .any ops listed).contains i = true) (hf : Region.free .any ops listed i = true) (hk : freeK ops listed i = true) (hs : SeesL Γ base b o cs) (hsb : Sub base own)
    (k : VDP P T Γ ops base Q a dd tt zz L (listed.setIfInBounds i true) (upd f d (.agg cs.toArray)) own) : VDP P T Γ ops base Q a dd tt zz (i :: L) listed f own :=
  .inr ⟨hia, hL, _, ho, hr, .inr (.inl ⟨hf, hk, hsb, _, qy_of_run hg fun w hgd => by
    show ((Instr.loadAt t (ev f x) >>= fun v => pure (Next.value v)).run P w) = _
    have : (Instr.loadAt t (ev f x)).run P w = .ok (.agg cs.toArray) w := by
      rw [hx]
      exact run_loadVarN hT cs ht hp hn hs hgd
    rw [run_val, this]; rfl, k⟩)⟩
theorem vp_loadNM (hT : TyOk P T) {t : Nat} {x : Operand} {ti : TI} {b : Nat} {cs : List Value} {e n : Nat} (ho : ops[i]? = some ⟨some d, .load t x, ty, pos, aft, g⟩) (hg : GOn ops f g) (hia : Nat.beq i a = false) (hL : L.isEmpty = false) (ht : T t = some ti) (hp : ti.isAgg = true) (hx : ev f x = .pointer (some ⟨b, 0, none⟩))
    (hm : (b, (⟨cs, e, n, none⟩ : Blk)) ∈ base) (hn : cs.length = ti.size)
    (hr : (Region.ready .any ops listed).contains i = true) (hf : Region.free .any ops listed i = true) (hk : freeK ops listed i = true) (hsb : Sub base own)
    (k : VDP P T Γ ops base Q a dd tt zz L (listed.setIfInBounds i true) (upd f d (.agg cs.toArray)) own) : VDP P T Γ ops base Q a dd tt zz (i :: L) listed f own :=
  vp_loadN hT cs ho hg hia hL ht hp hx hn hr hf hk (fun j v hj => by rw [Nat.zero_add]; exact sees_mem hm hj) hsb k
theorem vp_one {o oa : Oper} (ho : ops[i]? = some o) (hia : Nat.beq i a = false) (hL : L.isEmpty = false) (hr : (Region.ready .any ops listed).contains i = true) (h1 : Region.ready .any ops (listed.setIfInBounds a true) = [i]) (hg : o.guard = none) (hoa : ops[a]? = some oa) (hap : o.apart ops oa = true)
    (h : VOps P Γ ops (fun f' own' => (keepB o = true → ∀ p ∈ base, p ∈ own → p ∈ own') ∧ VDP P T Γ ops base Q a dd tt zz L (listed.setIfInBounds i true) f' own') [o] f own) : VDP P T Γ ops base Q a dd tt zz (i :: L) listed f own := by
  refine .inr ⟨hia, hL, o, ho, hr, .inr (.inr ⟨h1, fun ob hob => by rw [hoa] at hob; cases hob; exact hap, ?_⟩)⟩
  unfold OpV
  simp only [hg]
  simp only [VOps, hg] at h
  exact h
theorem vp_alloc {L : List Nat} (hr : Region.ready .any ops listed = [a]) (k : ∀ b, b ∉ ids own → VD P Γ ops base Q L (listed.setIfInBounds a true) (upd f dd (.pointer (some ⟨b, 0, none⟩))) ((b, ⟨zz, tt, zz.length, none⟩) :: own)) : VDP P T Γ ops base Q a dd tt zz (a :: L) listed f own :=
  .inl ⟨rfl, hr, k⟩
end
end Go.VL
namespace Go.VL
section
variable {P : Program} {T : Nat → Option TI} {Γ : Ctx} {ops : Array Oper} {Q : (Nat → Value) → Own → Prop} {rest : List Oper} {f : Nat → Value} {own : Own}
variable {ty : TypeId} {pos : String} {aft : Array Edge}
theorem vops_buildC (cs : List Value) (hT : TyOk P T) {d t : Nat} {i : TI} (ht : T t = some i) (hz : i.zero = cs) (hb : P.built t [] = some i.zero.toArray)
    (k : VOps P Γ ops Q rest (upd f d (.agg cs.toArray)) own) : VOps P Γ ops Q (⟨some d, .build t #[], ty, pos, aft, none⟩ :: rest) f own := by
  subst hz; exact vops_buildZ hT ht hb k
end
end Go.VL
