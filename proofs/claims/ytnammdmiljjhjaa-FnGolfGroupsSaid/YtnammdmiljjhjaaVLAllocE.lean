import Derived.Test.YtnammdmiljjhjaaVLAlloc
/-! A drawn region with an operation that makes a block and waits for little: it may come at any time. -/
namespace Go.VL
open Go.RowKit
section
variable {P : Program} {Γ : Ctx} {ops : Array Oper} {Q : (Nat → Value) → Own → Prop} {f : Nat → Value} {own : Own}
variable {T : Nat → Option TI}
/-- The waiting operation makes its block. -/
def OkS (P : Program) (Γ : Ctx) (oa : Oper) (t : Nat) (z : List Value) (F : Nat → Value) (f : Nat → Value) : Prop := ∀ (own : Own) (S : Value → Own → Prop), (∀ b, b ∉ ids own → S (F b) ((b, ⟨z, t, z.length, none⟩) :: own)) → Step P Γ oa f own S
theorem not_ready {ops : Array Oper} {listed : Array Bool} {i j : Nat} (h : i ∈ Region.ready .any ops listed) (hj : listed.getD j false = true) : j ≠ i := fun e => by
  subst e
  have h0 := (mem_ready.1 h).1
  by_cases hs : j < listed.size
  · simp [Array.getD, hs] at h0 hj; rw [h0] at hj; cases hj
  · simp [Array.getD, hs] at h0
/-- The allocation a (into d, of the type t) has not come yet. -/
def VEP (P : Program) (T : Nat → Option TI) (Γ : Ctx) (ops : Array Oper) (base : Own) (Q : (Nat → Value) → Own → Prop) (oa : Oper) (a d t : Nat) (z : List Value) (F : Nat → Value) : List Nat → Array Bool → (Nat → Value) → Own → Prop
  | [], _, _, _ => False
  | i :: L, listed, f, own => 
    OkS P Γ oa t z F f ∧ ((i = a ∧ Region.ready .any ops listed = [a] ∧ ∀ b, b ∉ ids own → VD P Γ ops base Q L (listed.setIfInBounds a true) (upd f d (F b)) ((b, ⟨z, t, z.length, none⟩) :: own)) ∨
    (Nat.beq i a = false ∧ L.isEmpty = false ∧ ∃ o, ops[i]? = some o ∧ (Region.ready .any ops listed).contains i = true ∧
    ((Region.free .any ops listed i = true ∧ ∃ v, QY P Γ ops [] o f v ∧ VEP P T Γ ops base Q oa a d t z F L (listed.setIfInBounds i true) (put f o.dst v) own) ∨
     (Region.free .any ops listed i = true ∧ freeK ops listed i = true ∧ Sub base own ∧ ∃ v, QY P Γ ops base o f v ∧ VEP P T Γ ops base Q oa a d t z F L (listed.setIfInBounds i true) (put f o.dst v) own) ∨
     (Region.ready .any ops (listed.setIfInBounds a true) = [i] ∧ (∀ oa, ops[a]? = some oa → o.apart ops oa = true) ∧ OpV P Γ ops o f own (fun v own' => (keepB o = true → ∀ p ∈ base, p ∈ own → p ∈ own') ∧ VEP P T Γ ops base Q oa a d t z F L (listed.setIfInBounds i true) (put f o.dst v) own')))))
theorem vep_early {base : Own} (hnd : (ids base).Nodup) (hsel : Region.noSelect ops = true) {a d t : Nat} {z : List Value} {F : Nat → Value} {op : Op} {ty : TypeId} {pos : String} {aft : Array Edge} (ha : ops[a]? = some ⟨some d, op, ty, pos, aft, none⟩) :
    ∀ (L : List Nat) (listed : Array Bool) (f : Nat → Value) (own : Own), listed.getD a true = false → (∀ e ∈ aft, Region.binds .any e = true → listed.getD e.on false = true) → VEP P T Γ ops base Q ⟨some d, op, ty, pos, aft, none⟩ a d t z F L listed f own →
      ∀ b own', b ∉ ids own → own'.Perm ((b, ⟨z, t, z.length, none⟩) :: own) → AnyV P Γ ops base (Up Q) (L.length - 1) (listed.setIfInBounds a true) (upd f d (F b)) own'
  | [], _, _, _, _, _, h => h.elim
  | i :: L, listed, f, own, hla, hft, h => by
    intro b own' hb hp
    obtain ⟨_, h⟩ := h
    rcases h with ⟨rfl, hr, k⟩ | ⟨hia, hL, o, ho, hr, h⟩
    · have h1 := anyV_of_vd hnd hsel L _ _ _ (k b hb)
      have h2 := anyV_mono (Q' := Up Q) (fun f own h => ⟨own, List.Perm.refl _, h⟩) _ _ _ _ h1
      exact anyV_perm _ _ _ _ _ hp h2
    · have hne : i ≠ a := fun e => by rw [e] at hia; simp at hia
      have hsp := Region.noSelect_spec hsel
      have hlen : (i :: L).length - 1 = (L.length - 1) + 1 := by
        cases L with
        | nil => cases hL
        | cons _ _ => simp
      have hla' : (listed.setIfInBounds i true).getD a true = false := by rw [getD_set_ne true hne]; exact hla
      have hri : i ∈ Region.ready .any ops (listed.setIfInBounds a true) := ready_mono (by simpa using hr) hne
      have hbt : (b, (⟨z, t, z.length, none⟩ : Blk)) ∈ own' := hp.mem_iff.2 List.mem_cons_self
      have hun : ∀ j, (listed.setIfInBounds a true).getD j true = false → listed.getD j true = false := fun j hj => by
        by_cases haj : a = j
        · rw [← haj]; exact hla
        · rwa [getD_set_ne true haj] at hj
      have _ := hbt
      rw [hlen]
      rcases h with ⟨hf, v, hy, hk⟩ | ⟨hf, hkp, hsb, v, hy, hk⟩ | ⟨hra, hap, hk⟩
      · have hpa := fun hno => Region.free_spec ho hf a _ ha (Ne.symm hne) hla hno
        obtain ⟨a1, a2, a3⟩ := Oper.apart_spec (hpa fun e he hbd => not_ready (by simpa using hr) (hft e he hbd))
        have hI := vep_early hnd hsel ha L _ _ _ hla' (fun e he hbd => getD_set_true (hft e he hbd)) hk b own' hb hp
        refine anyV_first (qb := []) (.inl rfl) hnd ho hsp _ _ _ _ (fun j oj hj hji hun' hno => ⟨Region.free_spec ho hf j oj hj hji (hun j hun') hno, .inl rfl⟩) hri (QY.put (hsp i o · · ho) (d := some d) a3 hy) (.inl rfl) ?_
        rw [set_comm] at hI
        rw [show upd (put f o.dst v) d (F b) = put (upd f d (F b)) o.dst v from (put_comm (f := f) (d := o.dst) (e := some d) v (F b) a2)] at hI
        exact hI
      · have hpa := fun hno => Region.free_spec ho hf a _ ha (Ne.symm hne) hla hno
        obtain ⟨a1, a2, a3⟩ := Oper.apart_spec (hpa fun e he hbd => not_ready (by simpa using hr) (hft e he hbd))
        have hI := vep_early hnd hsel ha L _ _ _ hla' (fun e he hbd => getD_set_true (hft e he hbd)) hk b own' hb hp
        have hsb' : Sub base own' := fun p hpb => hp.mem_iff.2 (List.mem_cons_of_mem _ (hsb p hpb))
        refine anyV_first (qb := base) (.inr rfl) hnd ho hsp _ _ _ _ (fun j oj hj hji hun' hno => ⟨Region.free_spec ho hf j oj hj hji (hun j hun') hno, .inr (freeK_spec hkp j oj hj hji (hun j hun') hno)⟩) hri (QY.put (hsp i o · · ho) (d := some d) a3 hy) (.inr hsb') ?_
        rw [set_comm] at hI
        rw [show upd (put f o.dst v) d (F b) = put (upd f d (F b)) o.dst v from (put_comm (f := f) (d := o.dst) (e := some d) v (F b) a2)] at hI
        exact hI
      · obtain ⟨a1, a2, a3⟩ := Oper.apart_spec (hap _ ha)
        refine ⟨fun h0 => (by rw [h0] at hra; cases hra), fun j hj oj hoj => ?_⟩
        rw [hra] at hj
        obtain rfl : j = i := by simpa using hj
        obtain rfl : o = oj := Option.some.inj (ho.symm.trans hoj)
        have h1 := OpV.put' (hsp j o · · ho) (d := some d) (v := F b) a3 hk
        have h2 := OpV.perm hp (h1.frame (x := (b, ⟨z, t, z.length, none⟩)) hb)
        refine h2.mono fun v o' hh => ?_
        have fin : ∀ own1 : Own, o'.Perm ((b, ⟨z, t, z.length, none⟩) :: own1) → b ∉ ids own1 → VEP P T Γ ops base Q ⟨some d, op, ty, pos, aft, none⟩ a d t z F L (listed.setIfInBounds j true) (put f o.dst v) own1 →
            AnyV P Γ ops base (Up Q) (L.length - 1) ((listed.setIfInBounds a true).setIfInBounds j true) (put (upd f d (F b)) o.dst v) o' := fun own1 hp1 hb1 hv1 => by
          have hI := vep_early hnd hsel ha L _ _ _ hla' (fun e he hbd => getD_set_true (hft e he hbd)) hv1 b o' hb1 hp1
          rw [set_comm] at hI
          rw [show upd (put f o.dst v) d (F b) = put (upd f d (F b)) o.dst v from (put_comm (f := f) (d := o.dst) (e := some d) v (F b) a2)] at hI
          exact hI
        rcases hh with ⟨own1, rfl, hb1, k1, k2⟩ | ⟨rfl, own1, he, hb1, k1, k2⟩
        · exact ⟨fun hkb p hpb hpo => by
            rcases List.mem_cons.1 (hp.mem_iff.1 hpo) with h | h
            · rw [h]; exact List.mem_cons_self
            · exact List.mem_cons_of_mem _ (k1 hkb p hpb h), fin own1 (List.Perm.refl _) hb1 k2⟩
        · exact ⟨fun _ p _ hpo => hpo, fin own1 (by rw [← he]; exact hp) hb1 k2⟩
theorem vep_late {base : Own} (hnd : (ids base).Nodup) (hsel : Region.noSelect ops = true) {a d t : Nat} {z : List Value} {F : Nat → Value} {op : Op} {ty : TypeId} {pos : String} {aft : Array Edge} (ha : ops[a]? = some ⟨some d, op, ty, pos, aft, none⟩) :
    ∀ (L : List Nat) (listed : Array Bool) (f : Nat → Value) (own : Own), listed.getD a true = false → (∀ e ∈ aft, Region.binds .any e = true → listed.getD e.on false = true) → VEP P T Γ ops base Q ⟨some d, op, ty, pos, aft, none⟩ a d t z F L listed f own → AnyV P Γ ops base (Up Q) L.length listed f own
  | [], _, _, _, _, _, h => h.elim
  | i :: L, listed, f, own, hla, hft, h => by
    have hE := vep_early hnd hsel ha (i :: L) listed f own hla hft h
    have hsp := Region.noSelect_spec hsel
    obtain ⟨hok, h⟩ := h
    have hall : OpV P Γ ops ⟨some d, op, ty, pos, aft, none⟩ f own (fun v own' => (keepB ⟨some d, op, ty, pos, aft, none⟩ = true → ∀ p ∈ base, p ∈ own → p ∈ own') ∧ AnyV P Γ ops base (Up Q) L.length (listed.setIfInBounds a true) (upd f d v) own') :=
      hok _ _ fun b hb => ⟨fun _ p _ hp => List.mem_cons_of_mem _ hp, hE b _ hb (List.Perm.refl _)⟩
    rcases h with ⟨rfl, hr, k⟩ | ⟨hia, hL, o, ho, hr, h⟩
    · refine ⟨fun h0 => (by rw [h0] at hr; cases hr), fun j hj oj hoj => ?_⟩
      rw [hr] at hj
      obtain rfl : j = i := by simpa using hj
      obtain rfl := Option.some.inj (ha.symm.trans hoj)
      exact hall
    · have hne : i ≠ a := fun e => by rw [e] at hia; simp at hia
      have hla' : (listed.setIfInBounds i true).getD a true = false := by rw [getD_set_ne true hne]; exact hla
      have hri : i ∈ Region.ready .any ops listed := by simpa using hr
      rcases h with ⟨hf, v, hy, hk⟩ | ⟨hf, hkp, hsb, v, hy, hk⟩ | ⟨hra, hap, hk⟩
      · exact anyV_first (qb := []) (.inl rfl) hnd ho hsp _ _ _ _ (fun j oj hj hji hun hno => ⟨Region.free_spec ho hf j oj hj hji hun hno, .inl rfl⟩) hri hy (.inl rfl) (vep_late hnd hsel ha L _ _ _ hla' (fun e he hbd => getD_set_true (hft e he hbd)) hk)
      · exact anyV_first (qb := base) (.inr rfl) hnd ho hsp _ _ _ _ (fun j oj hj hji hun hno => ⟨Region.free_spec ho hf j oj hj hji hun hno, .inr (freeK_spec hkp j oj hj hji hun hno)⟩) hri hy (.inr hsb) (vep_late hnd hsel ha L _ _ _ hla' (fun e he hbd => getD_set_true (hft e he hbd)) hk)
      · refine ⟨fun h0 => (by rw [h0] at hri; cases hri), fun j hj oj hoj => ?_⟩
        by_cases hja : j = a
        · subst hja
          obtain rfl := Option.some.inj (ha.symm.trans hoj)
          exact hall
        · have hj2 := ready_mono hj hja
          rw [hra] at hj2
          obtain rfl : j = i := by simpa using hj2
          obtain rfl : o = oj := Option.some.inj (ho.symm.trans hoj)
          exact hk.mono fun v own' ⟨k1, k2⟩ => ⟨k1, vep_late hnd hsel ha L _ _ _ hla' (fun e he hbd => getD_set_true (hft e he hbd)) k2⟩

variable {ow : Oper} {base : Own} {L : List Nat} {listed : Array Bool} {i d a dd tt : Nat} {zz : List Value} {FF : Nat → Value} {op : Op} {ty : TypeId} {pos : String} {aft : Array Edge} {g : Option (Nat × Bool)}
theorem ve_run (hok : OkS P Γ ow tt zz FF f) (ho : ops[i]? = some ⟨some d, op, ty, pos, aft, g⟩) {v : Value} (hg : GOn ops f g) (hia : Nat.beq i a = false) (hL : L.isEmpty = false) (h : ∀ w, (execOp (ev f) ⟨some d, op, ty, pos, aft, g⟩).run P w = .ok (.value v) w) (hr : (Region.ready .any ops listed).contains i = true) (hf : Region.free .any ops listed i = true)
    (k : VEP P T Γ ops base Q ow a dd tt zz FF L (listed.setIfInBounds i true) (upd f d v) own) : VEP P T Γ ops base Q ow a dd tt zz FF (i :: L) listed f own :=
  And.intro hok <| .inr ⟨hia, hL, _, ho, hr, .inl ⟨hf, v, qy_of_run hg fun w _ => h w, k⟩⟩
theorem ve_p (hok : OkS P Γ ow tt zz FF f) (hT : TyOk P T) (ho : ops[i]? = some ⟨some d, op, ty, pos, aft, g⟩) {c : Prop} {v : Value} (hg : GOn ops f g) (hia : Nat.beq i a = false) (hL : L.isEmpty = false) (h : aexec T f op = some (c, v)) (hr : (Region.ready .any ops listed).contains i = true) (hf : Region.free .any ops listed i = true) (hc : c)
    (k : VEP P T Γ ops base Q ow a dd tt zz FF L (listed.setIfInBounds i true) (upd f d v) own) : VEP P T Γ ops base Q ow a dd tt zz FF (i :: L) listed f own :=
  ve_run hok ho hg hia hL (fun w => aexec_sound hT h hc _ _ _ _ _ w) hr hf k
theorem ve_q (hok : OkS P Γ ow tt zz FF f) (hT : TyOk P T) (ho : ops[i]? = some ⟨some d, op, ty, pos, aft, g⟩) {v : Value} (hg : GOn ops f g) (hia : Nat.beq i a = false) (hL : L.isEmpty = false) (h : aexec T f op = some (True, v)) (hr : (Region.ready .any ops listed).contains i = true) (hf : Region.free .any ops listed i = true)
    (k : VEP P T Γ ops base Q ow a dd tt zz FF L (listed.setIfInBounds i true) (upd f d v) own) : VEP P T Γ ops base Q ow a dd tt zz FF (i :: L) listed f own := ve_p hok hT ho hg hia hL h hr hf trivial k
theorem ve_skip (hok : OkS P Γ ow tt zz FF f) {j : Nat} {want : Bool} {b : Option Bool} (ho : ops[i]? = some ⟨some d, op, ty, pos, aft, some (j, want)⟩) (hg : gval ops f j = b) (hb : b ≠ some want) (hia : Nat.beq i a = false) (hL : L.isEmpty = false) (hr : (Region.ready .any ops listed).contains i = true) (hf : Region.free .any ops listed i = true)
    (k : VEP P T Γ ops base Q ow a dd tt zz FF L (listed.setIfInBounds i true) (upd f d undef) own) : VEP P T Γ ops base Q ow a dd tt zz FF (i :: L) listed f own :=
  And.intro hok <| .inr ⟨hia, hL, _, ho, hr, .inl ⟨hf, undef, .inr ⟨by rw [hg]; exact hb, rfl⟩, k⟩⟩
theorem ve_skipT (hok : OkS P Γ ow tt zz FF f) {j : Nat} (ho : ops[i]? = some ⟨some d, op, ty, pos, aft, some (j, false)⟩) (hg : gval ops f j = some true) (hia : Nat.beq i a = false) (hL : L.isEmpty = false) (hr : (Region.ready .any ops listed).contains i = true) (hf : Region.free .any ops listed i = true)
    (k : VEP P T Γ ops base Q ow a dd tt zz FF L (listed.setIfInBounds i true) (upd f d undef) own) : VEP P T Γ ops base Q ow a dd tt zz FF (i :: L) listed f own := ve_skip hok ho hg (by simp) hia hL hr hf k
theorem ve_skipF (hok : OkS P Γ ow tt zz FF f) {j : Nat} (ho : ops[i]? = some ⟨some d, op, ty, pos, aft, some (j, true)⟩) (hg : gval ops f j = some false) (hia : Nat.beq i a = false) (hL : L.isEmpty = false) (hr : (Region.ready .any ops listed).contains i = true) (hf : Region.free .any ops listed i = true)
    (k : VEP P T Γ ops base Q ow a dd tt zz FF L (listed.setIfInBounds i true) (upd f d undef) own) : VEP P T Γ ops base Q ow a dd tt zz FF (i :: L) listed f own := ve_skip hok ho hg (by simp) hia hL hr hf k
theorem ve_skipU (hok : OkS P Γ ow tt zz FF f) {j : Nat} {want : Bool} (ho : ops[i]? = some ⟨some d, op, ty, pos, aft, some (j, want)⟩) (hg : gval ops f j = none) (hia : Nat.beq i a = false) (hL : L.isEmpty = false) (hr : (Region.ready .any ops listed).contains i = true) (hf : Region.free .any ops listed i = true)
    (k : VEP P T Γ ops base Q ow a dd tt zz FF L (listed.setIfInBounds i true) (upd f d undef) own) : VEP P T Γ ops base Q ow a dd tt zz FF (i :: L) listed f own := ve_skip hok ho hg (by simp) hia hL hr hf k
theorem ve_load (hok : OkS P Γ ow tt zz FF f) (hT : TyOk P T) {t : Nat} {x : Operand} {ti : TI} {b o : Nat} {v : Value} (ho : ops[i]? = some ⟨some d, .load t x, ty, pos, aft, g⟩) (hg : GOn ops f g) (hia : Nat.beq i a = false) (hL : L.isEmpty = false) (ht : T t = some ti) (hp : ti.plain = true) (hx : ev f x = .pointer (some ⟨b, o, none⟩))
    (hr : (Region.ready .any ops listed).contains i = true) (hf : Region.free .any ops listed i = true) (hk : freeK ops listed i = true) (hs : Sees Γ base b o v) (hsb : Sub base own)
    (k : VEP P T Γ ops base Q ow a dd tt zz FF L (listed.setIfInBounds i true) (upd f d v) own) : VEP P T Γ ops base Q ow a dd tt zz FF (i :: L) listed f own :=
  And.intro hok <| .inr ⟨hia, hL, _, ho, hr, .inr (.inl ⟨hf, hk, hsb, v, qy_of_run hg fun w hgd => by
    show ((Instr.loadAt t (ev f x) >>= fun v => pure (Next.value v)).run P w) = _
    have : (Instr.loadAt t (ev f x)).run P w = .ok v w := by
      rw [hx]
      show (loadVar t ⟨b, o, none⟩).run P w = _
      unfold loadVar
      rw [Sem.run_bind, isAgg_plain hT ht hp, Result.andThen_ok, if_neg (by simp), run_load, hs w hgd]
    rw [run_val, this]; rfl, k⟩)⟩
theorem ve_loadN (hok : OkS P Γ ow tt zz FF f) (hT : TyOk P T) {t : Nat} {x : Operand} {ti : TI} {b o : Nat} (cs : List Value) (ho : ops[i]? = some ⟨some d, .load t x, ty, pos, aft, g⟩) (hg : GOn ops f g) (hia : Nat.beq i a = false) (hL : L.isEmpty = false) (ht : T t = some ti) (hp : ti.isAgg = true) (hx : ev f x = .pointer (some ⟨b, o, none⟩)) (hn : cs.length = ti.size)
    (hr : (Region.ready .any ops listed).contains i = true) (hf : Region.free .any ops listed i = true) (hk : freeK ops listed i = true) (hs : SeesL Γ base b o cs) (hsb : Sub base own)
    (k : VEP P T Γ ops base Q ow a dd tt zz FF L (listed.setIfInBounds i true) (upd f d (.agg cs.toArray)) own) : VEP P T Γ ops base Q ow a dd tt zz FF (i :: L) listed f own :=
  And.intro hok <| .inr ⟨hia, hL, _, ho, hr, .inr (.inl ⟨hf, hk, hsb, _, qy_of_run hg fun w hgd => by
    show ((Instr.loadAt t (ev f x) >>= fun v => pure (Next.value v)).run P w) = _
    have : (Instr.loadAt t (ev f x)).run P w = .ok (.agg cs.toArray) w := by
      rw [hx]
      exact run_loadVarN hT cs ht hp hn hs hgd
    rw [run_val, this]; rfl, k⟩)⟩
theorem ve_loadNM (hok : OkS P Γ ow tt zz FF f) (hT : TyOk P T) {t : Nat} {x : Operand} {ti : TI} {b : Nat} {cs : List Value} {e n : Nat} (ho : ops[i]? = some ⟨some d, .load t x, ty, pos, aft, g⟩) (hg : GOn ops f g) (hia : Nat.beq i a = false) (hL : L.isEmpty = false) (ht : T t = some ti) (hp : ti.isAgg = true) (hx : ev f x = .pointer (some ⟨b, 0, none⟩))
    (hm : (b, (⟨cs, e, n, none⟩ : Blk)) ∈ base) (hn : cs.length = ti.size)
    (hr : (Region.ready .any ops listed).contains i = true) (hf : Region.free .any ops listed i = true) (hk : freeK ops listed i = true) (hsb : Sub base own)
    (k : VEP P T Γ ops base Q ow a dd tt zz FF L (listed.setIfInBounds i true) (upd f d (.agg cs.toArray)) own) : VEP P T Γ ops base Q ow a dd tt zz FF (i :: L) listed f own :=
  ve_loadN hok hT cs ho hg hia hL ht hp hx hn hr hf hk (fun j v hj => by rw [Nat.zero_add]; exact sees_mem hm hj) hsb k
theorem ve_build2 (hok : OkS P Γ ow tt zz FF f) {t : Nat} {x y : Operand} {v0 v1 : Value} (ho : ops[i]? = some ⟨some d, .build t #[(0, x), (1, y)], ty, pos, aft, g⟩) (hg : GOn ops f g) (hia : Nat.beq i a = false) (hL : L.isEmpty = false) (h0 : force (ev f x) = some v0) (h1 : force (ev f y) = some v1) (hb : P.built t [(0, v0), (1, v1)] = some #[v0, v1])
    (hr : (Region.ready .any ops listed).contains i = true) (hf : Region.free .any ops listed i = true) (k : VEP P T Γ ops base Q ow a dd tt zz FF L (listed.setIfInBounds i true) (upd f d (.agg #[v0, v1])) own) : VEP P T Γ ops base Q ow a dd tt zz FF (i :: L) listed f own :=
  ve_run hok ho hg hia hL (x_build2 h0 h1 hb) hr hf k
theorem ve_one (hok : OkS P Γ ow tt zz FF f) {o oa : Oper} (ho : ops[i]? = some o) (hia : Nat.beq i a = false) (hL : L.isEmpty = false) (hr : (Region.ready .any ops listed).contains i = true) (h1 : Region.ready .any ops (listed.setIfInBounds a true) = [i]) (hg : o.guard = none) (hoa : ops[a]? = some oa) (hap : o.apart ops oa = true)
    (h : VOps P Γ ops (fun f' own' => (keepB o = true → ∀ p ∈ base, p ∈ own → p ∈ own') ∧ VEP P T Γ ops base Q ow a dd tt zz FF L (listed.setIfInBounds i true) f' own') [o] f own) : VEP P T Γ ops base Q ow a dd tt zz FF (i :: L) listed f own := by
  refine And.intro hok <| .inr ⟨hia, hL, o, ho, hr, .inr (.inr ⟨h1, fun ob hob => by rw [hoa] at hob; cases hob; exact hap, ?_⟩)⟩
  unfold OpV
  simp only [hg]
  simp only [VOps, hg] at h
  exact h
theorem ve_alloc (hok : OkS P Γ ow tt zz FF f) {L : List Nat} (hr : Region.ready .any ops listed = [a]) (k : ∀ b, b ∉ ids own → VD P Γ ops base Q L (listed.setIfInBounds a true) (upd f dd (FF b)) ((b, ⟨zz, tt, zz.length, none⟩) :: own)) : VEP P T Γ ops base Q ow a dd tt zz FF (a :: L) listed f own :=
  And.intro hok <| .inl ⟨rfl, hr, k⟩
theorem ok_build0 (hT : TyOk P T) {d t e a b : Nat} {z : List Value} {ei : TI} {ty : TypeId} {pos : String} {aft : Array Edge} (ht : T t = some ⟨.slice e, a, b, z⟩) (he : T e = some ei) (f : Nat → Value) : OkS P Γ ⟨some d, .buildSlice t 0 #[], ty, pos, aft, none⟩ e [] (fun b => .slice (some ⟨b, 0, none⟩) 0 0) f := fun own S k => by
  have h : VOps P Γ #[] (fun f own => S (f d) own) [⟨some d, .buildSlice t 0 #[], ty, pos, aft, none⟩] f own := vops_build0 hT ht he fun b hb => by
    show S (upd f d _ d) _
    rw [show upd f d (.slice (some ⟨b, 0, none⟩) 0 0) d = .slice (some ⟨b, 0, none⟩) 0 0 by simp [upd]]
    exact k b hb
  simp only [VOps, put] at h
  refine Step.mono h fun v o hh => ?_
  simpa [upd] using hh
theorem ok_bools (hT : TyOk P T) {d t e a b : Nat} {z : List Value} {x y : Operand} {ei : TI} {kl kc : IntKind} {c : Int} {n : Nat} {ty : TypeId} {pos : String} {aft : Array Edge} (ht : T t = some ⟨.slice e, a, b, z⟩) (he : T e = some ei) (hz : ei.zero = [.bool false]) (hs : ei.size = 1) {f : Nat → Value}
    (hx : ev f x = .int kl c) (hy : ev f y = .int kc c) (hc : c = n) (hb : ei.bytes ≤ 1000) (hn : n ≤ 1073741824) : OkS P Γ ⟨some d, .makeSlice t x y, ty, pos, aft, none⟩ e (bools (List.replicate n false)) (fun b => .slice (some ⟨b, 0, none⟩) n n) f := fun own S k => by
  have h : VOps P Γ #[] (fun f own => S (f d) own) [⟨some d, .makeSlice t x y, ty, pos, aft, none⟩] f own := vops_makeBools hT ht he hz hs hx hy hc hb hn fun b hb => by
    show S (upd f d _ d) _
    rw [show upd f d (.slice (some ⟨b, 0, none⟩) n n) d = .slice (some ⟨b, 0, none⟩) n n by simp [upd]]
    have := k b hb
    rw [show (bools (List.replicate n false)).length = n by simp [bools]] at this
    exact this
  simp only [VOps, put] at h
  refine Step.mono h fun v o hh => ?_
  simpa [upd] using hh
/-- A drawn region: first the operations of L0, each of them free; then L, where the operation a waits. -/
def VPre (P : Program) (Γ : Ctx) (ops : Array Oper) (K : Array Bool → (Nat → Value) → Own → Prop) : List Nat → Array Bool → (Nat → Value) → Own → Prop
  | [], listed, f, own => K listed f own
  | i :: L, listed, f, own => ∃ o, ops[i]? = some o ∧ (Region.ready .any ops listed).contains i = true ∧ Region.free .any ops listed i = true ∧ ∃ v, QY P Γ ops [] o f v ∧ VPre P Γ ops K L (listed.setIfInBounds i true) (put f o.dst v) own
theorem anyV_of_pre {base : Own} (hnd : (ids base).Nodup) (hsel : Region.noSelect ops = true) {m : Nat} {K : Array Bool → (Nat → Value) → Own → Prop} (hK : ∀ listed f own, K listed f own → AnyV P Γ ops base Q m listed f own) :
    ∀ (L0 : List Nat) (listed : Array Bool) (f : Nat → Value) (own : Own), VPre P Γ ops K L0 listed f own → AnyV P Γ ops base Q (L0.length + m) listed f own
  | [], _, _, _, h => by simpa using hK _ _ _ h
  | i :: L, listed, f, own, h => by
    obtain ⟨o, ho, hr, hf, v, hy, hk⟩ := h
    have hsp := Region.noSelect_spec hsel
    have := anyV_of_pre hnd hsel hK L _ _ _ hk
    rw [show (i :: L).length + m = (L.length + m) + 1 by simp; omega]
    exact anyV_first (qb := []) (.inl rfl) hnd ho hsp _ _ _ _ (fun j oj hj hji hun hno => ⟨Region.free_spec ho hf j oj hj hji hun hno, .inl rfl⟩) (by simpa using hr) hy (.inl rfl) this
theorem vw_drawE {ro : Option Nat} {n : Nat} {id : Nat} {l : List Oper} {Q : Post} (base : Own) (L0 L : List Nat) (a d t : Nat) (z : List Value) (F : Nat → Value) {op : Op} {ty : TypeId} {pos : String} {aft : Array Edge} (ha : l.toArray[a]? = some ⟨some d, op, ty, pos, aft, none⟩)
    (hm : P.follows .mixedOrders = true) (hd : dstOk n l = true) (hsel : Region.noSelect l.toArray = true) (hL : L0.length + L.length = l.length) (hb : OLe base own)
    (h : VPre P Γ l.toArray (fun listed f own => listed.getD a true = false ∧ (aft.all fun e => !Region.binds .any e || listed.getD e.on false) = true ∧ VEP P T Γ l.toArray base (fun f own => Q .normal f own) ⟨some d, op, ty, pos, aft, none⟩ a d t z F L listed f own) L0 (Array.replicate l.length false) f own) : VWr ro P Γ n (.region id l.toArray true) Q f own := by
  intro ac w hac hg hmk
  have h1 := anyV_of_pre (Q := Up fun f own => Q .normal f own) (hb.nodup hg.ok.nodup) hsel (m := L.length) (fun listed f own hh => vep_late (T := T) (hb.nodup hg.ok.nodup) hsel ha L _ _ _ hh.1 (fun e he hbd => by
    have := Array.all_eq_true'.1 hh.2.1 e he
    rw [hbd] at this
    simpa using this) hh.2.2) L0 _ f own h
  refine wpIn_mono (Q := VQ ro Γ n (fun e f own => ∃ own' : Own, own.Perm own' ∧ Q e f own')) (wpIn_region_any hm ?_) ?_
  · have h2 := anyV_sound (ro := ro) (n := n) (Q := fun e f own => ∃ own' : Own, own.Perm own' ∧ Q e f own') (by simpa using hd) _ _ f own h1 ac { w with drawn := w.drawn + 1 } hac hg.drew hmk.drew
    rw [hL] at h2
    simpa using h2
  · rintro e a' w' ⟨f', own', h1, h2, hm', own'', h3, h4⟩
    exact ⟨f', own'', h1, h2.perm h3, hm'.sub (fun b hb => (h3.map Prod.fst).mem_iff.2 hb), h4⟩
theorem vpre_q (hT : TyOk P T) {K : Array Bool → (Nat → Value) → Own → Prop} {i d : Nat} {op : Op} {ty : TypeId} {pos : String} {aft : Array Edge} {g : Option (Nat × Bool)} {L : List Nat} {listed : Array Bool} (ho : ops[i]? = some ⟨some d, op, ty, pos, aft, g⟩) {v : Value} (hg : GOn ops f g) (h : aexec T f op = some (True, v)) (hr : (Region.ready .any ops listed).contains i = true) (hf : Region.free .any ops listed i = true)
    (k : VPre P Γ ops K L (listed.setIfInBounds i true) (upd f d v) own) : VPre P Γ ops K (i :: L) listed f own :=
  ⟨_, ho, hr, hf, v, qy_of_run hg fun w _ => aexec_sound hT h trivial _ _ _ _ _ w, k⟩
theorem vpre_p (hT : TyOk P T) {K : Array Bool → (Nat → Value) → Own → Prop} {i d : Nat} {op : Op} {ty : TypeId} {pos : String} {aft : Array Edge} {g : Option (Nat × Bool)} {L : List Nat} {listed : Array Bool} (ho : ops[i]? = some ⟨some d, op, ty, pos, aft, g⟩) {c : Prop} {v : Value} (hg : GOn ops f g) (h : aexec T f op = some (c, v)) (hr : (Region.ready .any ops listed).contains i = true) (hf : Region.free .any ops listed i = true) (hc : c)
    (k : VPre P Γ ops K L (listed.setIfInBounds i true) (upd f d v) own) : VPre P Γ ops K (i :: L) listed f own :=
  ⟨_, ho, hr, hf, v, qy_of_run hg fun w _ => aexec_sound hT h hc _ _ _ _ _ w, k⟩
end
end Go.VL
