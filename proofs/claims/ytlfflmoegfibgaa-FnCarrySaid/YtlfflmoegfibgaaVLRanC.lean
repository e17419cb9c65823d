import Derived.Test.YtlfflmoegfibgaaVLRanG
/-! Ranges over functions that yield what is known by what memory holds at the yield alone. -/
namespace Go.VL
open Go.RowKit
/-- yield l, called where own is owned with values of which K holds: it hands back true and leaves J, or false and leaves Jx. -/
def YieldsC (P : Program) (Γ : Ctx) (l : Nat) (K : World → List Value → List Nat → Prop) (own : Own) (J Jx : Own → Prop) : Prop :=
  ∀ x w, Good Γ own w → K w x (ids own) → RunsTo P ((Instr.yield l x.toArray).run P w) (fun v w' => ∃ own', Good Γ own' w' ∧ (Fr (ids own) w w' ∧ ∀ b ∈ ids own', b ∈ ids own ∨ w.heap.size ≤ b) ∧ ((v = .bool true ∧ J own') ∨ (v = .bool false ∧ Jx own')))
theorem YieldsC.le {P : Program} {Γ : Ctx} {l : Nat} {K : World → List Value → List Nat → Prop} (hK : ∀ w x W W', (∀ b ∈ W', b ∈ W) → K w x W → K w x W') {a b : Own} {J J' Jx Jx' : Own → Prop} (hp : OLe a b) (h : YieldsC P Γ l K a J Jx) (hJ : ∀ o, J o → J' o) (hJx : ∀ o, Jx o → Jx' o) : YieldsC P Γ l K b J' Jx' := fun x w hg hk => by
  have hin : ∀ c ∈ ids a, c ∈ ids b := fun c hc => by obtain ⟨k, hk⟩ := mem_ids hc; exact ids_mem (hp.mem hk)
  refine (h x w (hg.le hp) (hK w x _ _ hin hk)).mono ?_
  rintro v w' ⟨own', h1, ⟨h2, h3⟩, h4⟩
  exact ⟨own', h1, ⟨h2.mono hin, fun c hc => (h3 c hc).imp (hin c) id⟩, h4.imp (fun h => ⟨h.1, hJ _ h.2⟩) (fun h => ⟨h.1, hJx _ h.2⟩)⟩
/-- What such an iterator does: it yields m times. -/
def IterC (P : Program) (gf : Nat) (lb : List Value) (m : Nat) (K : Nat → World → List Value → List Nat → Prop) (cap : Own) (R : World → Own → Prop) : Prop :=
  ∀ (Γ : Ctx) (l : Nat) (J : Nat → Own → Prop) (Jx : Own → Prop) (own0 : Own) (w : World),
    Good Γ own0 w → OwnOk cap w → (∀ b ∈ ids cap, b ∉ ids own0) → R w own0 → J 0 own0 →
    (∀ i, i < m → ∀ own, J i own → YieldsC P Γ l (K i) own (J (i + 1)) Jx) →
    Calls P gf (.func (.yield l) #[] #[] :: lb).toArray w (ResM w own0 (fun _ new => J m new ∨ Jx new))
section
variable {P : Program} {Γ : Ctx} {ops : Array Oper} {Q : (Nat → Value) → Own → Prop} {rest : List Oper} {f : Nat → Value} {own : Own}
variable {ty : TypeId} {pos : String} {aft : Array Edge}
/-- A call of yield, in an iterator that was called where own0 was owned. -/
theorem vops_yieldC {Γc : Ctx} {own0 : Own} {w0 : World} (hc : Good Γc own0 w0) {d l : Nat} {x : Operand} {as : List Operand} {atys : Array TypeId} {xs : List Value} {K : World → List Value → List Nat → Prop} {ownJ ex : Own} {J Jx : Own → Prop}
    (hx : ev f x = .func (.yield l) #[] #[]) (ha : as.map (ev f) = xs) (hp : own.Perm (ownJ ++ ex)) (hy : YieldsC P Γc l K ownJ J Jx) (hK : ∀ w, Good ⟨w0, ids own0⟩ (ownJ ++ ex) w → K w xs (ids ownJ))
    (k1 : ∀ own', J own' → (ids (own' ++ ex)).Nodup → VOps P ⟨w0, ids own0⟩ ops Q rest (upd f d (.bool true)) (own' ++ ex))
    (k2 : ∀ own', Jx own' → (ids (own' ++ ex)).Nodup → VOps P ⟨w0, ids own0⟩ ops Q rest (upd f d (.bool false)) (own' ++ ex)) :
    VOps P ⟨w0, ids own0⟩ ops Q (⟨some d, .call ⟨.value x, as.toArray, atys⟩, ty, pos, aft, none⟩ :: rest) f own :=
  vops_go fun w hg => by
    have hg' := hg.perm hp
    rw [run_callY hx _ _ _ _ _ _ _ _ ha]
    refine (hy xs w (hc.onto hg'.left) (hK w hg')).mono ?_
    rintro v w' ⟨own', h1, ⟨h2, h3⟩, h4⟩
    have hin : ∀ b ∈ ids ownJ ++ ids ex, b ∈ ids own := fun b hb => (hp.map Prod.fst).mem_iff.2 (by rw [List.map_append]; exact hb)
    have hgN := hg'.joinM h2 h1.ok h3
    refine ⟨own' ++ ex, hgN, ⟨h2.mono fun b hb => hin b (List.mem_append_left _ hb), fun b hb => ?_⟩, ?_⟩
    · rw [ids_app] at hb
      rcases List.mem_append.1 hb with h | h
      · rcases h3 b h with h | h
        · exact .inl (hin b (List.mem_append_left _ h))
        · exact .inr h
      · exact .inl (hin b (List.mem_append_right _ h))
    · rcases h4 with ⟨rfl, h⟩ | ⟨rfl, h⟩
      · exact k1 own' h hgN.ok.nodup
      · exact k2 own' h hgN.ok.nodup
end
section
variable {P : Program} {Γ : Ctx} {n : Nat} {f : Nat → Value} {own : Own}
/-- One round of a loop whose record is rec. -/
theorem yieldsC_of_round {l : Nat} {rc : LoopState → Option Code → Loop} {ts : List Nat} {assign body : Code} {fn : FuncId} {tm : Array Value} {ds : List Deferred} {D : Nat}
    (hrc : rc = fun st pe => { state := st, pending := pe, fn, tmps := tm, params := ts.toArray, assign, body, defers := D }) (hfr : FR n f ⟨tm, ds⟩) (hts : ∀ t ∈ ts, t < n) (hl : Γ.w0.heap.size ≤ l)
    {K : World → List Value → List Nat → Prop} (hK : ∀ w x W, K w x W → x.length = ts.length) {ownc : Own} {J : Own → Prop} {Jx : Code → Own → Prop}
    (round : ∀ (w : World) (x : List Value), Good Γ ownc w → K w x (l :: ids ownc) → VWr (some l) P ⟨w, ids ownc⟩ n assign (Then (fun f' own' => ∀ w', Good Γ own' w' → Good ⟨w, l :: ids ownc⟩ own' w' → VWr (some l) P ⟨w', ids own'⟩ n body (REnd J Jx) f' own') (fun _ _ _ => False)) (updL f ts x) ownc) :
    YieldsC P Γ l K ((l, ob (.loop (rc .ready none))) :: ownc) (fun own => ∃ ownc', own = (l, ob (.loop (rc .ready none))) :: ownc' ∧ J ownc') (fun own => ∃ c ownc', own = (l, ob (.loop (rc .done (some c)))) :: ownc' ∧ Jx c ownc') := by
  intro x w hg hKx
  have hx := hK w x _ hKx
  have hrow : w.heap[l]? = some (.loop (rc .ready none)) := (hg.ok.blk l _ List.mem_cons_self).toObj rfl
  have hgc : Good Γ ownc w := hg.tailE
  have hlno : l ∉ ids ownc := (List.nodup_cons.1 hg.ok.nodup).1
  have hlt : l < w.heap.size := (Array.getElem?_eq_some_iff.1 hrow).1
  have hy := run_yield (P := P) (args := x.toArray) hrow (by rw [hrc]; simp [hx])
  rw [hy]
  have e1 : (((rc .ready none).params.zip x.toArray).foldl (fun tmps (t, a) => tmps.setIfInBounds t a) (rc .ready none).tmps) = (ts.zip x).foldl (fun tm (x : Nat × Value) => tm.setIfInBounds x.1 x.2) tm := by
    rw [hrc]; exact zip_foldl ts x tm
  rw [e1]
  have e2 : (rc .ready none).assign = assign := by rw [hrc]
  have e3 : (rc .ready none).body = body := by rw [hrc]
  rw [e2, e3]
  refine roundIn_of_wpIn (F := Fence.wide) trivial ?_
  refine wpIn_mono (round w x hgc hKx _ w (fr_round hfr hts) (Good.start hgc.ok) (Mk.nil _ _ _ _)) ?_
  rintro e a1 w1 ⟨f1, own1, h1, h2, hm1, h3⟩
  cases e with
  | normal =>
    have hl1 : w1.heap[l]? = some (.loop (rc .ready none)) := (h2.fr.block l hlt hlno).trans hrow
    have hlt1 : l < w1.heap.size := (Array.getElem?_eq_some_iff.1 hl1).1
    have hin1 : ∀ b ∈ ids own1, b ∈ ids ownc ∨ w.heap.size ≤ b := fun b hb => by obtain ⟨k, hk⟩ := mem_ids hb; exact h2.mine b k hk
    have hno1 : l ∉ ids own1 := fun h => by rcases hin1 l h with h | h; exact hlno h; omega
    obtain ⟨w2, hw2⟩ : ∃ w2, w2 = w1.putObj l (.loop { rc .ready none with state := .busy }) := ⟨_, rfl⟩
    have hf2 : Fr [l] w1 w2 := by rw [hw2]; exact fr_putObj
    have hg1 : Good Γ own1 w1 := hgc.onto h2
    have hg2 : Good Γ own1 w2 := hg1.marks (rs := [l]) (fun r hr => by simp at hr; subst hr; exact ⟨hno1, hl⟩) hf2
    have hgW : Good ⟨w, l :: ids ownc⟩ own1 w2 :=
      ⟨(h2.fr.mono fun b hb => List.mem_cons_of_mem _ hb).trans hf2 (fun b hb => .inl (by simp at hb; subst hb; exact List.mem_cons_self)), hg2.ok, fun b k hb => (h2.mine b k hb).imp (fun h => List.mem_cons_of_mem _ h) id⟩
    refine ⟨w2, by rw [hw2]; exact run_beginRound hl1 (by rw [hrc]), ?_⟩
    have hds : a1.defers = [] := hm1.1 (by simp)
    refine wpIn_mono (h3 w2 hg2 hgW a1 w2 h1 (Good.start hg2.ok) (by rw [hds]; exact Mk.nil _ _ _ _)) ?_
    rintro e a2 w3 ⟨f2, own2, k1, k2, _, k3⟩
    have hl2 : w2.heap[l]? = some (.loop { rc .ready none with state := .busy }) := by rw [hw2]; exact World.putObj_heap_same hlt1
    have hlt2 : l < w2.heap.size := (Array.getElem?_eq_some_iff.1 hl2).1
    have hl3 : w3.heap[l]? = some (.loop { rc .ready none with state := .busy }) := (k2.fr.block l hlt2 hno1).trans hl2
    have hlt3 : l < w3.heap.size := (Array.getElem?_eq_some_iff.1 hl3).1
    have hin2 : ∀ b ∈ ids own2, b ∈ ids own1 ∨ w2.heap.size ≤ b := fun b hb => by obtain ⟨k, hk⟩ := mem_ids hb; exact k2.mine b k hk
    have hno2 : l ∉ ids own2 := fun h => by rcases hin2 l h with h | h; exact hno1 h; omega
    have hg3 : Good Γ own2 w3 := hg2.onto k2
    have hs1 : w.heap.size ≤ w1.heap.size := h2.fr.size
    have hs2 : w1.heap.size ≤ w2.heap.size := hf2.size
    have fin : ∀ (jump : Option Code), ∃ v w4, (Instr.endRound l jump).run P w3 = .ok v w4 ∧ v = .bool jump.isNone ∧ Good Γ ((l, ob (.loop (rc (if jump.isNone then .ready else .done) jump))) :: own2) w4 ∧
        (Fr (ids ((l, ob (.loop (rc .ready none))) :: ownc)) w w4 ∧ ∀ b ∈ ids ((l, ob (.loop (rc (if jump.isNone then .ready else .done) jump))) :: own2), b ∈ ids ((l, ob (.loop (rc .ready none))) :: ownc) ∨ w.heap.size ≤ b) := fun jump => by
      have hr := run_endRound (P := P) jump hl3
      have e4 : ({ ({ rc .ready none with state := .busy } : Loop) with state := if jump.isNone then .ready else .done, pending := jump } : Loop) = rc (if jump.isNone then .ready else .done) jump := by rw [hrc]
      rw [e4] at hr
      refine ⟨_, _, hr, rfl, hg3.take hno2 hl fr_putObj (World.putObj_heap_same hlt3), ?_, ?_⟩
      · have q1 : Fr (ids ((l, ob (.loop (rc .ready none))) :: ownc)) w w1 := h2.fr.mono fun b hb => List.mem_cons_of_mem _ hb
        have q2 := q1.trans hf2 (fun b hb => .inl (by simp at hb; subst hb; exact List.mem_cons_self))
        have q3 := q2.trans k2.fr (fun b hb => by
          rcases hin1 b hb with h | h
          · exact .inl (List.mem_cons_of_mem _ h)
          · exact .inr h)
        exact q3.trans fr_putObj (fun b hb => .inl (by simp at hb; subst hb; exact List.mem_cons_self))
      · intro b hb
        rcases List.mem_cons.1 hb with h | h
        · exact .inl (by rw [h]; exact List.mem_cons_self)
        · rcases hin2 b h with h | h
          · rcases hin1 b h with h | h
            · exact .inl (List.mem_cons_of_mem _ h)
            · exact .inr h
          · exact .inr (by omega)
    cases e with
    | normal =>
      obtain ⟨v, w4, r1, rfl, r3, r4⟩ := fin none
      exact ⟨_, w4, r1, _, rfl, _, r3, r4, .inl ⟨rfl, own2, rfl, k3⟩⟩
    | ret =>
      obtain ⟨v, w4, r1, rfl, r3, r4⟩ := fin (some .ret)
      exact ⟨_, w4, r1, _, rfl, _, r3, r4, .inr ⟨rfl, _, own2, rfl, k3⟩⟩
    | exit id =>
      obtain ⟨v, w4, r1, rfl, r3, r4⟩ := fin (some (.exit id))
      exact ⟨_, w4, r1, _, rfl, _, r3, r4, .inr ⟨rfl, _, own2, rfl, k3⟩⟩
    | goto t =>
      obtain ⟨v, w4, r1, rfl, r3, r4⟩ := fin (some (.goto t))
      exact ⟨_, w4, r1, _, rfl, _, r3, r4, .inr ⟨rfl, _, own2, rfl, k3⟩⟩
    | panic ch => exact k3.elim
    | outgrown => exact k3.elim
  | _ => exact h3.elim

/-- A range over a function that reads what it has captured, and what is old. -/
theorem vw_rangeFuncC {Q : Post} {R : World → Own → Prop} {g : Operand} {ts : List Nat} {assign body : Code} {gf : Nat} {lb : List Value} {m : Nat} {K : Nat → World → List Value → List Nat → Prop} {cap own0 : Own}
    (hg : ev f g = .func (.func gf) #[] lb.toArray) (he : Ent P gf) (hit : IterC P gf lb m K cap R) (hR : ∀ w own', Good Γ (own' ++ cap) w → R w own') (hp : own.Perm (own0 ++ cap)) (hts : ∀ t ∈ ts, t < n) (hxs : ∀ i w x W, K i w x W → x.length = ts.length) (hKm : ∀ i w x W W', (∀ b ∈ W', b ∈ W) → K i w x W → K i w x W')
    (I : Nat → Own → Prop) (Ix : Code → Own → Prop) (h0 : I 0 own0)
    (round : ∀ (l i : Nat) (x : List Value) (ownc : Own) (w : World), i < m → I i ownc → Good Γ ownc w → K i w x (l :: ids ownc) →
      VWr (some l) P ⟨w, ids ownc⟩ n assign (Then (fun f' own' => ∀ w', Good Γ own' w' → Good ⟨w, l :: ids ownc⟩ own' w' → VWr (some l) P ⟨w', ids own'⟩ n body (REnd (fun o => ∃ o', OLe o' o ∧ I (i + 1) o') (fun c o => ∃ o', OLe o' o ∧ Ix c o')) f' own') (fun _ _ _ => False)) (updL f ts x) ownc)
    (hdone : ∀ own', I m own' → Q .normal f (own' ++ cap))
    (hstop : ∀ c own', Ix c own' → VW P Γ n c Q f (own' ++ cap)) :
    VW P Γ n (.rangeFunc g ts.toArray assign body) Q f own := by
  intro a w ha hgd hmk
  refine wpIn_rangeFunc ?_
  intro fn _
  have hgd := hgd.perm hp
  have hmk : Mk none Γ (own0 ++ cap) a.defers w := hmk.sub fun b hb => (hp.map Prod.fst).mem_iff.2 hb
  obtain ⟨rc, hrc⟩ : ∃ rc : LoopState → Option Code → Loop, rc = fun st pe => { state := st, pending := pe, fn, tmps := a.tmps, params := ts.toArray, assign, body, defers := w.heap.size } := ⟨_, rfl⟩
  obtain ⟨W1, hW1⟩ : ∃ W1, (w.alloc (.deferred (some []))).alloc (.loop (rc .ready none)) = W1 := ⟨_, rfl⟩
  have hsz : W1.heap.size = w.heap.size + 2 := by rw [← hW1]; simp
  have hf1 : Fr [] w W1 := by
    rw [← hW1]
    refine ⟨rfl, rfl, rfl, Nat.le_refl _, by simp; omega, fun b hb _ => ?_⟩
    rw [heap_alloc_old _ _ (by simp; omega), heap_alloc_old _ _ hb]
  have hL1 : W1.heap[w.heap.size + 1]? = some (.loop (rc .ready none)) := by
    rw [← hW1]; have := World.alloc_heap_new (w.alloc (.deferred (some []))) (.loop (rc .ready none)); rwa [World.size_alloc] at this
  have hD1 : W1.heap[w.heap.size]? = some (.deferred (some [])) := by
    rw [← hW1, heap_alloc_old _ _ (by simp)]; exact World.alloc_heap_new w _
  have hS : Γ.w0.heap.size ≤ w.heap.size := hgd.fr.size
  have hltO : ∀ b ∈ ids (own0 ++ cap), b < w.heap.size := fun b hb => hgd.ok.lt hb
  have hg1 : Good Γ (own0 ++ cap) W1 := hgd.same hf1
  have hg2 : Good Γ ((w.heap.size + 1, ob (.loop (rc .ready none))) :: (own0 ++ cap)) W1 :=
    hg1.take (fun h => by have := hltO _ h; omega) (by omega) (Fr.refl _ _) hL1
  have hgL : Good Γ ((w.heap.size + 1, ob (.loop (rc .ready none))) :: own0) W1 := Good.left (b := cap) hg2
  have hcap : OwnOk cap W1 := (Good.le (a := cap) ⟨own0, List.perm_append_comm⟩ hg1).ok
  have hdis : ∀ b ∈ ids cap, b ∉ ids ((w.heap.size + 1, ob (.loop (rc .ready none))) :: own0) := fun b hb h => by
    have hnd := hg2.ok.nodup
    have e : ids ((w.heap.size + 1, ob (.loop (rc .ready none))) :: (own0 ++ cap)) = ids ((w.heap.size + 1, ob (.loop (rc .ready none))) :: own0) ++ ids cap := by simp [ids]
    rw [e] at hnd
    exact (List.nodup_append.1 hnd).2.2 b h b hb rfl
  have hcall := hit Γ (w.heap.size + 1) (fun i own => ∃ ownc, own = (w.heap.size + 1, ob (.loop (rc .ready none))) :: ownc ∧ ∃ o, OLe o ownc ∧ I i o) (fun own => ∃ c ownc, own = (w.heap.size + 1, ob (.loop (rc .done (some c)))) :: ownc ∧ ∃ o, OLe o ownc ∧ Ix c o)
    ((w.heap.size + 1, ob (.loop (rc .ready none))) :: own0) W1 hgL hcap hdis (hR _ _ hg2) ⟨own0, rfl, own0, ole_refl, h0⟩ (by
      rintro i hx own ⟨ownc, rfl, o, hle, hI⟩
      have hle' : OLe ((w.heap.size + 1, ob (.loop (rc .ready none))) :: o) ((w.heap.size + 1, ob (.loop (rc .ready none))) :: ownc) := ole_cons (List.Perm.refl _) hle
      exact (yieldsC_of_round (K := K i) (ds := a.defers) hrc ha hts (by omega) (hxs i) (fun w' x hgw hKx => round _ i x o w' hx hI hgw hKx)).le (hKm i) hle' (fun _ h => h) (fun _ h => h))
  refine ⟨w.heap.size + 1, [mark w.heap.size], W1, { target := .fn (.func gf) lb.toArray, args := #[.func (.yield (w.heap.size + 1)) #[] #[]] }, W1, gf,
    #[.func (.yield (w.heap.size + 1)) #[] #[]] ++ lb.toArray, W1, ?_, ?_, fun _ _ => trivial, ?_, (fun h => by cases h), ?_⟩
  · rw [← hW1, hrc]; exact run_enterLoop_outer _ _ _ _ _
  · have hga : a.eval g = .func (.func gf) #[] lb.toArray := by rw [ha.eval]; exact hg
    simp only [resolve, hga]
    simp [go_sem]
  · show (callFunc gf (#[.func (.yield (w.heap.size + 1)) #[] #[]] ++ lb.toArray)).run P W1 = _
    exact run_callFunc he _ _
  refine callsIn_wide.2 ?_
  have e1 : (#[.func (.yield (w.heap.size + 1)) #[] #[]] ++ lb.toArray : Array Value) = (.func (.yield (w.heap.size + 1)) #[] #[] :: lb).toArray := by simp
  rw [e1]
  refine hcall.mono ?_
  rintro e w3 ⟨v, new, rfl, h1, h2, h3, h4⟩
  have hg3 : Good Γ (new ++ cap) w3 := Good.joinM (own0 := (w.heap.size + 1, ob (.loop (rc .ready none))) :: own0) (own := cap) hg2 h1 h2 h3
  -- the end, whatever jump
  have fin : ∀ (st : LoopState) (pe : Option Code) (ownc : Own), st ≠ .busy → new = (w.heap.size + 1, ob (.loop (rc st pe))) :: ownc →
      ∃ w4, (Instr.endLoop (w.heap.size + 1)).run P w3 = .ok pe w4 ∧ Good Γ (ownc ++ cap) w4 ∧ Mk none Γ (ownc ++ cap) (mark w.heap.size :: a.defers) w4 := fun st pe ownc hst hn => by
    subst hn
    have hl3 : w3.heap[w.heap.size + 1]? = some (.loop (rc st pe)) := (h2.blk _ _ List.mem_cons_self).toObj rfl
    have hr := run_endLoop (P := P) hl3 (by rw [hrc]; exact hst)
    have hpe : (rc st pe).pending = pe := by rw [hrc]
    rw [hpe] at hr
    have hno : w.heap.size + 1 ∉ ids (ownc ++ cap) := (List.nodup_cons.1 hg3.ok.nodup).1
    have hgT : Good Γ (ownc ++ cap) w3 := hg3.tailE
    refine ⟨_, hr, hgT.marks (rs := [w.heap.size + 1]) (fun r hr => by simp at hr; subst hr; exact ⟨hno, by omega⟩) fr_putObj, fun h => absurd rfl h, ?_⟩
    obtain ⟨_, rs, m1, m2, m3⟩ := hmk
    have hltr : ∀ r ∈ rs, r < w.heap.size := fun r hr => (Array.getElem?_eq_some_iff.1 (m3 r hr).1).1
    have hnotL : ∀ r, r ≤ w.heap.size → r ∉ ids own0 → r ∉ ids ((w.heap.size + 1, ob (.loop (rc .ready none))) :: own0) := fun r hr hn h => by
      rcases List.mem_cons.1 h with h | h
      · simp at h; omega
      · exact hn h
    have keep : ∀ r, r ≤ w.heap.size → r ∉ ids own0 → ∀ o ox, W1.heap[r]? = some o → (w3.putObj (w.heap.size + 1) ox).heap[r]? = some o := fun r hr hn o ox ho => by
      rw [World.putObj_heap_other (by omega), h1.block r (by omega) (hnotL r hr hn)]; exact ho
    have notin : ∀ r, r ≤ w.heap.size → r ∉ ids (own0 ++ cap) → r ∉ ids (ownc ++ cap) := fun r hr hn h => by
      rw [ids_app] at h hn
      rcases List.mem_append.1 h with h | h
      · rcases h3 r (List.mem_cons_of_mem _ h) with h | h
        · exact hnotL r hr (fun h' => hn (List.mem_append_left _ h')) h
        · omega
      · exact hn (List.mem_append_right _ h)
    have hDno : w.heap.size ∉ ids (own0 ++ cap) := fun h => by have := hltO _ h; omega
    refine ⟨w.heap.size :: rs, by rw [m1]; rfl, List.nodup_cons.2 ⟨fun h => by have := hltr _ h; omega, m2⟩, fun r hr => ?_⟩
    rcases List.mem_cons.1 hr with rfl | hr
    · exact ⟨keep _ (Nat.le_refl _) (fun h => hDno (by rw [ids_app]; exact List.mem_append_left _ h)) _ _ hD1, notin _ (Nat.le_refl _) hDno, hS⟩
    · obtain ⟨q1, q2, q3⟩ := m3 r hr
      have hlt := hltr r hr
      exact ⟨keep r (by omega) (fun h => q2 (by rw [ids_app]; exact List.mem_append_left _ h)) _ _ ((hf1.block r hlt (by simp)).trans q1), notin r (by omega) q2, q3⟩
  have ha' : FR n f { a with defers := [mark w.heap.size] ++ a.defers } := ⟨ha.size, ha.get⟩
  have leC : ∀ {o ownc : Own}, OLe o ownc → OLe (o ++ cap) (ownc ++ cap) := fun ⟨R, hR⟩ =>
    ⟨R, (hR.append_right cap).trans (by rw [List.append_assoc, List.append_assoc]; exact List.perm_append_comm.append_left _)⟩
  have leI : ∀ {a b : Own}, OLe a b → ∀ c ∈ ids a, c ∈ ids b := fun hp c hc => by obtain ⟨k, hk⟩ := mem_ids hc; exact ids_mem (hp.mem hk)
  rcases h4 with ⟨ownc, hn, o, hle, hI⟩ | ⟨c, ownc, hn, o, hle, hI⟩
  · obtain ⟨w4, r1, r2, r3⟩ := fin .ready none ownc (by simp) hn
    exact ⟨none, w4, r1, f, o ++ cap, ha', r2.le (leC hle), r3.sub (leI (leC hle)), hdone o hI⟩
  · obtain ⟨w4, r1, r2, r3⟩ := fin .done (some c) ownc (by simp) hn
    exact ⟨some c, w4, r1, hstop c o hI _ w4 ha' (r2.le (leC hle)) (r3.sub (leI (leC hle)))⟩

end
end Go.VL
