import Derived.Test.YtlfflmoegfibgaaVLRanR
import Derived.Test.YtlfflmoegfibgaaVLPlay
/-! Ranges over functions whose captured blocks are read; what is old stays. -/
namespace Go.VL
open Go.RowKit
section
variable {P : Program} {Γ : Ctx} {n : Nat} {f : Nat → Value} {own : Own}
/-- A range over a function that reads what it has captured, and what is old. -/
theorem vw_rangeFuncG {Q : Post} {R : World → Own → Prop} {g : Operand} {ts : List Nat} {assign body : Code} {gf : Nat} {lb : List Value} {xs : List (List Value)} {cap own0 : Own}
    (hg : ev f g = .func (.func gf) #[] lb.toArray) (he : Ent P gf) (hit : IterR P gf lb xs cap R) (hR : ∀ w own', Good Γ (own' ++ cap) w → R w own') (hp : own.Perm (own0 ++ cap)) (hts : ∀ t ∈ ts, t < n) (hxs : ∀ x ∈ xs, x.length = ts.length)
    (I : Nat → Own → Prop) (Ix : Code → Own → Prop) (h0 : I 0 own0)
    (round : ∀ (l i : Nat) (x : List Value) (ownc : Own) (w : World), xs[i]? = some x → I i ownc → Good Γ ownc w →
      VWr (some l) P ⟨w, ids ownc⟩ n assign (Then (fun f' own' => ∀ w', Good Γ own' w' → VWr (some l) P ⟨w', ids own'⟩ n body (REnd (fun o => ∃ o', OLe o' o ∧ I (i + 1) o') (fun c o => ∃ o', OLe o' o ∧ Ix c o')) f' own') (fun _ _ _ => False)) (updL f ts x) ownc)
    (hdone : ∀ own', I xs.length own' → Q .normal f (own' ++ cap))
    (hstop : ∀ c own', Ix c own' → VW P Γ n c Q f (own' ++ cap)) :
    VW P Γ n (.rangeFunc g ts.toArray assign body) Q f own := by
  intro a w ha hgd hmk
  refine wpIn_rangeFunc ?_
  intro fn _
  have hgd := hgd.perm hp
  have hmk : Mk none Γ (own0 ++ cap) a.defers w := hmk.sub fun b hb => (hp.map Prod.fst).mem_iff.2 hb
  obtain ⟨rc, hrc⟩ : ∃ rc : LoopState → Option Code → Loop, rc = fun st pe => { state := st, pending := pe, fn, tmps := a.tmps, params := ts.toArray, assign, body, defers := w.heap.size } := ⟨_, rfl⟩
  obtain ⟨W1, hW1⟩ : ∃ W1, (w.alloc (.deferred (some []))).alloc (.loop (rc .ready none)) = W1 := ⟨_, rfl⟩
  have hsz : W1.heap.size = w.heap.size + 2 := by rw [← hW1]; simp
  have hf1 : Fr [] w W1 := by
    rw [← hW1]
    refine ⟨rfl, rfl, rfl, Nat.le_refl _, by simp; omega, fun b hb _ => ?_⟩
    rw [heap_alloc_old _ _ (by simp; omega), heap_alloc_old _ _ hb]
  have hL1 : W1.heap[w.heap.size + 1]? = some (.loop (rc .ready none)) := by
    rw [← hW1]; have := World.alloc_heap_new (w.alloc (.deferred (some []))) (.loop (rc .ready none)); rwa [World.size_alloc] at this
  have hD1 : W1.heap[w.heap.size]? = some (.deferred (some [])) := by
    rw [← hW1, heap_alloc_old _ _ (by simp)]; exact World.alloc_heap_new w _
  have hS : Γ.w0.heap.size ≤ w.heap.size := hgd.fr.size
  have hltO : ∀ b ∈ ids (own0 ++ cap), b < w.heap.size := fun b hb => hgd.ok.lt hb
  have hg1 : Good Γ (own0 ++ cap) W1 := hgd.same hf1
  have hg2 : Good Γ ((w.heap.size + 1, ob (.loop (rc .ready none))) :: (own0 ++ cap)) W1 :=
    hg1.take (fun h => by have := hltO _ h; omega) (by omega) (Fr.refl _ _) hL1
  have hgL : Good Γ ((w.heap.size + 1, ob (.loop (rc .ready none))) :: own0) W1 := Good.left (b := cap) hg2
  have hcap : OwnOk cap W1 := (Good.le (a := cap) ⟨own0, List.perm_append_comm⟩ hg1).ok
  have hdis : ∀ b ∈ ids cap, b ∉ ids ((w.heap.size + 1, ob (.loop (rc .ready none))) :: own0) := fun b hb h => by
    have hnd := hg2.ok.nodup
    have e : ids ((w.heap.size + 1, ob (.loop (rc .ready none))) :: (own0 ++ cap)) = ids ((w.heap.size + 1, ob (.loop (rc .ready none))) :: own0) ++ ids cap := by simp [ids]
    rw [e] at hnd
    exact (List.nodup_append.1 hnd).2.2 b h b hb rfl
  have hcall := hit Γ (w.heap.size + 1) (fun i own => ∃ ownc, own = (w.heap.size + 1, ob (.loop (rc .ready none))) :: ownc ∧ ∃ o, OLe o ownc ∧ I i o) (fun own => ∃ c ownc, own = (w.heap.size + 1, ob (.loop (rc .done (some c)))) :: ownc ∧ ∃ o, OLe o ownc ∧ Ix c o)
    ((w.heap.size + 1, ob (.loop (rc .ready none))) :: own0) W1 hgL hcap hdis (hR _ _ hg2) ⟨own0, rfl, own0, ole_refl, h0⟩ (by
      rintro i x hx own ⟨ownc, rfl, o, hle, hI⟩
      have hle' : OLe ((w.heap.size + 1, ob (.loop (rc .ready none))) :: o) ((w.heap.size + 1, ob (.loop (rc .ready none))) :: ownc) := ole_cons (List.Perm.refl _) hle
      exact (yieldsAt_of_round (ds := a.defers) hrc ha hts (by omega) (hxs x (List.mem_of_getElem? hx)) (fun w' hgw => round _ i x o w' hx hI hgw)).le hle' (fun _ h => h) (fun _ h => h))
  refine ⟨w.heap.size + 1, [mark w.heap.size], W1, { target := .fn (.func gf) lb.toArray, args := #[.func (.yield (w.heap.size + 1)) #[] #[]] }, W1, gf,
    #[.func (.yield (w.heap.size + 1)) #[] #[]] ++ lb.toArray, W1, ?_, ?_, fun _ _ => trivial, ?_, (fun h => by cases h), ?_⟩
  · rw [← hW1, hrc]; exact run_enterLoop_outer _ _ _ _ _
  · have hga : a.eval g = .func (.func gf) #[] lb.toArray := by rw [ha.eval]; exact hg
    simp only [resolve, hga]
    simp [go_sem]
  · show (callFunc gf (#[.func (.yield (w.heap.size + 1)) #[] #[]] ++ lb.toArray)).run P W1 = _
    exact run_callFunc he _ _
  refine callsIn_wide.2 ?_
  have e1 : (#[.func (.yield (w.heap.size + 1)) #[] #[]] ++ lb.toArray : Array Value) = (.func (.yield (w.heap.size + 1)) #[] #[] :: lb).toArray := by simp
  rw [e1]
  refine hcall.mono ?_
  rintro e w3 ⟨v, new, rfl, h1, h2, h3, h4⟩
  have hg3 : Good Γ (new ++ cap) w3 := Good.joinM (own0 := (w.heap.size + 1, ob (.loop (rc .ready none))) :: own0) (own := cap) hg2 h1 h2 h3
  -- the end, whatever jump
  have fin : ∀ (st : LoopState) (pe : Option Code) (ownc : Own), st ≠ .busy → new = (w.heap.size + 1, ob (.loop (rc st pe))) :: ownc →
      ∃ w4, (Instr.endLoop (w.heap.size + 1)).run P w3 = .ok pe w4 ∧ Good Γ (ownc ++ cap) w4 ∧ Mk none Γ (ownc ++ cap) (mark w.heap.size :: a.defers) w4 := fun st pe ownc hst hn => by
    subst hn
    have hl3 : w3.heap[w.heap.size + 1]? = some (.loop (rc st pe)) := (h2.blk _ _ List.mem_cons_self).toObj rfl
    have hr := run_endLoop (P := P) hl3 (by rw [hrc]; exact hst)
    have hpe : (rc st pe).pending = pe := by rw [hrc]
    rw [hpe] at hr
    have hno : w.heap.size + 1 ∉ ids (ownc ++ cap) := (List.nodup_cons.1 hg3.ok.nodup).1
    have hgT : Good Γ (ownc ++ cap) w3 := hg3.tailE
    refine ⟨_, hr, hgT.marks (rs := [w.heap.size + 1]) (fun r hr => by simp at hr; subst hr; exact ⟨hno, by omega⟩) fr_putObj, fun h => absurd rfl h, ?_⟩
    obtain ⟨_, rs, m1, m2, m3⟩ := hmk
    have hltr : ∀ r ∈ rs, r < w.heap.size := fun r hr => (Array.getElem?_eq_some_iff.1 (m3 r hr).1).1
    have hnotL : ∀ r, r ≤ w.heap.size → r ∉ ids own0 → r ∉ ids ((w.heap.size + 1, ob (.loop (rc .ready none))) :: own0) := fun r hr hn h => by
      rcases List.mem_cons.1 h with h | h
      · simp at h; omega
      · exact hn h
    have keep : ∀ r, r ≤ w.heap.size → r ∉ ids own0 → ∀ o ox, W1.heap[r]? = some o → (w3.putObj (w.heap.size + 1) ox).heap[r]? = some o := fun r hr hn o ox ho => by
      rw [World.putObj_heap_other (by omega), h1.block r (by omega) (hnotL r hr hn)]; exact ho
    have notin : ∀ r, r ≤ w.heap.size → r ∉ ids (own0 ++ cap) → r ∉ ids (ownc ++ cap) := fun r hr hn h => by
      rw [ids_app] at h hn
      rcases List.mem_append.1 h with h | h
      · rcases h3 r (List.mem_cons_of_mem _ h) with h | h
        · exact hnotL r hr (fun h' => hn (List.mem_append_left _ h')) h
        · omega
      · exact hn (List.mem_append_right _ h)
    have hDno : w.heap.size ∉ ids (own0 ++ cap) := fun h => by have := hltO _ h; omega
    refine ⟨w.heap.size :: rs, by rw [m1]; rfl, List.nodup_cons.2 ⟨fun h => by have := hltr _ h; omega, m2⟩, fun r hr => ?_⟩
    rcases List.mem_cons.1 hr with rfl | hr
    · exact ⟨keep _ (Nat.le_refl _) (fun h => hDno (by rw [ids_app]; exact List.mem_append_left _ h)) _ _ hD1, notin _ (Nat.le_refl _) hDno, hS⟩
    · obtain ⟨q1, q2, q3⟩ := m3 r hr
      have hlt := hltr r hr
      exact ⟨keep r (by omega) (fun h => q2 (by rw [ids_app]; exact List.mem_append_left _ h)) _ _ ((hf1.block r hlt (by simp)).trans q1), notin r (by omega) q2, q3⟩
  have ha' : FR n f { a with defers := [mark w.heap.size] ++ a.defers } := ⟨ha.size, ha.get⟩
  have leC : ∀ {o ownc : Own}, OLe o ownc → OLe (o ++ cap) (ownc ++ cap) := fun ⟨R, hR⟩ =>
    ⟨R, (hR.append_right cap).trans (by rw [List.append_assoc, List.append_assoc]; exact List.perm_append_comm.append_left _)⟩
  have leI : ∀ {a b : Own}, OLe a b → ∀ c ∈ ids a, c ∈ ids b := fun hp c hc => by obtain ⟨k, hk⟩ := mem_ids hc; exact ids_mem (hp.mem hk)
  rcases h4 with ⟨ownc, hn, o, hle, hI⟩ | ⟨c, ownc, hn, o, hle, hI⟩
  · obtain ⟨w4, r1, r2, r3⟩ := fin .ready none ownc (by simp) hn
    exact ⟨none, w4, r1, f, o ++ cap, ha', r2.le (leC hle), r3.sub (leI (leC hle)), hdone o hI⟩
  · obtain ⟨w4, r1, r2, r3⟩ := fin .done (some c) ownc (by simp) hn
    exact ⟨some c, w4, r1, hstop c o hI _ w4 ha' (r2.le (leC hle)) (r3.sub (leI (leC hle)))⟩

/-- What is old, and nobody's, stays. -/
theorem old_stays {w w2 : World} {W : List Nat} {own : Own} {b o : Nat} {v : Value} (hg : Good ⟨w, W⟩ own w2) (hc : w.cell? ⟨b, o, none⟩ = some v) (hb : b ∉ W) : w2.cell? ⟨b, o, none⟩ = some v ∧ b ∉ ids own := by
  refine ⟨hg.fr.cell hb hc, fun h => ?_⟩
  obtain ⟨k, hk⟩ := mem_ids h
  have hlt : b < w.heap.size := World.block_lt_of_cell? w _ hc
  rcases hg.mine b k hk with h | h
  · exact hb h
  · have h1 : w.heap.size ≤ b := h
    omega
theorem outNoneN {fn : Func} {S : Value → Own → Prop} {new : Own} (h : fn.results = #[]) (hn : (ids new).Nodup) (hs : Sub new own) (hS : S (.tuple #[]) new) : Out P Γ n fn S .normal f own :=
  ⟨_, new, fun _ _ _ _ => results_none h _ _ _, hn, hs, hS⟩
theorem outNoneR {fn : Func} {S : Value → Own → Prop} {new : Own} (h : fn.results = #[]) (hn : (ids new).Nodup) (hs : Sub new own) (hS : S (.tuple #[]) new) : Out P Γ n fn S .ret f own :=
  ⟨_, new, fun _ _ _ _ => results_none h _ _ _, hn, hs, hS⟩
end
end Go.VL
