import Derived.Test.YtlfflmoegfibgaaVLTable
import Derived.Test.YtlfflmoegfibgaaVLRanF
import Derived.Laws.CopyRow
/-! Calls of function values; rows cut off the front of a list; two results of which one is a list of lists. -/
namespace Go.VL
open Go.RowKit
section
variable {P : Program} {T : Nat → Option TI} {Γ : Ctx} {ops : Array Oper} {Q : (Nat → Value) → Own → Prop} {rest : List Oper} {f : Nat → Value} {own : Own}
variable {ty : TypeId} {pos : String} {aft : Array Edge}
/-- A call of a function value with what it has captured. -/
theorem vops_callV {d g : Nat} {x : Operand} {lb : List Value} {l : List Operand} {atys : Array TypeId} {as : List Value} {S : Value → Own → Prop} (he : Ent P g) (hx : ev f x = .func (.func g) #[] lb.toArray) (ha : l.map (ev f) = as)
    (h : ∀ w, Good Γ own w → Calls P g (as ++ lb).toArray w (Res w S)) (k : ∀ v new, S v new → VOps P Γ ops Q rest (upd f d v) (new ++ own)) :
    VOps P Γ ops Q (⟨some d, .call ⟨.value x, l.toArray, atys⟩, ty, pos, aft, none⟩ :: rest) f own :=
  vops_go fun w hg => by
    rw [run_callV he hx (some d) l atys ty pos aft none w ha]
    exact (h w hg).mono fun e w' ⟨v, new, he, h1, h2, h3, h4⟩ => ⟨v, he, new ++ own, hg.join h1 h2 h3, ⟨h1.mono (by simp), fun b hb => by
      have hb' : b ∈ ids new ++ ids own := by rwa [ids, List.map_append] at hb
      rcases List.mem_append.1 hb' with h | h
      · exact .inr (h3 b h)
      · exact .inl h⟩, k v new h4⟩
theorem vops_callVp {d g : Nat} {x : Operand} {lb : List Value} {l : List Operand} {atys : Array TypeId} {as : List Value} {v : Value} (he : Ent P g) (hx : ev f x = .func (.func g) #[] lb.toArray) (ha : l.map (ev f) = as)
    (h : ∀ w, Good Γ own w → Calls P g (as ++ lb).toArray w (Res w (Is v))) (k : VOps P Γ ops Q rest (upd f d v) own) :
    VOps P Γ ops Q (⟨some d, .call ⟨.value x, l.toArray, atys⟩, ty, pos, aft, none⟩ :: rest) f own :=
  vops_callV he hx ha h fun v' new ⟨h1, h2⟩ => by subst h1; subst h2; exact k
/-- .. with no lower bound. -/
theorem x_slice3n (hT : TyOk P T) {t e a0 b0 : Nat} {z0 : List Value} {ei : TI} {x hi mx : Operand} {a : Option Addr} {n c : Nat} {kh km : IntKind} {h m : Int} {d : Option Tmp} {g : Option (Nat × Bool)}
    (ht : T t = some ⟨.slice e, a0, b0, z0⟩) (he : T e = some ei) (hx : ev f x = .slice a n c) (hh : ev f hi = .int kh h) (hm : ev f mx = .int km m) (hc : 0 ≤ h ∧ h ≤ m ∧ m ≤ (c : Int)) (w : World) :
    (execOp (ev f) ⟨d, .slice t x none (some hi) (some mx), ty, pos, aft, g⟩).run P w = .ok (.value (sliced a 0 h.toNat m.toNat ei.size)) w := by
  have hu := hT.slice ht
  have hel : P.elem t = e := by simp [Program.elem, hu]
  have hu' : P.underlying t = some (.slice (P.elem t)) := by rw [hel]; exact hu
  have hs := hT.size he w
  obtain ⟨h1, h2, h3⟩ := hc
  show ((Instr.sliceAt t (ev f x) none (some (ev f hi)) (some (ev f mx))) >>= fun v => pure (Next.value v)).run P w = _
  rw [run_val, hx, run_sliceAt_slice (h := hu'), run_slice_any (ht := hu'), hel]
  have em : (m.toNat : Int) = m := Int.toNat_of_nonneg (by omega)
  have hb : (Instr.sliceBounds true n c none (some (ev f hi)) (some (ev f mx))).run P w = .ok (0, h.toNat, m.toNat) w := by
    simp [Instr.sliceBounds, hh, hm, run_sliceBound, h1, h2, h3, em, show 0 ≤ m by omega]
  rw [hb]
  simp only [Result.andThen_ok, hs]
/-- The first n numbers of a list, and no more capacity. -/
theorem vops_rowCut (n : Nat) (hT : TyOk P T) {d t e a0 b0 : Nat} {z0 : List Value} {ei : TI} {x hi mx : Operand} {bt o len c : Nat} {kh km : IntKind} {h' m' : Int}
    (ht : T t = some ⟨.slice e, a0, b0, z0⟩) (he : T e = some ei) (hx : ev f x = .slice (some ⟨bt, o, none⟩) len c) (hh : ev f hi = .int kh h') (hm : ev f mx = .int km m')
    (hh' : h' = (n : Int)) (hm' : m' = (n : Int)) (_hn : 0 < n) (hc : n ≤ c)
    (k : VOps P Γ ops Q rest (upd f d (.slice (some ⟨bt, o, none⟩) n n)) own) : VOps P Γ ops Q (⟨some d, .slice t x none (some hi) (some mx), ty, pos, aft, none⟩ :: rest) f own := by
  subst hh'; subst hm'
  refine vops_run (x_slice3n hT ht he hx hh hm (by omega)) ?_
  simp only [Int.toNat_natCast]
  have : sliced (some ⟨bt, o, none⟩) 0 n n ei.size = .slice (some ⟨bt, o, none⟩) n n := by
    unfold sliced
    split <;> simp [Addr.add_lit]
  rw [this]
  exact k
/-- .. and the others. -/
theorem vops_restCut (n : Nat) (hT : TyOk P T) {d t e a0 b0 : Nat} {z0 : List Value} {ei : TI} {x lo : Operand} {bt o len c : Nat} {kl : IntKind} {l' : Int}
    (ht : T t = some ⟨.slice e, a0, b0, z0⟩) (he : T e = some ei) (hs : ei.size = 1) (hx : ev f x = .slice (some ⟨bt, o, none⟩) len c) (hl : ev f lo = .int kl l') (hl' : l' = (n : Int)) (hn : n ≤ len) (hc : len ≤ c)
    (k : VOps P Γ ops Q rest (upd f d (.slice (some ⟨bt, if c = n then o else o + n, none⟩) (len - n) (c - n))) own) : VOps P Γ ops Q (⟨some d, .slice t x (some lo) none none, ty, pos, aft, none⟩ :: rest) f own := by
  subst hl'
  refine vops_run (x_slice (l := n) (h := len) hT ht he hx (by simp [bnd, hl]) rfl (by omega)) ?_
  rw [hs]
  simp only [Int.toNat_natCast]
  have : sliced (some ⟨bt, o, none⟩) n len c 1 = .slice (some ⟨bt, if c = n then o else o + n, none⟩) (len - n) (c - n) := by
    unfold sliced
    split <;> simp [Addr.add_lit]
  rw [this]
  exact k
end
/-- Two results: a list of lists, and a code. -/
def PairT (eo ei : Nat) (r : List (List Int) × Int) (v : Value) (new : Own) : Prop := ∃ p cap, v = .tuple #[.slice p r.1.length cap, .int .i64 r.2] ∧ NewT eo ei r.1 (.slice p r.1.length cap) new
section
variable {P : Program} {T : Nat → Option TI} {Γ : Ctx} {f : Nat → Value} {own : Own}
theorem pairT_ok {eo ei : Nat} {n t u len cap : Nat} {fn : Func} {p : Option Addr} {cd : Int} {ls : List (List Int)} {new : Own} {r : List (List Int) × Int} (h : fn.results = #[.tmp t, .tmp u]) (hv : f t = .slice p len cap) (hx : f u = .int .i64 cd)
    (hl : len = ls.length) (hN : NewT eo ei ls (.slice p len cap) new) (hnd : (ids new).Nodup) (hs : Sub new own) (hr : r = (ls, cd)) : Out P Γ n fn (PairT eo ei r) .ret f own := by
  subst hl; subst hr
  exact out2 h hv hx hnd hs ⟨p, cap, rfl, hN⟩
theorem pairT_err {eo ei : Nat} {n t u : Nat} {fn : Func} {cd : Int} {r : List (List Int) × Int} (h : fn.results = #[.tmp t, .tmp u]) (hv : f t = .slice none 0 0) (hx : f u = .int .i64 cd) (hr : r = ([], cd)) : Out P Γ n fn (PairT eo ei r) .ret f own :=
  pairT_ok h hv hx (ls := []) rfl (.inl NewLL.nil) List.nodup_nil sub_nil hr
end
section
variable {P : Program} {T : Nat → Option TI} {Γ : Ctx} {ops : Array Oper} {Q : (Nat → Value) → Own → Prop} {rest : List Oper} {f : Nat → Value} {own own' : Own}
variable {ty : TypeId} {pos : String} {aft : Array Edge}
/-- Numbers copied into a part of a list of one's own. -/
theorem vops_copyI (hT : TyOk P T) {d t u e a0 b0 : Nat} {z0 : List Value} {ei : TI} {x y : Operand} {bt o m cx cy eb nb : Nat} {a : Addr} {q cs : List Int}
    (ht : T t = some ⟨.slice e, a0, b0, z0⟩) (he : T e = some ei) (hs : ei.size = 1) (hx : ev f x = .slice (some ⟨bt, o, none⟩) m cx) (hy : ev f y = .slice (some a) m cy) (hm : cs.length = m)
    (hsrc : See Γ own (fun w => ∀ j v, (ints cs)[j]? = some v → w.cell? (a.add j) = some v)) (hu : Upd own own' bt ⟨ints q, eb, nb, none⟩ ⟨ints (q.take o ++ cs ++ q.drop (o + m)), eb, nb, none⟩) (hfit : o + m ≤ q.length) (hq : nb = q.length)
    (kk : VOps P Γ ops Q rest (upd f d (.int .i64 m)) own') : VOps P Γ ops Q (⟨some d, .call ⟨.builtin .copy, #[x, y], #[t, u]⟩, ty, pos, aft, none⟩ :: rest) f own := by
  obtain ⟨i, hi, rfl⟩ := hu.idx
  refine vops_go fun w hg => ?_
  have hmem := List.mem_of_getElem? hi
  obtain ⟨arr, a1, a2, a3⟩ := hg.ok.row hmem rfl
  have hlst : arr.toList = ints q := by
    apply List.ext_getElem?
    intro j
    by_cases hj : j < q.length
    · have h1 : (ints q)[j]? = some (.int .i64 (q.getD j 0)) := ints_get hj
      rw [h1, Array.getElem?_toList]
      exact a3 j _ h1
    · have h1 : arr.toList.length ≤ j := by rw [Array.length_toList, a2]; show nb ≤ j; omega
      rw [List.getElem?_eq_none h1, List.getElem?_eq_none (by rw [ints_length]; omega)]
  obtain ⟨xi, x1, x2, _⟩ := (hT e ei he).info
  have hrun : (execOp (ev f) ⟨some d, .call ⟨.builtin .copy, #[x, y], #[t, u]⟩, ty, pos, aft, none⟩).run P w = .ok (.value (.int .i64 m)) (w.setRow bt (ints (q.take o ++ cs ++ q.drop (o + m))).toArray) := by
    have hc := run_copy_row P w t u ty e bt o m cx a m cy arr eb (ints cs) (hT.slice ht) (by rw [x1]; show some xi.size = _; rw [x2, hs]) a1 (by rw [ints_length, hm]; exact (Nat.min_self m).symm) (hsrc w hg) (by rw [ints_length, a2]; show o + cs.length ≤ nb; omega) ints_one
    have hcc : (execOp (ev f) ⟨some d, .call ⟨.builtin .copy, #[x, y], #[t, u]⟩, ty, pos, aft, none⟩).run P w = .ok (.value (goInt (ints cs).length)) (w.setRow bt (arr.toList.take o ++ ints cs ++ arr.toList.drop (o + (ints cs).length)).toArray) := by
      unfold execOp
      simp only [resolve, invoke, builtin, Sem.run_bind, Sem.run_pure, Result.andThen_ok, List.map_toArray, List.map_cons, List.map_nil, hx, hy, hc]
    rw [hcc, hlst]
    have e2 : (ints q).take o ++ ints cs ++ (ints q).drop (o + (ints cs).length) = ints (q.take o ++ cs ++ q.drop (o + m)) := by
      simp [ints, hm]
    rw [e2, ints_length, hm]; rfl
  rw [hrun]
  have hfr : Fr [bt] w (w.setRow bt (ints (q.take o ++ cs ++ q.drop (o + m))).toArray) := ⟨rfl, rfl, rfl, Nat.le_refl _, by simp, fun c hc hne => setRow_other w bt c _ (by simpa using hne)⟩
  refine ⟨_, hg.write (k' := ⟨ints (q.take o ++ cs ++ q.drop (o + m)), eb, nb, none⟩) hi hfr (Blk.ofRow ⟨(ints (q.take o ++ cs ++ q.drop (o + m))).toArray, setRow_heap w bt arr _ _ _ a1, ?_, fun j v hv => by simpa using hv⟩), ⟨hfr.mono (fun x hx => by
    have e : x = bt := by simpa using hx
    rw [e]; exact ids_mem hmem), fun c hc => .inl (by rwa [ids_set hi] at hc)⟩, kk⟩
  show (ints (q.take o ++ cs ++ q.drop (o + m))).toArray.size = nb
  simp [ints]; omega
variable {base : Own} {L : List Nat} {listed : Array Bool}
/-- .. in drawn regions. -/
theorem vd_rowCut (n : Nat) (hT : TyOk P T) {i d t e a0 b0 : Nat} {g : Option (Nat × Bool)} {z0 : List Value} {ei : TI} {x hi mx : Operand} {bt o len c : Nat} {kh km : IntKind} {h' m' : Int}
    (ho : ops[i]? = some ⟨some d, .slice t x none (some hi) (some mx), ty, pos, aft, g⟩) (hg : GOn ops f g) (ht : T t = some ⟨.slice e, a0, b0, z0⟩) (he : T e = some ei) (hx : ev f x = .slice (some ⟨bt, o, none⟩) len c) (hh : ev f hi = .int kh h') (hm : ev f mx = .int km m')
    (hr : (Region.ready .any ops listed).contains i = true) (hf : Region.free .any ops listed i = true) (hh' : h' = (n : Int)) (hm' : m' = (n : Int)) (hc : n ≤ c)
    (k : VD P Γ ops base Q L (listed.setIfInBounds i true) (upd f d (.slice (some ⟨bt, o, none⟩) n n)) own) : VD P Γ ops base Q (i :: L) listed f own := by
  subst hh'; subst hm'
  refine vd_run ho hg (x_slice3n hT ht he hx hh hm (by omega)) hr hf ?_
  simp only [Int.toNat_natCast]
  have : sliced (some ⟨bt, o, none⟩) 0 n n ei.size = .slice (some ⟨bt, o, none⟩) n n := by
    unfold sliced
    split <;> simp [Addr.add_lit]
  rw [this]
  exact k
theorem vd_restCut (n : Nat) (hT : TyOk P T) {i d t e a0 b0 : Nat} {g : Option (Nat × Bool)} {z0 : List Value} {ei : TI} {x lo : Operand} {bt o len c : Nat} {kl : IntKind} {l' : Int}
    (ho : ops[i]? = some ⟨some d, .slice t x (some lo) none none, ty, pos, aft, g⟩) (hg : GOn ops f g) (ht : T t = some ⟨.slice e, a0, b0, z0⟩) (he : T e = some ei) (hs : ei.size = 1) (hx : ev f x = .slice (some ⟨bt, o, none⟩) len c) (hl : ev f lo = .int kl l')
    (hr : (Region.ready .any ops listed).contains i = true) (hf : Region.free .any ops listed i = true) (hl' : l' = (n : Int)) (hn : n ≤ len) (hc : len ≤ c)
    (k : VD P Γ ops base Q L (listed.setIfInBounds i true) (upd f d (.slice (some ⟨bt, if c = n then o else o + n, none⟩) (len - n) (c - n))) own) : VD P Γ ops base Q (i :: L) listed f own := by
  subst hl'
  refine vd_run ho hg (x_slice (l := n) (h := len) hT ht he hx (by simp [bnd, hl]) rfl (by omega)) hr hf ?_
  rw [hs]
  simp only [Int.toNat_natCast]
  have : sliced (some ⟨bt, o, none⟩) n len c 1 = .slice (some ⟨bt, if c = n then o else o + n, none⟩) (len - n) (c - n) := by
    unfold sliced
    split <;> simp [Addr.add_lit]
  rw [this]
  exact k
end
end Go.VL
