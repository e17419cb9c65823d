import Derived.Test.YtnammdmiljjhjaaVLBuild
/-! Slices of slices, struct literals, appends of whole lists. -/
namespace Go.VL
open Go.RowKit

def bnd (ρ : Operand → Value) (o : Option Operand) (d : Int) : Option Int := match o with
  | none => some d
  | some x => match ρ x with | .int _ i => some i | _ => none

section
variable {P : Program} {T : Nat → Option TI} {Γ : Ctx} {ops : Array Oper} {Q : (Nat → Value) → Own → Prop} {rest : List Oper} {f : Nat → Value} {own own' : Own}
variable {ty : TypeId} {pos : String} {aft : Array Edge}

theorem vops_run {d : Nat} {op : Op} {v : Value} (h : ∀ w, (execOp (ev f) ⟨some d, op, ty, pos, aft, none⟩).run P w = .ok (.value v) w) (k : VOps P Γ ops Q rest (upd f d v) own) :
    VOps P Γ ops Q (⟨some d, op, ty, pos, aft, none⟩ :: rest) f own :=
  vops_go fun w hg => by rw [h w]; exact ⟨own, hg, stay w, k⟩
theorem vd_run {base : Own} {L : List Nat} {listed : Array Bool} {i d : Nat} {g : Option (Nat × Bool)} {op : Op} {v : Value} (ho : ops[i]? = some ⟨some d, op, ty, pos, aft, g⟩) (hg : GOn ops f g) (h : ∀ w, (execOp (ev f) ⟨some d, op, ty, pos, aft, g⟩).run P w = .ok (.value v) w)
    (hr : (Region.ready .any ops listed).contains i = true) (hf : Region.free .any ops listed i = true) (k : VD P Γ ops base Q L (listed.setIfInBounds i true) (upd f d v) own) : VD P Γ ops base Q (i :: L) listed f own :=
  ⟨_, ho, hr, .inl ⟨hf, v, qy_of_run hg fun w _ => h w, k⟩⟩

theorem x_slice (hT : TyOk P T) {t e a0 b0 : Nat} {z0 : List Value} {ei : TI} {x : Operand} {lo hi : Option Operand} {a : Option Addr} {n c : Nat} {l h : Int} {d : Option Tmp} {g : Option (Nat × Bool)}
    (ht : T t = some ⟨.slice e, a0, b0, z0⟩) (he : T e = some ei) (hx : ev f x = .slice a n c) (hl : bnd (ev f) lo 0 = some l) (hh : bnd (ev f) hi n = some h) (hc : 0 ≤ l ∧ l ≤ h ∧ h ≤ (c : Int)) (w : World) :
    (execOp (ev f) ⟨d, .slice t x lo hi none, ty, pos, aft, g⟩).run P w = .ok (.value (sliced a l.toNat h.toNat c ei.size)) w := by
  have hu := hT.slice ht
  have hel : P.elem t = e := by simp [Program.elem, hu]
  have hu' : P.underlying t = some (.slice (P.elem t)) := by rw [hel]; exact hu
  have hs := hT.size he w
  obtain ⟨h0, h1, h2⟩ := hc
  have eh : (h.toNat : Int) = h := Int.toNat_of_nonneg (by omega)
  have e1 : (if h = -1 then (-1 : Int) else h) = h := by split <;> omega
  show ((Instr.sliceAt t (ev f x) (lo.map (ev f)) (hi.map (ev f)) none) >>= fun v => pure (Next.value v)).run P w = _
  rw [run_val, hx, run_sliceAt_slice (h := hu'), run_slice_any (ht := hu'), hel]
  have hb : (Instr.sliceBounds true n c (lo.map (ev f)) (hi.map (ev f)) none).run P w = .ok (l.toNat, h.toNat, c) w := by
    cases lo with
    | none =>
      simp only [bnd, Option.some.injEq] at hl
      subst hl
      cases hi with
      | none => simp only [bnd, Option.some.injEq] at hh; subst hh; simp [Instr.sliceBounds]
      | some y =>
        simp only [bnd] at hh
        split at hh
        · rename_i k i hy
          simp only [Option.some.injEq] at hh; subst hh
          simp [Instr.sliceBounds, hy, run_sliceBound, h1, h2]
        · cases hh
    | some z =>
      simp only [bnd] at hl
      split at hl
      · rename_i kz iz hz
        simp only [Option.some.injEq] at hl; subst hl
        cases hi with
        | none => simp only [bnd, Option.some.injEq] at hh; subst hh; simp [Instr.sliceBounds, hz, run_sliceBound, h0, h1]
        | some y =>
          simp only [bnd] at hh
          split at hh
          · rename_i k i hy
            simp only [Option.some.injEq] at hh; subst hh
            simp [Instr.sliceBounds, hy, hz, run_sliceBound, h0, h1, h2, eh, show 0 ≤ i by omega]
          · cases hh
      · cases hl
  rw [hb]
  simp only [Result.andThen_ok, hs]

theorem x_build (cells : Array Value) {t : Nat} {ps : List (Nat × Operand)} {vs : List (Nat × Value)} {d : Option Tmp} {g : Option (Nat × Bool)} (hv : ps.map (fun x => (x.1, ev f x.2)) = vs) (hb : P.built t vs = some cells) (w : World) :
    (execOp (ev f) ⟨d, .build t ps.toArray, ty, pos, aft, g⟩).run P w = .ok (.value (.agg cells)) w := by
  have hpp : (ps.toArray.map fun (x : Nat × Operand) => (x.1, ev f x.2)).toList = vs := by rw [List.map_toArray]; exact hv
  have := run_build (P := P) w t (ps.toArray.map fun (x : Nat × Operand) => (x.1, ev f x.2)) cells (by rw [hpp]; exact hb)
  unfold execOp
  simp only [Sem.run_bind, this, Result.andThen_ok]; rfl
theorem x_build2 {t : Nat} {x y : Operand} {v0 v1 : Value} {d : Option Tmp} {g : Option (Nat × Bool)} (h0 : force (ev f x) = some v0) (h1 : force (ev f y) = some v1) (hb : P.built t [(0, v0), (1, v1)] = some #[v0, v1]) (w : World) :
    (execOp (ev f) ⟨d, .build t #[(0, x), (1, y)], ty, pos, aft, g⟩).run P w = .ok (.value (.agg #[v0, v1])) w :=
  x_build (ps := [(0, x), (1, y)]) #[v0, v1] (by rw [← force_eq h0, ← force_eq h1]; rfl) hb w
theorem x_build0 {t : Nat} {i : TI} {d : Option Tmp} {g : Option (Nat × Bool)} (_ht : T t = some i) (hb : P.built t [] = some i.zero.toArray) (w : World) :
    (execOp (ev f) ⟨d, .build t #[], ty, pos, aft, g⟩).run P w = .ok (.value (.agg i.zero.toArray)) w :=
  x_build (ps := []) _ rfl hb w

theorem vops_slice (hT : TyOk P T) {d t e a0 b0 : Nat} {z0 : List Value} {ei : TI} {x : Operand} {lo hi : Option Operand} {a : Option Addr} {n c : Nat} {l h : Int}
    (ht : T t = some ⟨.slice e, a0, b0, z0⟩) (he : T e = some ei) (hx : ev f x = .slice a n c) (hl : bnd (ev f) lo 0 = some l) (hh : bnd (ev f) hi n = some h) (hc : 0 ≤ l ∧ l ≤ h ∧ h ≤ (c : Int))
    (k : VOps P Γ ops Q rest (upd f d (sliced a l.toNat h.toNat c ei.size)) own) : VOps P Γ ops Q (⟨some d, .slice t x lo hi none, ty, pos, aft, none⟩ :: rest) f own := vops_run (x_slice hT ht he hx hl hh hc) k
theorem vops_build2 {d t : Nat} {x y : Operand} {v0 v1 : Value} (h0 : force (ev f x) = some v0) (h1 : force (ev f y) = some v1) (hb : P.built t [(0, v0), (1, v1)] = some #[v0, v1])
    (k : VOps P Γ ops Q rest (upd f d (.agg #[v0, v1])) own) : VOps P Γ ops Q (⟨some d, .build t #[(0, x), (1, y)], ty, pos, aft, none⟩ :: rest) f own := vops_run (x_build2 h0 h1 hb) k
theorem vops_buildZ (hT : TyOk P T) {d t : Nat} {i : TI} (ht : T t = some i) (hb : P.built t [] = some i.zero.toArray)
    (k : VOps P Γ ops Q rest (upd f d (.agg i.zero.toArray)) own) : VOps P Γ ops Q (⟨some d, .build t #[], ty, pos, aft, none⟩ :: rest) f own := (fun _ => vops_run (x_build0 ht hb) k) hT
theorem vd_slice (hT : TyOk P T) {base : Own} {L : List Nat} {listed : Array Bool} {i d : Nat} {g : Option (Nat × Bool)} {t e a0 b0 : Nat} {z0 : List Value} {ei : TI} {x : Operand} {lo hi : Option Operand} {a : Option Addr} {n c : Nat} {l h : Int}
    (ho : ops[i]? = some ⟨some d, .slice t x lo hi none, ty, pos, aft, g⟩) (hg : GOn ops f g) (ht : T t = some ⟨.slice e, a0, b0, z0⟩) (he : T e = some ei) (hx : ev f x = .slice a n c) (hl : bnd (ev f) lo 0 = some l) (hh : bnd (ev f) hi n = some h)
    (hr : (Region.ready .any ops listed).contains i = true) (hf : Region.free .any ops listed i = true) (hc : 0 ≤ l ∧ l ≤ h ∧ h ≤ (c : Int)) (k : VD P Γ ops base Q L (listed.setIfInBounds i true) (upd f d (sliced a l.toNat h.toNat c ei.size)) own) : VD P Γ ops base Q (i :: L) listed f own :=
  vd_run ho hg (x_slice hT ht he hx hl hh hc) hr hf k
theorem vd_build2 {base : Own} {L : List Nat} {listed : Array Bool} {i d : Nat} {g : Option (Nat × Bool)} {t : Nat} {x y : Operand} {v0 v1 : Value}
    (ho : ops[i]? = some ⟨some d, .build t #[(0, x), (1, y)], ty, pos, aft, g⟩) (hg : GOn ops f g) (h0 : force (ev f x) = some v0) (h1 : force (ev f y) = some v1) (hb : P.built t [(0, v0), (1, v1)] = some #[v0, v1])
    (hr : (Region.ready .any ops listed).contains i = true) (hf : Region.free .any ops listed i = true) (k : VD P Γ ops base Q L (listed.setIfInBounds i true) (upd f d (.agg #[v0, v1])) own) : VD P Γ ops base Q (i :: L) listed f own :=
  vd_run ho hg (x_build2 h0 h1 hb) hr hf k

/-- Nothing is appended. -/
theorem vops_appendZ (hT : TyOk P T) {d t e a b n c m c2 : Nat} {z : List Value} {x y : Operand} {ei : TI} {p q : Option Addr} (ht : T t = some ⟨.slice e, a, b, z⟩) (he : T e = some ei)
    (hx : ev f x = .slice p n c) (hy : ev f y = .slice q m c2) (hm : m = 0) (hnc : n ≤ c) (k : VOps P Γ ops Q rest (upd f d (.slice p n c)) own) :
    VOps P Γ ops Q (⟨some d, .call ⟨.builtin .append, #[x, y], #[t, t]⟩, ty, pos, aft, none⟩ :: rest) f own :=
  vops_run (fun w => by
    subst hm
    have hs := hT.size he w
    have : (Builtin.append_ #[t, t] ty #[ev f x, ev f y]).run P w = .ok (.slice p n c) w := by
      rw [hx, hy]
      cases p <;> cases q <;> simp [Builtin.append_, run_underlying (hT.slice ht), hs, Builtin.lenOf, Builtin.firstCells, hnc, storeCells, loadCells, loadCellsFrom]
    unfold execOp
    simp only [resolve, invoke, builtin, Sem.run_bind, Sem.run_pure, Result.andThen_ok, List.map_toArray, List.map_cons, List.map_nil, this]) k
theorem vops_have {d : Option Tmp} {op : Op} {l : List Oper} (h : ∀ w, Good Γ own w → VOps P Γ ops Q (⟨d, op, ty, pos, aft, none⟩ :: l) f own) : VOps P Γ ops Q (⟨d, op, ty, pos, aft, none⟩ :: l) f own :=
  fun w hg => h w hg w hg
/-- A list behind a list of one's own. -/
theorem vops_appendL {k : Nat} (hT : TyOk P T) {d t e a b : Nat} {z : List Value} {x y : Operand} {ei : TI} {n m c : Nat} {q q2 : List Int} {v0 : Value} {pa : Option Addr} {new R : Own}
    (ht : T t = some ⟨.slice e, a, b, z⟩) (he : T e = some ei) (hz : ei.zero ≠ []) (hzl : ei.zero.length = ei.size) (hk : ei.size = k) (hbt : ei.bytes ≤ 1000)
    (hx : ev f x = v0) (hN : NewF e k n q v0 new) (hp : own.Perm (new ++ R))
    (hy : ev f y = .slice pa m c) (hrd : See Γ own (fun w => RdF w k m (.slice pa m c) q2)) (hn : n + m ≤ 1073741824)
    (kk : ∀ p cap new', NewF e k (n + m) (q ++ q2) (.slice p (n + m) cap) new' → VOps P Γ ops Q rest (upd f d (.slice p (n + m) cap)) (new' ++ R)) :
    VOps P Γ ops Q (⟨some d, .call ⟨.builtin .append, #[x, y], #[t, t]⟩, ty, pos, aft, none⟩ :: rest) f own := by
  subst hk
  refine vops_have fun w0 hg0 => ?_
  by_cases hm : m = 0
  · have hq2 : q2 = [] := by
      rcases hrd w0 hg0 with ⟨_, _, _, _, h⟩ | ⟨_, _, _, _, h, _⟩
      · exact h
      · exact List.eq_nil_of_length_eq_zero (by rw [h, hm, Nat.zero_mul])
    obtain ⟨p0, c0, hv0⟩ := hN.form
    subst hv0
    have hnc : n ≤ c0 := by
      rcases hN.2 with ⟨_, h, _⟩ | ⟨_, _, h1, h2, _⟩
      · omega
      · cases h1; exact h2
    refine vops_perm hp (vops_appendZ hT ht he hx hy hm hnc ?_)
    have := kk p0 c0 new (by rw [hq2, List.append_nil, hm]; exact hN)
    rwa [hm] at this
  · obtain ⟨b', o', cap', heq, hlen, hcell⟩ := (hrd w0 hg0).at (i := 0) (by omega)
    cases heq
    refine vops_appendM (cells := ints q) (news := ints q2) hT hx hN hp ht he hz hzl hy (by rw [ints_length, hlen]) (fun j v hj w hg => ?_) ints_one (by omega) (by simp only [maxLen]; omega) ?_ (fun v new' h => ?_)
    · obtain ⟨b2, o2, cap2, heq2, hlen2, hcell2⟩ := (hrd w hg).at (i := 0) (by omega)
      cases heq2
      have hjl : j < q2.length := by rw [← ints_length]; exact (List.getElem?_eq_some_iff.1 hj).1
      rw [ints_get hjl] at hj
      cases hj
      exact hcell2 j (by omega)
    · calc (n + m) * ei.bytes ≤ 1073741824 * 1000 := Nat.mul_le_mul (by omega) hbt
        _ ≤ _ := by omega
    · obtain ⟨p, cap, rfl⟩ := h.form
      refine kk p cap new' ?_
      have : ints (q ++ q2) = ints q ++ ints q2 := by simp [ints]
      unfold NewF; rw [this]; exact h
theorem rdS_f {w : World} {k : Nat} {v : Value} {rs : List (List Int)} (h : RdS w v rs) (hk : ∀ r ∈ rs, r.length = k) : RdF w k rs.length v rs.flatten := by
  rcases h with ⟨a, cap, h1, h2⟩ | ⟨b, o, cap, h1, h2⟩
  · subst h2; exact .inl ⟨a, cap, h1, rfl, rfl⟩
  · exact .inr ⟨b, o, cap, h1, flat_length hk, h2⟩
theorem NewF.r {e k n m : Nat} {q : List Int} {rs : List (List Int)} {v : Value} {new : Own} (h : NewF e k n q v new) (hn : n = rs.length) (hq : q = rs.flatten) : NewR e k rs v new := by
  subst hn; subst hq; have _ := m; exact h
/-- A part of a list. -/
theorem RdS.part {w : World} {k : Nat} {a : Option Addr} {n c : Nat} {rs : List (List Int)} (h : RdS w (.slice a n c) rs) (hk : ∀ r ∈ rs, r.length = k) (hn : n = rs.length) {l u : Nat} (hlu : l ≤ u) (hu : u ≤ n) (hc : n ≤ c) :
    RdS w (sliced a l u c k) ((rs.take u).drop l) := by
  subst hn
  have hlen : ((rs.take u).drop l).length = u - l := by simp; omega
  unfold sliced
  by_cases hcl : c = l
  · rw [if_pos hcl]
    have : u - l = 0 := by omega
    refine .inl ⟨_, _, by rw [this], List.eq_nil_of_length_eq_zero (by omega)⟩
  · rw [if_neg hcl]
    rcases h with ⟨a', cap, hv, hrs⟩ | ⟨b, o, cap, hv, hcell⟩
    · subst hrs
      have h0 : u = 0 := by simpa using hu
      subst h0
      exact .inl ⟨_, _, by rw [Nat.zero_sub], by simp⟩
    · cases hv
      refine .inr ⟨b, o + l * k, c - l, by rw [hlen, Option.map_some, Addr.add_lit], fun j x hx => ?_⟩
      rw [Nat.add_assoc]
      refine hcell (l * k + j) x ?_
      have hT : (rs.take u).flatten = ((rs.take u).take l).flatten ++ ((rs.take u).drop l).flatten := by rw [← List.flatten_append, List.take_append_drop]
      have hR : rs.flatten = (rs.take u).flatten ++ (rs.drop u).flatten := by rw [← List.flatten_append, List.take_append_drop]
      have hl1 : ((rs.take u).take l).flatten.length = l * k := by
        rw [flat_length (k := k) (fun r hr => hk r (List.mem_of_mem_take (List.mem_of_mem_take hr)))]
        rw [List.length_take, List.length_take]; congr 1; omega
      unfold ints at hx ⊢
      rw [List.getElem?_map] at hx ⊢
      rw [hR, hT, List.append_assoc, List.getElem?_append_right (by omega), hl1, Nat.add_sub_cancel_left, List.getElem?_append_left]
      · exact hx
      · by_cases hj : j < ((rs.take u).drop l).flatten.length
        · exact hj
        · rw [List.getElem?_eq_none (by omega)] at hx; cases hx
end
end Go.VL

namespace Go.VL
section
variable {P : Program} {T : Nat → Option TI} {Γ : Ctx} {f : Nat → Value} {own : Own}
/-- Two results: a schedule, and a code. -/
def PairS (e : Nat) (r : (Int × List (List Int)) × Int) (v : Value) (new : Own) : Prop := ∃ p cap, v = .tuple #[.agg #[.int .i64 r.1.1, .slice p r.1.2.length cap], .int .i64 r.2] ∧ NewR e 14 r.1.2 (.slice p r.1.2.length cap) new
theorem pairS_ok (hT : TyOk P T) {e e' m n p t u b : Nat} {ti : TI} {fn : Func} {c len cap : Nat} {nn cd : Int} {q : Option Addr} {rs : List (List Int)} {r : (Int × List (List Int)) × Int} {new : Own} (h : fn.results = #[.cell p t, .tmp u]) (ht : T t = some ti) (ha : ti.isAgg = true) (hsz : ti.size = 2)
    (hp : f p = .pointer (some ⟨b, 0, none⟩)) (hm : (b, (⟨[.int .i64 nn, .slice q len cap], e', m, none⟩ : Blk)) ∈ own) (hx : f u = .int .i64 cd) (hl : len = rs.length) (hN : NewR e 14 rs (.slice q len cap) new) (hs : Sub new own) (hr : r = ((nn, rs), cd)) : Out P Γ n fn (PairS e r) .ret f own := by
  have _ := c
  subst hl; subst hr
  exact ⟨_, new, rv_cell2 (cs := [.int .i64 nn, .slice q rs.length cap]) hT h hp ht ha hsz.symm (fun j v hj => by rw [Nat.zero_add]; exact sees_mem hm hj) hx, SlAt.nodup hN, hs, q, cap, rfl, hN⟩
theorem pairS_err (hT : TyOk P T) {e e' m n p t u b : Nat} {ti : TI} {fn : Func} {cd : Int} {r : (Int × List (List Int)) × Int} (h : fn.results = #[.cell p t, .tmp u]) (ht : T t = some ti) (ha : ti.isAgg = true) (hsz : ti.size = 2)
    (hp : f p = .pointer (some ⟨b, 0, none⟩)) (hm : (b, (⟨[.int .i64 0, .slice none 0 0], e', m, none⟩ : Blk)) ∈ own) (hx : f u = .int .i64 cd) (hr : r = ((0, []), cd)) : Out P Γ n fn (PairS e r) .ret f own :=
  pairS_ok (c := 0) hT h ht ha hsz hp hm hx (rs := []) rfl SlAt.nil sub_nil hr
end
end Go.VL
