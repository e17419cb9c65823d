import Derived.Test.YtlfflmoegfibgaaVLLol
import Derived.Test.YtlfflmoegfibgaaVLPanic
import Derived.Test.YtlfflmoegfibgaaVLBA
import Derived.Laws.StructEq
import Derived.Laws.Small
/-! Arguments that are a number and rows of numbers; structs of two numbers; quotients, the lesser and the greater of two, slices with three indexes. -/
namespace Go.VL
open Go.RowKit Go.ChangeShapes Go.WideShapes Go.ChangeAt

/-- n is a number of 64 bits. -/
def In64 (n : Int) : Prop := -9223372036854775808 ≤ n ∧ n ≤ 9223372036854775807
theorem in64_of_wf {n : Int} (h : (Lit.int .i64 n).wf = true) : In64 n := by
  have e1 : IntKind.i64.min = -9223372036854775808 := by rfl
  have e2 : IntKind.i64.max = 9223372036854775807 := by rfl
  simp only [Lit.wf, e1, e2, Bool.and_eq_true, decide_eq_true_eq] at h
  exact h

section
variable {H : Type} {enc : TypeId × Value → H} {P : Program} {T : Nat → Option TI} {w : World} {spare : Nat → Bool} {held : Bool}
theorem rdI64_of_trod (hT : TyOk P T) {t e a0 b0 b2 : Nat} {z0 z2 : List Value} (hts : T t = some ⟨.slice e, a0, b0, z0⟩) (he : T e = some ⟨.int .i64, 1, b2, z2⟩) {fuel : Nat} {cs : List Value} {x : DataW H × List MemPlace}
    (h : DataW.trod enc P w 0 spare held fuel t cs = some x) : ∃ v l, cs = [v] ∧ RdI w v l ∧ l.length ≤ maxLen ∧ ∀ n ∈ l, In64 n := by
  have hue := hT.und he (d := .int .i64) (fun d' hd' => hd')
  obtain ⟨v, ys, h1, h2, h3⟩ := rdL_of_trod (R := fun _ v y => v = .int .i64 y ∧ In64 y) hT hts (hT.cells he) (fun hc => by
    obtain ⟨k, hk, _, hw⟩ := DataW.trod_int hue hc
    exact ⟨_, k, hk, rfl, in64_of_wf hw⟩) h
  obtain ⟨vs, g1, g2, g3⟩ := h2
  refine ⟨v, ys, h1, rdI_of_L ⟨vs, g1, fun i u y hu hy => (g2 i u y hu hy).1, g3⟩, h3, fun n hn => ?_⟩
  obtain ⟨i, hi⟩ := List.mem_iff_getElem?.1 hn
  have hlt := (List.getElem?_eq_some_iff.1 hi).1
  obtain ⟨u, hu⟩ : ∃ u, vs[i]? = some u := ⟨_, List.getElem?_eq_getElem (by omega)⟩
  exact (g2 i u n hu hi).2
theorem rdII64_of_trod (hT : TyOk P T) {t u e a0 b0 b1 b2 : Nat} {z0 z1 z2 : List Value} (hts : T t = some ⟨.slice u, a0, b0, z0⟩) (hu : T u = some ⟨.slice e, 1, b1, z1⟩) (he : T e = some ⟨.int .i64, 1, b2, z2⟩) {fuel : Nat} {cs : List Value} {x : DataW H × List MemPlace}
    (h : DataW.trod enc P w 0 spare held fuel t cs = some x) : ∃ v ls, cs = [v] ∧ RdII w v ls ∧ ls.length ≤ maxLen ∧ (∀ l ∈ ls, l.length ≤ maxLen) ∧ ∀ l ∈ ls, ∀ n ∈ l, In64 n := by
  obtain ⟨v, ys, h1, h2, h3⟩ := rdL_of_trod (R := fun w v l => RdI w v l ∧ l.length ≤ maxLen ∧ ∀ n ∈ l, In64 n) hT hts (hT.cells hu) (fun hc => by
    obtain ⟨v, l, h1, h2, h3, h4⟩ := rdI64_of_trod hT hu he hc
    exact ⟨v, l, h1, h2, h3, h4⟩) h
  obtain ⟨vs, g1, g2, g3⟩ := h2
  have key : ∀ q ∈ ys, q.length ≤ maxLen ∧ ∀ n ∈ q, In64 n := fun q hq => by
    obtain ⟨i, hi⟩ := List.mem_iff_getElem?.1 hq
    have hlt := (List.getElem?_eq_some_iff.1 hi).1
    obtain ⟨u, hu⟩ : ∃ u, vs[i]? = some u := ⟨_, List.getElem?_eq_getElem (by omega)⟩
    exact (g2 i u q hu hi).2
  exact ⟨v, ys, h1, ⟨vs, g1, fun i u y hu hy => (g2 i u y hu hy).1, g3⟩, h3, fun q hq => (key q hq).1, fun q hq => (key q hq).2⟩
/-- The argument is a square: a number and its rows. -/
theorem o_square (hT : TyOk P T) {t s u e ty2 : Nat} {a1 b1 b0 b2 b3 b4 base : Nat} {z1 z0 z z2 z3 : List Value} (hst : T t = some ⟨.struct [(0, ty2), (1, s)], a1, b1, z1⟩) (hi : T ty2 = some ⟨.int .i64, 1, b3, z3⟩)
    (hts : T s = some ⟨.slice u, 1, b0, z0⟩) (hu : T u = some ⟨.slice e, 1, b4, z⟩) (he : T e = some ⟨.int .i64, 1, b2, z2⟩) (ha1 : a1 = 2) {v : Value} {r : Reach} {d : DataW H} {ps : List MemPlace}
    (hok : Value.okWide P w r base t v) (h : DataW.Trod enc P w 0 spare held t v d ps) : ∃ m sl ls, v = .agg #[.int .i64 m, sl] ∧ RdII w sl ls ∧ ls.length ≤ maxLen ∧ (∀ l ∈ ls, l.length ≤ maxLen) ∧ In64 m ∧ ∀ l ∈ ls, ∀ n ∈ l, In64 n := by
  obtain ⟨fuel, hf⟩ := h
  obtain ⟨dd, hd, fields, rfl, hfs⟩ := (hT t _ hst).desc
  obtain ⟨l⟩ := fields
  have hl2 : l.length = 2 := by simpa using congrArg List.length hfs
  match l, hl2 with
  | [f0, f1], _ =>
    simp only [List.map_cons, List.map_nil, List.cons.injEq, Prod.mk.injEq, and_true] at hfs
    obtain ⟨⟨h00, h01⟩, h10, h11⟩ := hfs
    unfold Value.okWide at hok
    rw [hd] at hok
    obtain ⟨cs, rfl, _, _⟩ := hok
    obtain ⟨y0, y1, m, _, hl, hy0, hy1⟩ := trod_struct2 hd hf
    rw [h00, h01, hT.cells hi] at hy0
    rw [h10, h11, hT.cells hts] at hy1
    rw [hT.cells hst] at hl
    obtain ⟨q, hq, _, hw⟩ := DataW.trod_int (hT.und hi (d := .int .i64) (fun _ h => h)) hy0
    obtain ⟨sl, rs, hsl, hr1, hrm, hr2, hr3⟩ := rdII64_of_trod hT hts hu he hy1
    refine ⟨q, sl, rs, ?_, hr1, hrm, hr2, in64_of_wf hw, hr3⟩
    have hl2 : cs.toList.length = 2 := by have : cs.toList.length = a1 := hl; omega
    have hq' : (cs.toList.drop 0).take 1 = [.int .i64 q] := hq
    have hs' : (cs.toList.drop 1).take 1 = [sl] := hsl
    obtain ⟨cl⟩ := cs
    match cl, hl2 with
    | [c0, c1], _ =>
      simp only [List.drop_zero, List.drop_succ_cons, List.take_succ_cons, List.take_zero, List.cons.injEq, and_true] at hq' hs'
      rw [hq', hs']
end

/-- A struct of two numbers. -/
abbrev cellV (a b : Int) : Value := .agg #[.int .i64 a, .int .i64 b]
/-- t is a struct of two numbers of the type e. -/
def twoNums (P : Program) (t e : Nat) : Bool := !P.stoodInHeld t && match P.underlying t with
  | some (.struct fs) => match fs.toList with
    | [f0, f1] => f0.name != "_" && f1.name != "_" && f0.offset == 0 && f1.offset == 1 && f0.type == e && f1.type == e
    | _ => false
  | _ => false
theorem run_equalIn_two {P : Program} {T : Nat → Option TI} (hT : TyOk P T) (w : World) (d t e : Nat) (a b a' b' : Int) {z : List Value} {c1 c2 : Nat} (ht : twoNums P t e = true) (he : T e = some ⟨.int .i64, c1, c2, z⟩) :
    (Op.equalIn (d + 2) t (cellV a b) (cellV a' b')).run P w = .ok (decide (a = a' ∧ b = b')) w := by
  have hue := hT.und he (d := .int .i64) (fun d' hd' => hd')
  simp only [twoNums, Bool.and_eq_true, Bool.not_eq_true'] at ht
  obtain ⟨hp, ht⟩ := ht
  split at ht
  · rename_i fs hu
    split at ht
    · rename_i f0 f1 hfs
      simp only [Bool.and_eq_true, bne_iff_ne, beq_iff_eq] at ht
      obtain ⟨⟨⟨⟨⟨n0, n1⟩, o0⟩, o1⟩, t0⟩, t1⟩ := ht
      have hfo : P.fieldsOf t = fs := by simp [Program.fieldsOf, hu]
      rw [run_equalIn_struct w (d + 1) t _ _ (by rw [hfo]; exact hu) hp, hfo, hfs]
      have hpart : ∀ (x y : Int) (i : Nat) (v : Value), #[Value.int .i64 x, Value.int .i64 y][i]? = some v → (Go.part e #[Value.int .i64 x, Value.int .i64 y] i).run P w = .ok v w := fun x y i v hv => by
        unfold Go.part
        rw [Sem.run_bind, isAgg_plain hT he rfl, Result.andThen_ok]
        simp [hv]
      simp only [Op.eqFields, n0, n1, ne_eq, not_false_eq_true, if_true, o0, o1, t0, t1]
      rw [Sem.run_bind, hpart a b 0 (.int .i64 a) rfl, Result.andThen_ok, Sem.run_bind, hpart a' b' 0 (.int .i64 a') rfl, Result.andThen_ok, Sem.run_bind, run_equalIn_int w d e .i64 .i64 a a' hue, Result.andThen_ok]
      by_cases h0 : a = a'
      · subst h0
        simp only [beq_self_eq_true, Bool.not_true, Bool.false_eq_true, if_false, true_and]
        rw [Sem.run_bind, hpart a b 1 (.int .i64 b) rfl, Result.andThen_ok, Sem.run_bind, hpart a b' 1 (.int .i64 b') rfl, Result.andThen_ok, Sem.run_bind, run_equalIn_int w d e .i64 .i64 b b' hue, Result.andThen_ok]
        by_cases h1 : b = b'
        · subst h1; simp
        · simp [h1]
      · simp [h0]
    · cases ht
  · cases ht

section
variable {P : Program} {T : Nat → Option TI} {Γ : Ctx} {ops : Array Oper} {Q : (Nat → Value) → Own → Prop} {rest : List Oper} {f : Nat → Value} {own : Own}
variable {ty : TypeId} {pos : String} {aft : Array Edge}
theorem run_eq_two (hT : TyOk P T) {t e : Nat} {a b a' b' : Int} {z : List Value} {c1 c2 : Nat} (ht : twoNums P t e = true) (he : T e = some ⟨.int .i64, c1, c2, z⟩) (hg : P.eqGuardType P.depth t = false) (x y : Operand) (w : World) :
    (do eqGuard .eql t x y (cellV a b) (cellV a' b'); binOp .eql t (cellV a b) (cellV a' b') : Sem Value).run P w = .ok (.bool (decide (a = a' ∧ b = b'))) w := by
  rw [Sem.run_bind, run_eqGuard_agg _ _ _ _ _ _ _ hg, Result.andThen_ok, run_eql_struct, show (10000 : Nat) = 9998 + 2 from rfl, run_equalIn_two hT w 9998 t e _ _ _ _ ht he]; rfl
theorem run_ne_two (hT : TyOk P T) {t e : Nat} {a b a' b' : Int} {z : List Value} {c1 c2 : Nat} (ht : twoNums P t e = true) (he : T e = some ⟨.int .i64, c1, c2, z⟩) (hg : P.eqGuardType P.depth t = false) (x y : Operand) (w : World) :
    (do eqGuard .neq t x y (cellV a b) (cellV a' b'); binOp .neq t (cellV a b) (cellV a' b') : Sem Value).run P w = .ok (.bool (!decide (a = a' ∧ b = b'))) w := by
  rw [Sem.run_bind, run_eqGuard_agg _ _ _ _ _ _ _ hg, Result.andThen_ok, run_neq_struct, show (10000 : Nat) = 9998 + 2 from rfl, run_equalIn_two hT w 9998 t e _ _ _ _ ht he]; rfl
theorem vops_eqS (hT : TyOk P T) {d t u e : Nat} {x y : Operand} {a b a' b' : Int} {z : List Value} {c1 c2 : Nat} (hx : ev f x = cellV a b) (hy : ev f y = cellV a' b') (he : T e = some ⟨.int .i64, c1, c2, z⟩) (ht : twoNums P t e = true) (hg : P.eqGuardType P.depth t = false)
    (k : VOps P Γ ops Q rest (upd f d (.bool (decide (a = a' ∧ b = b')))) own) : VOps P Γ ops Q (⟨some d, .binOp .eql t x y u, ty, pos, aft, none⟩ :: rest) f own :=
  vops_go fun w hgd => by
    show RunsTo P ((do let v ← (do eqGuard .eql t x y (ev f x) (ev f y); binOp .eql t (ev f x) (ev f y)); pure (Next.value v) : Sem Next).run P w) _
    rw [hx, hy, run_val, run_eq_two hT ht he hg]
    exact ⟨own, hgd, stay w, k⟩
theorem vops_neS (hT : TyOk P T) {d t u e : Nat} {x y : Operand} {a b a' b' : Int} {z : List Value} {c1 c2 : Nat} (hx : ev f x = cellV a b) (hy : ev f y = cellV a' b') (he : T e = some ⟨.int .i64, c1, c2, z⟩) (ht : twoNums P t e = true) (hg : P.eqGuardType P.depth t = false)
    (k : VOps P Γ ops Q rest (upd f d (.bool (!decide (a = a' ∧ b = b')))) own) : VOps P Γ ops Q (⟨some d, .binOp .neq t x y u, ty, pos, aft, none⟩ :: rest) f own :=
  vops_go fun w hgd => by
    show RunsTo P ((do let v ← (do eqGuard .neq t x y (ev f x) (ev f y); binOp .neq t (ev f x) (ev f y)); pure (Next.value v) : Sem Next).run P w) _
    rw [hx, hy, run_val, run_ne_two hT ht he hg]
    exact ⟨own, hgd, stay w, k⟩
/-- A quotient, whatever the sign. -/
theorem vops_quoT {d t : Nat} {x y : Operand} {a b : Int} (hx : ev f x = .int .i64 a) (hy : ev f y = .int .i64 b) (hb : b ≠ 0) (hr : In64 (a.tdiv b)) (kk : VOps P Γ ops Q rest (upd f d (.int .i64 (a.tdiv b))) own) {u : TypeId} :
    VOps P Γ ops Q (⟨some d, .binOp .quo t x y u, ty, pos, aft, none⟩ :: rest) f own :=
  vops_go fun w hg => by
    have hr : (execOp (ev f) ⟨some d, .binOp .quo t x y u, ty, pos, aft, none⟩).run P w = .ok (.value (.int .i64 (a.tdiv b))) w := by
      show ((do eqGuard .quo t x y (ev f x) (ev f y); binOp .quo t (ev f x) (ev f y)) >>= fun v => pure (Next.value v)).run P w = _
      rw [run_val, hx, hy, eqGuard_at_int, Sem.run_bind, Sem.run_pure, Result.andThen_ok]
      have hw : IntKind.i64.wrap (a.tdiv b) = a.tdiv b := wrap_of_inR (k := .i64) hr
      simp [binOp, Op.intDiv, hb, hw]
    rw [hr]
    exact ⟨own, hg, stay w, kk⟩
theorem run_min2 {d : Option Tmp} {g : Option (Nat × Bool)} {atys : Array TypeId} {x y : Operand} {a b : Int} (hx : ev f x = .int .i64 a) (hy : ev f y = .int .i64 b) (w : World) :
    (execOp (ev f) ⟨d, .call ⟨.builtin .min, #[x, y], atys⟩, ty, pos, aft, g⟩).run P w = .ok (.value (.int .i64 (if b < a then b else a))) w := by
  unfold execOp
  simp only [resolve, invoke, builtin, Sem.run_bind, Sem.run_pure, Result.andThen_ok, List.map_toArray, List.map_cons, List.map_nil, hx, hy, run_min_int2]
theorem run_max2 {d : Option Tmp} {g : Option (Nat × Bool)} {atys : Array TypeId} {x y : Operand} {a b : Int} (hx : ev f x = .int .i64 a) (hy : ev f y = .int .i64 b) (w : World) :
    (execOp (ev f) ⟨d, .call ⟨.builtin .max, #[x, y], atys⟩, ty, pos, aft, g⟩).run P w = .ok (.value (.int .i64 (if b > a then b else a))) w := by
  unfold execOp
  simp only [resolve, invoke, builtin, Sem.run_bind, Sem.run_pure, Result.andThen_ok, List.map_toArray, List.map_cons, List.map_nil, hx, hy, run_max_int2]
theorem vops_min {d : Nat} {atys : Array TypeId} {x y : Operand} {a b : Int} (hx : ev f x = .int .i64 a) (hy : ev f y = .int .i64 b) (k : VOps P Γ ops Q rest (upd f d (.int .i64 (if b < a then b else a))) own) :
    VOps P Γ ops Q (⟨some d, .call ⟨.builtin .min, #[x, y], atys⟩, ty, pos, aft, none⟩ :: rest) f own := vops_run (run_min2 hx hy) k
theorem vops_max {d : Nat} {atys : Array TypeId} {x y : Operand} {a b : Int} (hx : ev f x = .int .i64 a) (hy : ev f y = .int .i64 b) (k : VOps P Γ ops Q rest (upd f d (.int .i64 (if b > a then b else a))) own) :
    VOps P Γ ops Q (⟨some d, .call ⟨.builtin .max, #[x, y], atys⟩, ty, pos, aft, none⟩ :: rest) f own := vops_run (run_max2 hx hy) k

theorem x_slice3 (hT : TyOk P T) {t e a0 b0 : Nat} {z0 : List Value} {ei : TI} {x lo hi mx : Operand} {a : Option Addr} {n c : Nat} {kl kh km : IntKind} {l h m : Int} {d : Option Tmp} {g : Option (Nat × Bool)}
    (ht : T t = some ⟨.slice e, a0, b0, z0⟩) (he : T e = some ei) (hx : ev f x = .slice a n c) (hl : ev f lo = .int kl l) (hh : ev f hi = .int kh h) (hm : ev f mx = .int km m) (hc : 0 ≤ l ∧ l ≤ h ∧ h ≤ m ∧ m ≤ (c : Int)) (w : World) :
    (execOp (ev f) ⟨d, .slice t x (some lo) (some hi) (some mx), ty, pos, aft, g⟩).run P w = .ok (.value (sliced a l.toNat h.toNat m.toNat ei.size)) w := by
  have hu := hT.slice ht
  have hel : P.elem t = e := by simp [Program.elem, hu]
  have hu' : P.underlying t = some (.slice (P.elem t)) := by rw [hel]; exact hu
  have hs := hT.size he w
  obtain ⟨h0, h1, h2, h3⟩ := hc
  show ((Instr.sliceAt t (ev f x) (some (ev f lo)) (some (ev f hi)) (some (ev f mx))) >>= fun v => pure (Next.value v)).run P w = _
  rw [run_val, hx, run_sliceAt_slice (h := hu'), run_slice_any (ht := hu'), hel]
  have em : (m.toNat : Int) = m := Int.toNat_of_nonneg (by omega)
  have eh : (h.toNat : Int) = h := Int.toNat_of_nonneg (by omega)
  have hb : (Instr.sliceBounds true n c (some (ev f lo)) (some (ev f hi)) (some (ev f mx))).run P w = .ok (l.toNat, h.toNat, m.toNat) w := by
    simp [Instr.sliceBounds, hl, hh, hm, run_sliceBound, h0, h1, h2, h3, em, eh, show 0 ≤ m by omega, show 0 ≤ h by omega]
  rw [hb]
  simp only [Result.andThen_ok, hs]
theorem vops_slice3 (hT : TyOk P T) {d t e a0 b0 : Nat} {z0 : List Value} {ei : TI} {x lo hi mx : Operand} {a : Option Addr} {n c : Nat} {kl kh km : IntKind} {l h m : Int}
    (ht : T t = some ⟨.slice e, a0, b0, z0⟩) (he : T e = some ei) (hx : ev f x = .slice a n c) (hl : ev f lo = .int kl l) (hh : ev f hi = .int kh h) (hm : ev f mx = .int km m) (hc : 0 ≤ l ∧ l ≤ h ∧ h ≤ m ∧ m ≤ (c : Int))
    (k : VOps P Γ ops Q rest (upd f d (sliced a l.toNat h.toNat m.toNat ei.size)) own) : VOps P Γ ops Q (⟨some d, .slice t x (some lo) (some hi) (some mx), ty, pos, aft, none⟩ :: rest) f own := vops_run (x_slice3 hT ht he hx hl hh hm hc) k
end
end Go.VL
