import Derived.Test.YtnammdmiljjhjaaVLCall
import Derived.Laws.StructEq
/- A part of the proof: Arr. No conditions of its own. -/
namespace Go.VL
open Go.RowKit
def ints (r : List Int) : List Value := r.map (Value.int .i64)
theorem ints_length (r : List Int) : (ints r).length = r.length := by simp [ints]
theorem ints_get {r : List Int} {i : Nat} (h : i < r.length) : (ints r)[i]? = some (.int .i64 (r.getD i 0)) := by
  simp [ints, h]

theorem ints_get0 {r : List Int} {i : Nat} (h : i < r.length) : (ints r)[0 + i]? = some (.int .i64 (r.getD i 0)) := by rw [Nat.zero_add]; exact ints_get h
theorem upd_of {f : Nat → Value} {d : Nat} {v : Value} (h : f d = v) : f = upd f d v := by rw [← h]; exact (upd_self f d).symm

theorem all_step {p : Nat → Prop} {a : Int} (ha : 0 ≤ a) (h : ∀ j : Nat, (j : Int) < a → p j) (h1 : p a.toNat) : ∀ j : Nat, (j : Int) < a + 1 → p j := fun j hj => by
  by_cases hja : (j : Int) < a
  · exact h j hja
  · have : j = a.toNat := by omega
    rw [this]; exact h1

theorem run_forIn_list {P : Program} (w : World) (g : Nat → Option Bool × Unit → Sem (ForInStep (Option Bool × Unit))) (c : Nat → Bool) :
    ∀ (l : List Nat), (∀ i ∈ l, (g i (none, ())).run P w = .ok (if c i then .yield (none, ()) else .done (some false, ())) w) →
    (forIn l (none, ()) g).run P w = .ok (if l.all c then (none, ()) else (some false, ())) w
  | [], _ => by simp
  | i :: l, h => by
    have h0 := h i (by simp)
    have ih := run_forIn_list w g c l (fun j hj => h j (by simp [hj]))
    rw [List.forIn_cons, Sem.run_bind, h0, Result.andThen_ok]
    cases hc : c i
    · simp [hc]
    · simp [hc, ih]
theorem run_forIn_range {P : Program} (w : World) (g : Nat → Option Bool × Unit → Sem (ForInStep (Option Bool × Unit))) (c : Nat → Bool) (len : Nat)
    (h : ∀ i, i < len → (g i (none, ())).run P w = .ok (if c i then .yield (none, ()) else .done (some false, ())) w) :
    (forIn [:len] (none, ()) g).run P w = .ok (if (List.range len).all c then (none, ()) else (some false, ())) w := by
  rw [Std.Legacy.Range.forIn_eq_forIn_range']
  have e : List.range' (0 : Nat) (Std.Legacy.Range.size [:len]) 1 = List.range len := by
    rw [List.range_eq_range']; simp [Std.Legacy.Range.size]
  rw [show List.range' ([:len] : Std.Legacy.Range).start (Std.Legacy.Range.size [:len]) ([:len] : Std.Legacy.Range).step = List.range len from e]
  exact run_forIn_list w g c _ fun i hi => h i (List.mem_range.1 hi)

theorem all_getD_eq {r q : List Int} {len : Nat} (hr : r.length = len) (hq : q.length = len) : (List.range len).all (fun i => decide (r.getD i 0 = q.getD i 0)) = decide (r = q) := by
  rw [Bool.eq_iff_iff]
  simp only [List.all_eq_true, List.mem_range, decide_eq_true_eq]
  constructor
  · intro h
    apply List.ext_getElem (by omega)
    intro i h1 h2
    have := h i (by omega)
    simpa [List.getD_eq_getElem?_getD, h1, h2] using this
  · rintro rfl i _; rfl

theorem run_part_ints {P : Program} {T : Nat → Option TI} (hT : TyOk P T) {e : Nat} {a b : Nat} {z : List Value} (he : T e = some ⟨.int .i64, a, b, z⟩) {r : List Int} {i : Nat} (h : i < r.length) (w : World) :
    (part e (ints r).toArray i).run P w = .ok (.int .i64 (r.getD i 0)) w := by
  unfold part
  rw [Sem.run_bind, isAgg_plain hT he rfl, Result.andThen_ok]
  simp [ints, h]

theorem run_equalIn_arr {P : Program} {T : Nat → Option TI} (hT : TyOk P T) (w : World) (d len t e : Nat) (r q : List Int) {a b b2 : Nat} {z z2 : List Value} (ht : T t = some ⟨.arr len e, a, b, z⟩) (he : T e = some ⟨.int .i64, 1, b2, z2⟩)
    (hr : r.length = len) (hq : q.length = len) : (Op.equalIn (d + 2) t (.agg (ints r).toArray) (.agg (ints q).toArray)).run P w = .ok (decide (r = q)) w := by
  have hs := hT.size he w
  have hu := hT.und ht (d := .array len e) (fun d' hd' => hd')
  have hue := hT.und he (d := .int .i64) (fun d' hd' => hd')
  have hs : (sizeOf e).run P w = .ok 1 w := hs
  have heq : ∀ x y : Int, (Op.equalIn (d + 1) e (.int .i64 x) (.int .i64 y)).run P w = .ok (x == y) w := fun x y => run_equalIn_int w d e .i64 .i64 x y hue
  rw [Op.equalIn]
  rw [Sem.run_bind, run_underlying hu, Result.andThen_ok]
  simp only
  rw [Sem.run_bind, hs, Result.andThen_ok, Sem.run_bind]
  rw [run_forIn_range w _ (fun i => decide (r.getD i 0 = q.getD i 0)) len ?_]
  · rw [all_getD_eq hr hq]
    by_cases h : r = q
    · simp [h]
    · simp [h]
  · intro i hi
    rw [Nat.mul_one, Sem.run_bind, run_part_ints hT he (by omega), Result.andThen_ok, Sem.run_bind, run_part_ints hT he (by omega), Result.andThen_ok, Sem.run_bind, heq, Result.andThen_ok]
    have hd : decide (r.getD i 0 = q.getD i 0) = (r.getD i 0 == q.getD i 0) := rfl
    rw [hd]
    cases (r.getD i 0 == q.getD i 0) <;> rfl

section
variable {P : Program} {T : Nat → Option TI} {Γ : Ctx} {ops : Array Oper} {Q : (Nat → Value) → Own → Prop} {rest : List Oper} {f : Nat → Value} {own : Own}
variable {ty : TypeId} {pos : String} {aft : Array Edge}
theorem run_eql_arr (hT : TyOk P T) {len t e : Nat} {r q : List Int} {a b a2 b2 : Nat} {z z2 : List Value} (ht : T t = some ⟨.arr len e, a, b, z⟩) (he : T e = some ⟨.int .i64, a2, b2, z2⟩) (ha2 : a2 = 1)
    (hg : P.eqGuardType P.depth t = false) (hr : r.length = len) (hq : q.length = len) (x y : Operand) (w : World) :
    (do eqGuard .eql t x y (.agg (ints r).toArray) (.agg (ints q).toArray); binOp .eql t (.agg (ints r).toArray) (.agg (ints q).toArray) : Sem Value).run P w = .ok (.bool (decide (r = q))) w := by
  subst ha2
  rw [Sem.run_bind, run_eqGuard_agg _ _ _ _ _ _ _ hg, Result.andThen_ok, run_eql_struct, show (10000 : Nat) = 9998 + 2 from rfl, run_equalIn_arr hT w 9998 len t e r q ht he hr hq]; rfl
theorem run_neq_arr (hT : TyOk P T) {len t e : Nat} {r q : List Int} {a b a2 b2 : Nat} {z z2 : List Value} (ht : T t = some ⟨.arr len e, a, b, z⟩) (he : T e = some ⟨.int .i64, a2, b2, z2⟩) (ha2 : a2 = 1)
    (hg : P.eqGuardType P.depth t = false) (hr : r.length = len) (hq : q.length = len) (x y : Operand) (w : World) :
    (do eqGuard .neq t x y (.agg (ints r).toArray) (.agg (ints q).toArray); binOp .neq t (.agg (ints r).toArray) (.agg (ints q).toArray) : Sem Value).run P w = .ok (.bool (!decide (r = q))) w := by
  subst ha2
  rw [Sem.run_bind, run_eqGuard_agg _ _ _ _ _ _ _ hg, Result.andThen_ok, run_neq_struct, show (10000 : Nat) = 9998 + 2 from rfl, run_equalIn_arr hT w 9998 len t e r q ht he hr hq]; rfl

theorem vops_eqA (hT : TyOk P T) {d t u len e : Nat} {x y : Operand} {r q : List Int} {a b a2 b2 : Nat} {z z2 : List Value} (hx : ev f x = .agg (ints r).toArray) (hy : ev f y = .agg (ints q).toArray)
    (ht : T t = some ⟨.arr len e, a, b, z⟩) (he : T e = some ⟨.int .i64, a2, b2, z2⟩) (ha2 : a2 = 1) (hg : P.eqGuardType P.depth t = false) (hr : r.length = len) (hq : q.length = len)
    (k : VOps P Γ ops Q rest (upd f d (.bool (decide (r = q)))) own) : VOps P Γ ops Q (⟨some d, .binOp .eql t x y u, ty, pos, aft, none⟩ :: rest) f own :=
  vops_go fun w hgd => by
    show RunsTo P ((do let v ← (do eqGuard .eql t x y (ev f x) (ev f y); binOp .eql t (ev f x) (ev f y)); pure (Next.value v) : Sem Next).run P w) _
    rw [hx, hy, run_val, run_eql_arr hT ht he ha2 hg hr hq]
    exact ⟨own, hgd, stay w, k⟩
theorem vops_neA (hT : TyOk P T) {d t u len e : Nat} {x y : Operand} {r q : List Int} {a b a2 b2 : Nat} {z z2 : List Value} (hx : ev f x = .agg (ints r).toArray) (hy : ev f y = .agg (ints q).toArray)
    (ht : T t = some ⟨.arr len e, a, b, z⟩) (he : T e = some ⟨.int .i64, a2, b2, z2⟩) (ha2 : a2 = 1) (hg : P.eqGuardType P.depth t = false) (hr : r.length = len) (hq : q.length = len)
    (k : VOps P Γ ops Q rest (upd f d (.bool (!decide (r = q)))) own) : VOps P Γ ops Q (⟨some d, .binOp .neq t x y u, ty, pos, aft, none⟩ :: rest) f own :=
  vops_go fun w hgd => by
    show RunsTo P ((do let v ← (do eqGuard .neq t x y (ev f x) (ev f y); binOp .neq t (ev f x) (ev f y)); pure (Next.value v) : Sem Next).run P w) _
    rw [hx, hy, run_val, run_neq_arr hT ht he ha2 hg hr hq]
    exact ⟨own, hgd, stay w, k⟩

/-- A whole block of a known content is written anew. -/
theorem vops_storeA (hT : TyOk P T) {t : Nat} {x y : Operand} {b : Nat} {cs : List Value} {ti : TI} {k : Blk} (i : Nat) (ht : T t = some ti) (hn : cs.length = ti.size) (hx : ev f x = .pointer (some ⟨b, 0, none⟩)) (hy : ev f y = .agg cs.toArray)
    (h1 : ∀ v ∈ cs, v.oneCell' = true) (hi : own[i]? = some (b, k)) (hlen : k.size = cs.length)
    (kk : VOps P Γ ops Q rest f (own.set i (b, ⟨cs, k.elem, k.size, none⟩))) (hrow : k.obj = none := by rfl) : VOps P Γ ops Q (⟨none, .store t x y, ty, pos, aft, none⟩ :: rest) f own :=
  vops_go0 fun w hg => by
    show RunsTo P ((do Instr.storeAt t (ev f x) (ev f y); pure Next.skip : Sem Next).run P w) _
    have hm := List.mem_of_getElem? hi
    obtain ⟨arr, a1, a2, a3⟩ := hg.ok.row hm hrow
    have hst : (storeVar t ⟨b, 0, none⟩ (.agg cs.toArray)).run P w = .ok () (w.setRow b cs.toArray) := by
      unfold storeVar
      rw [Sem.run_bind, hT.size ht, Result.andThen_ok]
      have e : (Value.agg cs.toArray).cells.size = ti.size := by rw [← hn]; simp [Value.cells]
      rw [if_neg (by simpa using e)]
      have := run_storeCells_from (P := P) b k.elem cs 0 arr w a1 (by omega) h1
      simpa [Value.cells] using this
    have : (Instr.storeAt t (ev f x) (ev f y)).run P w = .ok () (w.setRow b cs.toArray) := by
      rw [hx, hy]; exact hst
    rw [Sem.run_bind, this]
    have hfr : Fr [b] w (w.setRow b cs.toArray) := ⟨rfl, rfl, rfl, Nat.le_refl _, by simp, fun c hc hne => setRow_other w b c _ (by simpa using hne)⟩
    refine ⟨_, hg.write (k' := ⟨cs, k.elem, k.size, none⟩) hi hfr (Blk.ofRow ⟨cs.toArray, setRow_heap w b arr _ _ _ a1, by simp [hlen], fun j v hv => by simpa using hv⟩), ⟨hfr.mono (fun x hx => by
      have e : x = b := by simpa using hx
      rw [e]; exact ids_mem hm), fun c hc => .inl (by rwa [ids_set hi] at hc)⟩, kk⟩
/-- A store of a number into a block of numbers. -/
theorem ints_set (q : List Int) (o : Nat) (x : Int) : (ints q).set o (.int .i64 x) = ints (q.set o x) := by simp [ints, List.map_set]
theorem vops_storeI (i : Nat) (hT : TyOk P T) {t : Nat} {x y : Operand} {b o : Nat} {v : Int} {ti : TI} {q : List Int} {e n : Nat} (ht : T t = some ti) (hp : ti.size = 1) (hx : ev f x = .pointer (some ⟨b, 0 + o, none⟩)) (hy : ev f y = .int .i64 v)
    (hi : own[i]? = some (b, ⟨ints q, e, n, none⟩)) (hlt : o < q.length)
    (kk : VOps P Γ ops Q rest f (own.set i (b, ⟨ints (q.set o v), e, n, none⟩))) : VOps P Γ ops Q (⟨none, .store t x y, ty, pos, aft, none⟩ :: rest) f own := by
  rw [Nat.zero_add] at hx
  refine vops_store hT i ht hp hx hy rfl hi (by rw [ints_length]; exact hlt) ?_
  rw [ints_set]; exact kk
theorem vops_allocZ (cs : List Value) (hT : TyOk P T) {d : Nat} {t : Nat} {i : TI} (ht : T t = some i) (hz : i.zero = cs) (hne : cs ≠ [])
    (k : ∀ b, b ∉ ids own → VOps P Γ ops Q rest (upd f d (.pointer (some ⟨b, 0, none⟩))) ((b, ⟨cs, t, cs.length, none⟩) :: own)) :
    VOps P Γ ops Q (⟨some d, .alloc t, ty, pos, aft, none⟩ :: rest) f own := by
  subst hz; exact vops_alloc hT ht hne k
theorem ints_one {r : List Int} : ∀ v ∈ ints r, v.oneCell' = true := by
  intro v hv
  simp only [ints, List.mem_map] at hv
  obtain ⟨x, _, rfl⟩ := hv; rfl
/-- Twenty ways to read a block of numbers whole. -/
theorem sees_ints (i : Nat) {b e n : Nat} {r : List Int} (h : own[i]? = some (b, ⟨ints r, e, n, none⟩)) : SeesL Γ own b 0 (ints r) := seesL_at i h rfl
/-- The one result is an array of numbers, in the i-th block. -/
theorem rvc_ints (i : Nat) (hT : TyOk P T) {n p t b e m : Nat} {ti : TI} {fn : Func} {r r' : List Int} (h : fn.results = #[.cell p t]) (hp : f p = .pointer (some ⟨b, 0, none⟩)) (ht : T t = some ti) (ha : ti.isAgg = true) (hn : (ints r).length = ti.size)
    (hi : own[i]? = some (b, ⟨ints r, e, m, none⟩)) (hr : r = r') : Out P Γ n fn (Is (.agg (ints r').toArray)) .ret f own :=
  ⟨_, [], rv_cell hT h hp ht ha hn (sees_ints i hi), List.nodup_nil, fun _ h => (by simp at h), by rw [hr], rfl⟩
end
end Go.VL
