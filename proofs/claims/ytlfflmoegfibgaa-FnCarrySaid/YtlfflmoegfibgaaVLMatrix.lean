import Derived.Test.YtlfflmoegfibgaaVLSquare
import Derived.Test.YtlfflmoegfibgaaVLTable
/-! A struct of a number and an array of arrays of numbers. -/
namespace Go.VL
open Go.RowKit
theorem extract_ints (r : List Int) (o s : Nat) : (ints r).toArray.extract o (o + s) = (ints ((r.drop o).take s)).toArray := by
  apply Array.ext'
  simp [ints, List.map_take, List.map_drop]
theorem run_part_row {P : Program} {T : Nat → Option TI} (hT : TyOk P T) {e : Nat} {i : TI} (he : T e = some i) (ha : i.isAgg = true) {r : List Int} {o : Nat} (w : World) :
    (Go.part e (ints r).toArray o).run P w = .ok (.agg (ints ((r.drop o).take i.size)).toArray) w := by
  unfold Go.part
  rw [Sem.run_bind, sizeAgg hT he ha, Result.andThen_ok]
  simp only [if_true]
  rw [Sem.run_bind, hT.size he, Result.andThen_ok, extract_ints]
  rfl
theorem rows_eq {r q : List Int} {m k : Nat} (hr : r.length = m * k) (hq : q.length = m * k) : (List.range m).all (fun i => decide ((r.drop (i * k)).take k = (q.drop (i * k)).take k)) = decide (r = q) := by
  rw [Bool.eq_iff_iff]
  simp only [List.all_eq_true, List.mem_range, decide_eq_true_eq]
  constructor
  · intro h
    apply List.ext_getElem (by omega)
    intro t h1 h2
    have hk : 0 < k := by
      rcases Nat.eq_zero_or_pos k with rfl | h
      · rw [Nat.mul_zero] at hr; omega
      · exact h
    have htm : t / k < m := idx_row (by omega)
    have hm := idx_col (m := m) (k := k) (t := t) (by omega)
    have hdm := Nat.div_add_mod t k
    have h3 := h (t / k) htm
    have h4 := congrArg (fun l : List Int => l[t % k]?) h3
    simp only [List.getElem?_take_of_lt hm, List.getElem?_drop] at h4
    have hx : t / k * k + t % k = t := by rw [Nat.mul_comm]; exact hdm
    rw [hx, List.getElem?_eq_getElem h1, List.getElem?_eq_getElem h2] at h4
    exact Option.some.inj h4
  · rintro rfl i _; rfl
theorem run_equalIn_arr2 {P : Program} {T : Nat → Option TI} (hT : TyOk P T) (w : World) (d m k t u e : Nat) (r q : List Int) {a b b2 b3 : Nat} {z z2 z3 : List Value} (ht : T t = some ⟨.arr m u, a, b, z⟩) (hu : T u = some ⟨.arr k e, k, b3, z3⟩) (he : T e = some ⟨.int .i64, 1, b2, z2⟩)
    (hr : r.length = m * k) (hq : q.length = m * k) : (Op.equalIn (d + 3) t (.agg (ints r).toArray) (.agg (ints q).toArray)).run P w = .ok (decide (r = q)) w := by
  have hs : (sizeOf u).run P w = .ok k w := hT.size hu w
  have hut := hT.und ht (d := .array m u) (fun d' hd' => hd')
  have hlen : ∀ (l : List Int), l.length = m * k → ∀ i, i < m → ((l.drop (i * k)).take k).length = k := fun l hl i hi => by
    have := idx_lt (m := m) (k := k) (i := i) (j := k - 1)
    have h2 : (i + 1) * k ≤ m * k := Nat.mul_le_mul_right k hi
    rw [Nat.add_mul, Nat.one_mul] at h2
    rw [List.length_take, List.length_drop, hl]; omega
  rw [Op.equalIn]
  rw [Sem.run_bind, run_underlying hut, Result.andThen_ok]
  simp only
  rw [Sem.run_bind, hs, Result.andThen_ok, Sem.run_bind]
  rw [run_forIn_range w _ (fun i => decide ((r.drop (i * k)).take k = (q.drop (i * k)).take k)) m ?_]
  · rw [rows_eq hr hq]
    by_cases h : r = q
    · simp [h]
    · simp [h]
  · intro i hi
    have hp := fun l : List Int => run_part_row hT hu rfl (r := l) (o := i * k) w
    rw [Sem.run_bind, hp r, Result.andThen_ok, Sem.run_bind, hp q, Result.andThen_ok, Sem.run_bind, run_equalIn_arr hT w d k u e _ _ hu he (hlen r hr i hi) (hlen q hq i hi), Result.andThen_ok]
    cases decide ((r.drop (i * k)).take k = (q.drop (i * k)).take k) <;> rfl
/-- t is a struct of a number of the type e and an array of the type s. -/
def numArr (P : Program) (t e s : Nat) : Bool := !P.stoodInHeld t && match P.underlying t with
  | some (.struct fs) => match fs.toList with
    | [f0, f1] => f0.name != "_" && f1.name != "_" && f0.offset == 0 && f1.offset == 1 && f0.type == e && f1.type == s
    | _ => false
  | _ => false
theorem run_equalIn_mat {P : Program} {T : Nat → Option TI} (hT : TyOk P T) (w : World) (d t s u m k e : Nat) (a a' : Int) (r q : List Int) {c3 b b2 b3 : Nat} {z z2 z3 : List Value} (ht : numArr P t e s = true) (hs : T s = some ⟨.arr m u, m * k, b, z⟩) (hu : T u = some ⟨.arr k e, k, b3, z3⟩) (he : T e = some ⟨.int .i64, 1, b2, z2⟩) (_hc : c3 = 0)
    (hr : r.length = m * k) (hq : q.length = m * k) :
    (Op.equalIn (d + 4) t (.agg (ints (a :: r)).toArray) (.agg (ints (a' :: q)).toArray)).run P w = .ok (decide (a :: r = a' :: q)) w := by
  have hue := hT.und he (d := .int .i64) (fun d' hd' => hd')
  simp only [numArr, Bool.and_eq_true, Bool.not_eq_true'] at ht
  obtain ⟨hp, ht⟩ := ht
  split at ht
  · rename_i fs hund
    split at ht
    · rename_i f0 f1 hfs
      simp only [Bool.and_eq_true, bne_iff_ne, beq_iff_eq] at ht
      obtain ⟨⟨⟨⟨⟨n0, n1⟩, o0⟩, o1⟩, t0⟩, t1⟩ := ht
      have hfo : P.fieldsOf t = fs := by simp [Program.fieldsOf, hund]
      rw [run_equalIn_struct w (d + 3) t _ _ (by rw [hfo]; exact hund) hp, hfo, hfs]
      have hp0 : ∀ (x : Int) (l : List Int), (Go.part e (ints (x :: l)).toArray 0).run P w = .ok (.int .i64 x) w := fun x l => run_part_ints hT he (r := x :: l) (i := 0) (by simp) w
      have hp1 : ∀ (x : Int) (l : List Int), l.length = m * k → (Go.part s (ints (x :: l)).toArray 1).run P w = .ok (.agg (ints l).toArray) w := fun x l hl => by
        have := run_part_row hT hs rfl (r := x :: l) (o := 1) w
        rw [this]
        congr 4
        show (l.take (m * k)) = l
        exact List.take_of_length_le (by omega)
      simp only [Op.eqFields, n0, n1, ne_eq, not_false_eq_true, if_true, o0, o1, t0, t1]
      rw [Sem.run_bind, hp0, Result.andThen_ok, Sem.run_bind, hp0, Result.andThen_ok, Sem.run_bind, run_equalIn_int w (d + 2) e .i64 .i64 a a' hue, Result.andThen_ok]
      by_cases h0 : a = a'
      · subst h0
        simp only [beq_self_eq_true, Bool.not_true, Bool.false_eq_true, if_false]
        rw [Sem.run_bind, hp1 _ _ hr, Result.andThen_ok, Sem.run_bind, hp1 _ _ hq, Result.andThen_ok, Sem.run_bind, run_equalIn_arr2 hT w d m k s u e r q hs hu he hr hq, Result.andThen_ok]
        by_cases h1 : r = q
        · subst h1; simp
        · simp [h1]
      · simp [h0]
    · cases ht
  · cases ht
section
variable {P : Program} {T : Nat → Option TI} {Γ : Ctx} {ops : Array Oper} {Q : (Nat → Value) → Own → Prop} {rest : List Oper} {f : Nat → Value} {own : Own}
variable {ty : TypeId} {pos : String} {aft : Array Edge}
theorem run_eq_mat (hT : TyOk P T) {t s u m k e : Nat} {a a' : Int} {r q : List Int} {b b2 b3 : Nat} {z z2 z3 : List Value} (ht : numArr P t e s = true) (hs : T s = some ⟨.arr m u, m * k, b, z⟩) (hu : T u = some ⟨.arr k e, k, b3, z3⟩) (he : T e = some ⟨.int .i64, 1, b2, z2⟩)
    (hr : r.length = m * k) (hq : q.length = m * k) (hg : P.eqGuardType P.depth t = false) (x y : Operand) (w : World) :
    (do eqGuard .eql t x y (.agg (ints (a :: r)).toArray) (.agg (ints (a' :: q)).toArray); binOp .eql t (.agg (ints (a :: r)).toArray) (.agg (ints (a' :: q)).toArray) : Sem Value).run P w = .ok (.bool (decide (a :: r = a' :: q))) w := by
  rw [Sem.run_bind, run_eqGuard_agg _ _ _ _ _ _ _ hg, Result.andThen_ok, run_eql_struct, show (10000 : Nat) = 9996 + 4 from rfl, run_equalIn_mat hT w 9996 t s u m k e a a' r q (c3 := 0) ht hs hu he rfl hr hq]; rfl
theorem vops_eqM (hT : TyOk P T) {d t s u m k e v : Nat} {x y : Operand} {a a' : Int} {r q : List Int} {b b2 b3 : Nat} {z z2 z3 : List Value} (hx : ev f x = .agg (ints (a :: r)).toArray) (hy : ev f y = .agg (ints (a' :: q)).toArray)
    (ht : numArr P t e s = true) (hs : T s = some ⟨.arr m u, m * k, b, z⟩) (hu : T u = some ⟨.arr k e, k, b3, z3⟩) (he : T e = some ⟨.int .i64, 1, b2, z2⟩) (hr : r.length = m * k) (hq : q.length = m * k) (hg : P.eqGuardType P.depth t = false)
    (kk : VOps P Γ ops Q rest (upd f d (.bool (decide (a :: r = a' :: q)))) own) : VOps P Γ ops Q (⟨some d, .binOp .eql t x y v, ty, pos, aft, none⟩ :: rest) f own :=
  vops_go fun w hgd => by
    show RunsTo P ((do let v ← (do eqGuard .eql t x y (ev f x) (ev f y); binOp .eql t (ev f x) (ev f y)); pure (Next.value v) : Sem Next).run P w) _
    rw [hx, hy, run_val, run_eq_mat hT ht hs hu he hr hq hg]
    exact ⟨own, hgd, stay w, kk⟩
end
/-- The first elements of an array, as a slice. -/
theorem x_sliceArrTo {P : Program} {T : Nat → Option TI} {f : Nat → Value} {ty : TypeId} {pos : String} {aft : Array Edge} (hT : TyOk P T) {dd : Option Tmp} {gg : Option (Nat × Bool)} {t n m e a0 b0 b o : Nat} {z0 : List Value} {ei : TI} {x y : Operand} {k : IntKind} (ht : T t = some ⟨.arr n e, a0, b0, z0⟩) (he : T e = some ei) (hx : ev f x = .pointer (some ⟨b, o, none⟩)) (hy : ev f y = .int k (m : Int)) (hm : m ≤ n) (w : World) :
    (execOp (ev f) ⟨dd, .slice t x none (some y) none, ty, pos, aft, gg⟩).run P w = .ok (.value (.slice (some ⟨b, o, none⟩) m n)) w := by
  have hu := hT.und ht (d := .array n e) (fun d' hd' => hd')
  have hs := hT.size he w
  have hm' : (m : Int) ≤ (n : Int) := by omega
  show ((Instr.sliceAt t (ev f x) none (some (ev f y)) none) >>= fun v => pure (Next.value v)).run P w = _
  rw [run_val, hx, hy]
  have : (Instr.sliceAt t (.pointer (some ⟨b, o, none⟩)) none (some (.int k (m : Int))) none).run P w = .ok (.slice (some ⟨b, o, none⟩) m n) w := by
    unfold Instr.sliceAt
    simp [run_underlying hu, Instr.sureAddr, Instr.sliceBounds, hs, Addr.add_lit, run_sliceBound, hm']
  rw [this]; rfl
/-- A number and a table, as cells. -/
def matN (n : Int) (m k : Nat) (g : Nat → Nat → Int) : List Int := n :: flatN m k g
theorem matN_length (n : Int) (m k : Nat) (g : Nat → Nat → Int) : (matN n m k g).length = m * k + 1 := by simp [matN, flatN_length]
theorem matN_get {n : Int} {m k i j : Nat} {g : Nat → Nat → Int} (hi : i < m) (hj : j < k) : (ints (matN n m k g))[1 + i * k + j]? = some (.int .i64 (g i j)) := by
  refine ints_get' ?_
  rw [show 1 + i * k + j = (i * k + j) + 1 by omega]
  exact flatN_get hi hj
theorem matN_set {n : Int} {m k i j : Nat} {g : Nat → Nat → Int} {x : Int} (hj : j < k) : (matN n m k g).set (1 + i * k + j) x = matN n m k fun a b => if a = i ∧ b = j then x else g a b := by
  rw [show 1 + i * k + j = (i * k + j) + 1 by omega]
  show n :: (flatN m k g).set (i * k + j) x = _
  rw [flatN_set hj]; rfl
theorem matN_rep (n : Int) (m k : Nat) : n :: List.replicate (m * k) 0 = matN n m k fun _ _ => 0 := by rw [flatN_rep]; rfl
end Go.VL
