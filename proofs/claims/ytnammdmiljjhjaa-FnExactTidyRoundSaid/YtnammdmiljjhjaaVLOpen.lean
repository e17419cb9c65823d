import Derived.Test.YtnammdmiljjhjaaVLLaw
import Derived.Test.YtnammdmiljjhjaaVLSlice
/- A part of the proof: Open. No conditions of its own. -/
namespace Go.VL
open Go.RowKit Go.ChangeShapes Go.WideShapes Go.ChangeAt

/-- v is a list of lists of numbers that lie end to end in w. -/
def RdS (w : World) (v : Value) (rs : List (List Int)) : Prop :=
  (∃ a cap, v = .slice a 0 cap ∧ rs = []) ∨ ∃ b o cap, v = .slice (some ⟨b, o, none⟩) rs.length cap ∧ ∀ j x, (ints rs.flatten)[j]? = some x → w.cell? ⟨b, o + j, none⟩ = some x
theorem RdS.same {w w' : World} {v : Value} {rs : List (List Int)} (h : RdS w v rs) (hf : Fr [] w w') : RdS w' v rs := by
  rcases h with h | ⟨b, o, cap, hv, hc⟩
  · exact .inl h
  · exact .inr ⟨b, o, cap, hv, fun j x hx => hf.cell (by simp) (hc j x hx)⟩
theorem RdS.len {w : World} {v : Value} {rs : List (List Int)} (h : RdS w v rs) : ∃ a cap, v = .slice a rs.length cap := by
  rcases h with ⟨a, cap, hv, rfl⟩ | ⟨b, o, cap, hv, _⟩
  · exact ⟨a, cap, hv⟩
  · exact ⟨_, cap, hv⟩

theorem flat_at {k : Nat} : ∀ {rs : List (List Int)}, (∀ r ∈ rs, r.length = k) → ∀ {i j : Nat} {r : List Int}, rs[i]? = some r → j < k → rs.flatten[i * k + j]? = r[j]?
  | [], _, i, j, r, hi, _ => by simp at hi
  | q :: rs, hk, 0, j, r, hi, hj => by
    have : q = r := by simpa using hi
    subst this
    rw [List.flatten_cons, List.getElem?_append_left (by rw [hk q (by simp)]; omega)]
    simp
  | q :: rs, hk, i + 1, j, r, hi, hj => by
    have hi' : rs[i]? = some r := by simpa using hi
    have := flat_at (rs := rs) (fun r hr => hk r (by simp [hr])) hi' hj
    rw [List.flatten_cons, List.getElem?_append_right (by rw [hk q (by simp), Nat.add_mul]; omega), hk q (by simp), ← this]
    congr 1
    rw [Nat.add_mul]; omega
theorem flat_length {k : Nat} : ∀ {rs : List (List Int)}, (∀ r ∈ rs, r.length = k) → rs.flatten.length = rs.length * k
  | [], _ => by simp
  | q :: rs, hk => by
    rw [List.flatten_cons, List.length_append, flat_length (rs := rs) (fun r hr => hk r (by simp [hr])), hk q (by simp), List.length_cons, Nat.add_mul]; omega

/-- A row of numbers is laid at a place. -/
def spl (q : List Int) (o : Nat) (r : List Int) : List Int := q.take o ++ r ++ q.drop (o + r.length)
theorem splice_ints (q : List Int) (o : Nat) (r : List Int) : splice (ints q) o (ints r) = ints (spl q o r) := by
  simp [splice, spl, ints, List.map_take, List.map_drop]
theorem made_same (v : Value) (k n : Nat) (hk : 0 < k) : (madeCells (List.replicate k v).toArray n).toList = List.replicate n v := by
  apply List.ext_getElem?
  intro j
  by_cases hj : j < n
  · have h1 : j % k < k := Nat.mod_lt _ hk
    simp [madeCells, hj, h1]
  · have hA : (madeCells (List.replicate k v).toArray n).toList.length ≤ j := by rw [Array.length_toList, size_madeCells]; omega
    have hB : (List.replicate n v).length ≤ j := by simp; omega
    rw [List.getElem?_eq_none hA, List.getElem?_eq_none hB]
theorem ints_zeros (n : Nat) : ints (List.replicate n 0) = List.replicate n (.int .i64 0) := by simp [ints]
/-- The first i rows, and nothing behind. -/
def fill (k : Nat) (rs : List (List Int)) (i : Nat) : List Int := (rs.take i).flatten ++ List.replicate ((rs.length - i) * k) 0
theorem fill_length {k : Nat} {rs : List (List Int)} (hk : ∀ r ∈ rs, r.length = k) {i : Nat} (hi : i ≤ rs.length) : (fill k rs i).length = rs.length * k := by
  have := flat_length (k := k) (rs := rs.take i) (fun r hr => hk r (List.mem_of_mem_take hr))
  simp only [fill, List.length_append, this, List.length_take, List.length_replicate, Nat.min_eq_left hi, ← Nat.add_mul]
  congr 1; omega
theorem fill_step {k : Nat} {rs : List (List Int)} (hk : ∀ r ∈ rs, r.length = k) {i : Nat} {r : List Int} (hi : rs[i]? = some r) : spl (fill k rs i) (i * k) r = fill k rs (i + 1) := by
  have hlt := (List.getElem?_eq_some_iff.1 hi).1
  have hr := hk r (List.mem_of_getElem? hi)
  have hP : (rs.take i).flatten.length = i * k := by
    rw [flat_length (k := k) (fun r hr => hk r (List.mem_of_mem_take hr)), List.length_take, Nat.min_eq_left (by omega)]
  have h1 : (fill k rs i).take (i * k) = (rs.take i).flatten := by
    unfold fill; rw [← hP]; exact List.take_left
  have hn : (rs.length - i) * k = k + (rs.length - (i + 1)) * k := by
    rw [show rs.length - i = 1 + (rs.length - (i + 1)) by omega, Nat.add_mul]; omega
  have h2 : (fill k rs i).drop (i * k + r.length) = List.replicate ((rs.length - (i + 1)) * k) 0 := by
    unfold fill
    rw [← hP, ← List.drop_drop, List.drop_left, List.drop_replicate, hr, hn]
    congr 1; omega
  have h3 : (rs.take (i + 1)).flatten = (rs.take i).flatten ++ r := by
    rw [List.take_add_one, hi]; simp
  unfold spl
  rw [h1, h2]
  unfold fill
  rw [h3]
theorem fill_all {k : Nat} (rs : List (List Int)) : fill k rs rs.length = rs.flatten := by simp [fill]
theorem fill_none {k : Nat} (rs : List (List Int)) : fill k rs 0 = List.replicate (rs.length * k) 0 := by simp [fill]

section
variable {P : Program} {T : Nat → Option TI} {Γ : Ctx} {ops : Array Oper} {Q : (Nat → Value) → Own → Prop} {rest : List Oper} {f : Nat → Value} {own : Own}
variable {ty : TypeId} {pos : String} {aft : Array Edge}
theorem vops_storeRow (i : Nat) (hT : TyOk P T) {t : Nat} {x y : Operand} {b o : Nat} {q r : List Int} {ti : TI} {e n : Nat} (ht : T t = some ti) (hn : r.length = ti.size) (hx : ev f x = .pointer (some ⟨b, 0 + o, none⟩)) (hy : ev f y = .agg (ints r).toArray)
    (hi : own[i]? = some (b, ⟨ints q, e, n, none⟩)) (hq : q.length = n) (hlen : o + r.length ≤ n)
    (kk : VOps P Γ ops Q rest f (own.set i (b, ⟨ints (spl q o r), e, n, none⟩))) : VOps P Γ ops Q (⟨none, .store t x y, ty, pos, aft, none⟩ :: rest) f own := by
  rw [Nat.zero_add] at hx
  refine vops_storeN i hT (cs := ints r) ht (by rw [ints_length]; exact hn) hx (by rw [hy]; rfl) ints_one hi (by rw [ints_length]; exact hlen) (by rw [ints_length]; exact hq) ?_
  rw [splice_ints]; exact kk
/-- A list of rows, all nought. -/
theorem vops_makeRows (hT : TyOk P T) {d t e a b k : Nat} {z : List Value} {x y : Operand} {ei : TI} {kl kc : IntKind} {n : Nat} (ht : T t = some ⟨.slice e, a, b, z⟩) (he : T e = some ei) (hz : ei.zero = List.replicate k (.int .i64 0)) (hk : 0 < k) (hs : ei.size = k)
    (hx : ev f x = .int kl n) (hy : ev f y = .int kc n) (hb : ei.bytes * n ≤ 281474976710656) (h63 : (n : Int) ≤ 9223372036854775807)
    (kk : ∀ b, b ∉ ids own → VOps P Γ ops Q rest (upd f d (.slice (some ⟨b, 0, none⟩) n n)) ((b, ⟨ints (List.replicate (n * k) 0), e, n * k, none⟩) :: own)) :
    VOps P Γ ops Q (⟨some d, .makeSlice t x y, ty, pos, aft, none⟩ :: rest) f own := by
  refine vops_make hT ht he (by rw [hz]; intro h; have := congrArg List.length h; simp at this; omega) hx hy hb h63 fun b hbn => ?_
  rw [hz, made_same _ _ _ hk, hs, ← ints_zeros]
  exact kk b hbn
end

section
variable {H : Type} {enc : TypeId × Value → H} {P : Program} {T : Nat → Option TI} {w : World} {spare : Nat → Bool} {held : Bool}

theorem RdS.row {k : Nat} {v : Value} {rs : List (List Int)} (h : RdS w v rs) (hk : ∀ r ∈ rs, r.length = k) {i : Nat} {r : List Int} (hi : rs[i]? = some r) :
    ∃ b o cap, v = .slice (some ⟨b, o, none⟩) rs.length cap ∧ ∀ j x, (ints r)[j]? = some x → w.cell? ⟨b, o + i * k + j, none⟩ = some x := by
  rcases h with ⟨a, cap, hv, rfl⟩ | ⟨b, o, cap, hv, hc⟩
  · simp at hi
  · refine ⟨b, o, cap, hv, fun j x hx => ?_⟩
    have hr : r.length = k := hk r (List.mem_of_getElem? hi)
    have hj : j < k := by rw [← hr, ← ints_length]; exact (List.getElem?_eq_some_iff.1 hx).1
    rw [Nat.add_assoc]
    refine hc _ _ ?_
    have := flat_at hk hi hj
    unfold ints at hx ⊢
    rw [List.getElem?_map, this, ← List.getElem?_map]; exact hx

theorem rds_of_trod (hT : TyOk P T) {t u n e : Nat} {a0 b0 a b b2 : Nat} {z0 z z2 : List Value} (hts : T t = some ⟨.slice u, a0, b0, z0⟩) (ht : T u = some ⟨.arr n e, a, b, z⟩) (he : T e = some ⟨.int .i64, 1, b2, z2⟩) (hn : a = n) (hpos : 0 < n) {fuel : Nat} {cs : List Value} {x : DataW H × List MemPlace}
    (h : DataW.trod enc P w 0 spare held fuel t cs = some x) : ∃ v rs, cs = [v] ∧ RdS w v rs ∧ rs.length ≤ maxLen ∧ ∀ r ∈ rs, r.length = n := by
  have hcu : P.cellsOf u = n := (hT.cells ht).trans hn
  rcases DataW.trod_slice (hT.slice hts) h with ⟨rfl, _⟩ | ⟨ad, len, cap, elems, rest, m, _, rfl, _, _, hlc, hcm, hlen, hel, _⟩
  · exact ⟨_, [], rfl, .inl ⟨_, _, rfl, rfl⟩, by simp, by simp⟩
  · rw [hcu] at hel
    have key : ∀ i, i < len → ∃ r, r.length = n ∧ ∀ j x, (ints r)[j]? = some x → w.cell? ((ad.add (i * n)).add j) = some x := fun i hi => by
      have h1 := hel i hi
      obtain ⟨y, hy⟩ : ∃ y, elems[i]? = some y := ⟨_, List.getElem?_eq_getElem (by omega)⟩
      rw [hy, Option.bind_eq_some_iff] at h1
      obtain ⟨cs', hc1, hc2⟩ := h1
      obtain ⟨_, hl, hcell⟩ := World.cells?_some hc1
      obtain ⟨r, rfl, hrl⟩ := ints_of_trod hT ht he hn hc2
      refine ⟨r, hrl, fun j x hx => ?_⟩
      have hj : j < n := by rw [← hrl, ← ints_length]; exact (List.getElem?_eq_some_iff.1 hx).1
      rw [hcell j hj]; exact hx
    have all : ∀ k, k ≤ len → ∃ rs : List (List Int), rs.length = k ∧ (∀ r ∈ rs, r.length = n) ∧ ∀ i r, rs[i]? = some r → ∀ j x, (ints r)[j]? = some x → w.cell? ((ad.add (i * n)).add j) = some x := by
      intro k
      induction k with
      | zero => intro _; exact ⟨[], rfl, by simp, by simp⟩
      | succ k ih =>
        intro hk
        obtain ⟨rs, h1, h2, h3⟩ := ih (by omega)
        obtain ⟨r, hr1, hr2⟩ := key k (by omega)
        refine ⟨rs ++ [r], by simp [h1], fun q hq => ?_, fun i q hi => ?_⟩
        · rcases List.mem_append.1 hq with h | h
          · exact h2 q h
          · have : q = r := by simpa using h
            rw [this]; exact hr1
        · by_cases hik : i < rs.length
          · rw [List.getElem?_append_left hik] at hi
            exact h3 i q hi
          · have hlt := (List.getElem?_eq_some_iff.1 hi).1
            have hik2 : i = k := by rw [List.length_append, h1] at hlt; simp at hlt; omega
            subst hik2
            rw [List.getElem?_append_right (by omega), h1] at hi
            have : r = q := by simpa using hi
            subst this
            exact hr2
    obtain ⟨rs, h1, h2, h3⟩ := all len (Nat.le_refl _)
    refine ⟨_, rs, rfl, ?_, by omega, h2⟩
    by_cases h0 : len = 0
    · subst h0
      exact .inl ⟨_, _, rfl, List.eq_nil_of_length_eq_zero h1⟩
    · obtain ⟨r0, hr0⟩ : ∃ r, rs[0]? = some r := ⟨_, List.getElem?_eq_getElem (by omega)⟩
      have hr0l := h2 r0 (List.mem_of_getElem? hr0)
      have hc0 := h3 0 r0 hr0 0 _ (ints_get (by omega))
      obtain ⟨b, off, spot⟩ := ad
      have hspot : spot = none := by simpa [Addr.add] using World.cell?_spot hc0
      subst hspot
      refine .inr ⟨b, off, cap, by rw [h1], fun j x hx => ?_⟩
      have hj : j < rs.flatten.length := by rw [← ints_length]; exact (List.getElem?_eq_some_iff.1 hx).1
      rw [flat_length h2] at hj
      have hdiv : j / n < rs.length := Nat.div_lt_of_lt_mul (by rw [Nat.mul_comm]; exact hj)
      obtain ⟨r, hr⟩ : ∃ r, rs[j / n]? = some r := ⟨_, List.getElem?_eq_getElem hdiv⟩
      have hmod : j % n < n := Nat.mod_lt _ hpos
      have hdm : j / n * n + j % n = j := by rw [Nat.mul_comm]; exact Nat.div_add_mod j n
      have hfl := flat_at h2 hr hmod
      rw [hdm] at hfl
      have := h3 _ r hr (j % n) x (by
        unfold ints at hx ⊢
        rw [List.getElem?_map] at hx ⊢
        rw [← hfl]; exact hx)
      rw [Addr.add_lit, Addr.add_lit] at this
      rw [← this]
      congr 2
      omega

/-- The argument is a schedule: a number and its rounds. -/
theorem o_sched (hT : TyOk P T) {t s u n e ty2 : Nat} {a1 b1 b0 a b b2 b3 base : Nat} {z1 z0 z z2 z3 : List Value} (hst : T t = some ⟨.struct [(0, ty2), (1, s)], a1, b1, z1⟩) (hi : T ty2 = some ⟨.int .i64, 1, b3, z3⟩)
    (hts : T s = some ⟨.slice u, 1, b0, z0⟩) (ht : T u = some ⟨.arr n e, a, b, z⟩) (he : T e = some ⟨.int .i64, 1, b2, z2⟩) (hn : a = n) (hpos : 0 < n) (ha1 : a1 = 2) {v : Value} {r : Reach} {d : DataW H} {ps : List MemPlace}
    (hok : Value.okWide P w r base t v) (h : DataW.Trod enc P w 0 spare held t v d ps) : ∃ m sl rs, v = .agg #[.int .i64 m, sl] ∧ RdS w sl rs ∧ rs.length ≤ maxLen ∧ ∀ r ∈ rs, r.length = n := by
  obtain ⟨fuel, hf⟩ := h
  obtain ⟨dd, hd, fields, rfl, hfs⟩ := (hT t _ hst).desc
  obtain ⟨l⟩ := fields
  have hl2 : l.length = 2 := by simpa using congrArg List.length hfs
  match l, hl2 with
  | [f0, f1], _ =>
    simp only [List.map_cons, List.map_nil, List.cons.injEq, Prod.mk.injEq, and_true] at hfs
    obtain ⟨⟨h00, h01⟩, h10, h11⟩ := hfs
    unfold Value.okWide at hok
    rw [hd] at hok
    obtain ⟨cs, rfl, _, _⟩ := hok
    obtain ⟨y0, y1, m, _, hl, hy0, hy1⟩ := trod_struct2 hd hf
    rw [h00, h01, hT.cells hi] at hy0
    rw [h10, h11, hT.cells hts] at hy1
    rw [hT.cells hst] at hl
    obtain ⟨q, hq, _⟩ := DataW.trod_int (hT.und hi (d := .int .i64) (fun _ h => h)) hy0
    obtain ⟨sl, rs, hsl, hr1, hrm, hr2⟩ := rds_of_trod hT hts ht he hn hpos hy1
    refine ⟨q, sl, rs, ?_, hr1, hrm, hr2⟩
    have hl2 : cs.toList.length = 2 := by have : cs.toList.length = a1 := hl; omega
    have hq' : (cs.toList.drop 0).take 1 = [.int .i64 q] := hq
    have hs' : (cs.toList.drop 1).take 1 = [sl] := hsl
    obtain ⟨cl⟩ := cs
    match cl, hl2 with
    | [c0, c1], _ =>
      simp only [List.drop_zero, List.drop_succ_cons, List.take_succ_cons, List.take_zero, List.cons.injEq, and_true] at hq' hs'
      rw [hq', hs']
end
end Go.VL
