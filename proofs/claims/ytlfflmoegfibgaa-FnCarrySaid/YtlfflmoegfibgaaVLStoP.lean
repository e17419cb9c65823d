import Derived.Test.YtlfflmoegfibgaaVLBB
/-! A store into a block of which only the beginning is known. -/
namespace Go.VL
open Go.RowKit
theorem splice_app {l r cs : List Value} {o : Nat} (h : o + cs.length ≤ l.length) : splice (l ++ r) o cs = splice l o cs ++ r := by
  unfold splice
  rw [List.take_append_of_le_length (by omega), List.drop_append_of_le_length h]; simp
section
variable {P : Program} {T : Nat → Option TI} {Γ : Ctx} {ops : Array Oper} {Q : (Nat → Value) → Own → Prop} {rest : List Oper} {f : Nat → Value} {own own' : Own}
variable {ty : TypeId} {pos : String} {aft : Array Edge}
theorem vops_storeP (i : Nat) (hT : TyOk P T) {t : Nat} {x y : Operand} {b o : Nat} {cs : List Value} {ti : TI} {k : Blk} (ht : T t = some ti) (hn : cs.length = ti.size) (hx : ev f x = .pointer (some ⟨b, o, none⟩)) (hy : (ev f y).cells.toList = cs)
    (h1 : ∀ v ∈ cs, v.oneCell' = true) (hi : own[i]? = some (b, k)) (hlen : o + cs.length ≤ k.cells.length)
    (kk : VOps P Γ ops Q rest f (own.set i (b, ⟨splice k.cells o cs, k.elem, k.size, none⟩))) (hrow : k.obj = none := by rfl) : VOps P Γ ops Q (⟨none, .store t x y, ty, pos, aft, none⟩ :: rest) f own :=
  vops_go0 fun w hg => by
    show RunsTo P ((do Instr.storeAt t (ev f x) (ev f y); pure Next.skip : Sem Next).run P w) _
    have hm := List.mem_of_getElem? hi
    obtain ⟨arr, a1, a2, a3⟩ := hg.ok.row hm hrow
    have hle : k.cells.length ≤ arr.toList.length := by
      by_cases h0 : k.cells.length = 0
      · omega
      · have h := a3 (k.cells.length - 1) _ (List.getElem?_eq_getElem (by omega))
        have := (Array.getElem?_eq_some_iff.1 h).1
        rw [Array.length_toList]; omega
    obtain ⟨r, hr⟩ : ∃ r, arr.toList = k.cells ++ r := by
      refine ⟨arr.toList.drop k.cells.length, ?_⟩
      have : arr.toList.take k.cells.length = k.cells := by
        apply List.ext_getElem?
        intro j
        by_cases hj : j < k.cells.length
        · have := a3 j _ (List.getElem?_eq_getElem hj)
          rw [List.getElem?_take, if_pos hj, List.getElem?_eq_getElem hj, ← this]; simp
        · rw [List.getElem?_eq_none (by rw [List.length_take]; omega), List.getElem?_eq_none (by omega)]
      conv => lhs; rw [← List.take_append_drop k.cells.length arr.toList, this]
    have hst : (storeVar t ⟨b, o, none⟩ (ev f y)).run P w = .ok () (w.setRow b (splice arr.toList o cs).toArray) := by
      unfold storeVar
      rw [Sem.run_bind, hT.size ht, Result.andThen_ok]
      have e : (ev f y).cells.size = ti.size := by rw [← hn, ← hy]; simp
      rw [if_neg (by simpa using e)]
      have := run_storeCells_at (P := P) b o k.elem cs 0 arr w a1 (by rw [Array.length_toList] at hle; omega) h1
      simpa [splice, hy] using this
    have : (Instr.storeAt t (ev f x) (ev f y)).run P w = .ok () (w.setRow b (splice arr.toList o cs).toArray) := by
      rw [hx]; exact hst
    rw [Sem.run_bind, this]
    have hfr : Fr [b] w (w.setRow b (splice arr.toList o cs).toArray) := ⟨rfl, rfl, rfl, Nat.le_refl _, by simp, fun c hc hne => setRow_other w b c _ (by simpa using hne)⟩
    have hrow2 : (splice arr.toList o cs).toArray.size = k.size := by
      have h3 : arr.toList.length = k.size := by rw [Array.length_toList]; exact a2
      simp [splice]; rw [Array.length_toList] at hle; omega
    refine ⟨_, hg.write (k' := ⟨splice k.cells o cs, k.elem, k.size, none⟩) hi hfr (Blk.ofRow ⟨(splice arr.toList o cs).toArray, setRow_heap w b arr _ _ _ a1, hrow2, fun j v hv => by
      have hj : j < (splice k.cells o cs).length := (List.getElem?_eq_some_iff.1 hv).1
      rw [hr, splice_app hlen]
      simp only [List.getElem?_toArray]
      rw [List.getElem?_append_left hj]; exact hv⟩), ⟨hfr.mono (fun x hx => by
      have e : x = b := by simpa using hx
      rw [e]; exact ids_mem hm), fun c hc => .inl (by rwa [ids_set hi] at hc)⟩, kk⟩
/-- A row of numbers is stored among those that are known. -/
theorem vops_storeRowP (hT : TyOk P T) {t : Nat} {x y : Operand} {b o : Nat} {q r : List Int} {ti : TI} {e n : Nat} (ht : T t = some ti) (hn : r.length = ti.size) (hx : ev f x = .pointer (some ⟨b, o, none⟩)) (hy : ev f y = .agg (ints r).toArray)
    (hu : Upd own own' b ⟨ints q, e, n, none⟩ ⟨ints (spl q o r), e, n, none⟩) (hlen : o + r.length ≤ q.length)
    (kk : VOps P Γ ops Q rest f own') : VOps P Γ ops Q (⟨none, .store t x y, ty, pos, aft, none⟩ :: rest) f own := by
  obtain ⟨i, h1, rfl⟩ := hu.idx
  refine vops_storeP i hT (cs := ints r) ht (by rw [ints_length]; exact hn) hx (by rw [hy]; rfl) ints_one h1 (by show _ ≤ (ints q).length; rw [ints_length, ints_length]; exact hlen) ?_
  show VOps P Γ ops Q rest f (own.set i (b, ⟨splice (ints q) o (ints r), e, n, none⟩))
  rw [splice_ints]; exact kk
/-- The first row of rows is another one. -/
theorem spl_first {r0 r : List Int} {rs : List (List Int)} (h : r0.length = r.length) : spl (r0 :: rs).flatten 0 r = (r :: rs).flatten := by
  unfold spl
  rw [List.take_zero, List.nil_append, List.flatten_cons, List.flatten_cons, Nat.zero_add, ← h, List.drop_left]
end
end Go.VL
