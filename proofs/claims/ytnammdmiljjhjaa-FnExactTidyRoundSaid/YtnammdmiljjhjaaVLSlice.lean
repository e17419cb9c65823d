import Derived.Test.YtnammdmiljjhjaaVLDraw
import Derived.Laws.OwnMore
/- A part of the proof: Slice. No conditions of its own. -/
namespace Go.VL
open Go.RowKit

section
variable {P : Program} {T : Nat → Option TI} {Γ : Ctx} {ops : Array Oper} {Q : (Nat → Value) → Own → Prop} {rest : List Oper} {f : Nat → Value} {own : Own}
variable {ty : TypeId} {pos : String} {aft : Array Edge}

theorem TyOk.full (hT : TyOk P T) {t : Nat} {i : TI} (ht : T t = some i) (hz : i.zero ≠ []) : ∃ (x : TypeInfo) (z : Value), P.info? t = some x ∧ x.size = i.size ∧ x.bytes = i.bytes ∧ x.zero = some z ∧ z.cells.toList = i.zero := by
  obtain ⟨x, hx, hs, hb, h | ⟨z, hz1, hz2⟩⟩ := (hT t i ht).info
  · exact absurd h hz
  · exact ⟨x, z, hx, hs, hb, hz1, hz2⟩
theorem TyOk.slice (hT : TyOk P T) {t e a b : Nat} {z : List Value} (ht : T t = some ⟨.slice e, a, b, z⟩) : P.underlying t = some (.slice e) :=
  hT.und ht (d := .slice e) (fun _ h => h)

/-- A slice is made. -/
theorem vops_make (hT : TyOk P T) {d t e a b : Nat} {z : List Value} {x y : Operand} {ei : TI} {kl kc : IntKind} {n : Nat} (ht : T t = some ⟨.slice e, a, b, z⟩) (he : T e = some ei) (hz : ei.zero ≠ [])
    (hx : ev f x = .int kl n) (hy : ev f y = .int kc n) (hb : ei.bytes * n ≤ 281474976710656) (h63 : (n : Int) ≤ 9223372036854775807)
    (k : ∀ b, b ∉ ids own → VOps P Γ ops Q rest (upd f d (.slice (some ⟨b, 0, none⟩) n n)) ((b, ⟨(madeCells ei.zero.toArray (n * ei.size)).toList, e, n * ei.size, none⟩) :: own)) :
    VOps P Γ ops Q (⟨some d, .makeSlice t x y, ty, pos, aft, none⟩ :: rest) f own :=
  vops_go fun w hg => by
    obtain ⟨xi, zv, h1, h2, h3, h4, h5⟩ := hT.full he hz
    show RunsTo P ((Instr.makeSlice t (ev f x) (ev f y) >>= fun v => pure (Next.value v)).run P w) _
    have hr := run_make (P := P) w t e xi zv (hT.slice ht) h1 h4 kl kc n n (by omega) (Int.le_refl _) (by rw [h3]; omega) h63
    rw [hx, hy, run_val, hr]
    simp only [Int.toNat_natCast]
    obtain ⟨g1, g2, g3⟩ := hg.new (madeCells zv.cells (n * xi.size)) e
    refine ⟨_, g1, ⟨g3.mono (by simp), fun c hc => ?_⟩, ?_⟩
    · rcases List.mem_cons.1 hc with h | h
      · exact .inr (Nat.le_of_eq h.symm)
      · exact .inl h
    have e2 : zv.cells = ei.zero.toArray := by rw [← h5]
    rw [size_madeCells, e2, h2]
    exact k _ g2

/-- Some cells of a block are written anew. -/
def splice (l : List Value) (o : Nat) (cs : List Value) : List Value := l.take o ++ cs ++ l.drop (o + cs.length)
theorem vops_storeN (i : Nat) (hT : TyOk P T) {t : Nat} {x y : Operand} {b o : Nat} {cs : List Value} {ti : TI} {k : Blk} (ht : T t = some ti) (hn : cs.length = ti.size) (hx : ev f x = .pointer (some ⟨b, o, none⟩)) (hy : (ev f y).cells.toList = cs)
    (h1 : ∀ v ∈ cs, v.oneCell' = true) (hi : own[i]? = some (b, k)) (hlen : o + cs.length ≤ k.size) (hfull : k.cells.length = k.size)
    (kk : VOps P Γ ops Q rest f (own.set i (b, ⟨splice k.cells o cs, k.elem, k.size, none⟩))) (hrow : k.obj = none := by rfl) : VOps P Γ ops Q (⟨none, .store t x y, ty, pos, aft, none⟩ :: rest) f own :=
  vops_go0 fun w hg => by
    show RunsTo P ((do Instr.storeAt t (ev f x) (ev f y); pure Next.skip : Sem Next).run P w) _
    have hm := List.mem_of_getElem? hi
    obtain ⟨arr, a1, a2, a3⟩ := hg.ok.row hm hrow
    have harr : arr.toList = k.cells := by
      apply List.ext_getElem?
      intro j
      by_cases hj : j < k.cells.length
      · have := a3 j _ (List.getElem?_eq_getElem hj)
        rw [List.getElem?_eq_getElem hj, ← this]; simp
      · have hB : k.cells.length ≤ j := by omega
        have hA : arr.toList.length ≤ j := by rw [Array.length_toList]; omega
        rw [List.getElem?_eq_none hA, List.getElem?_eq_none hB]
    have hst : (storeVar t ⟨b, o, none⟩ (ev f y)).run P w = .ok () (w.setRow b (splice k.cells o cs).toArray) := by
      unfold storeVar
      rw [Sem.run_bind, hT.size ht, Result.andThen_ok]
      have e : (ev f y).cells.size = ti.size := by rw [← hn, ← hy]; simp
      rw [if_neg (by simpa using e)]
      have := run_storeCells_at (P := P) b o k.elem cs 0 arr w a1 (by omega) h1
      rw [harr] at this
      simpa [splice, hy] using this
    have : (Instr.storeAt t (ev f x) (ev f y)).run P w = .ok () (w.setRow b (splice k.cells o cs).toArray) := by
      rw [hx]; exact hst
    rw [Sem.run_bind, this]
    have hfr : Fr [b] w (w.setRow b (splice k.cells o cs).toArray) := ⟨rfl, rfl, rfl, Nat.le_refl _, by simp, fun c hc hne => setRow_other w b c _ (by simpa using hne)⟩
    refine ⟨_, hg.write (k' := ⟨splice k.cells o cs, k.elem, k.size, none⟩) hi hfr (Blk.ofRow ⟨(splice k.cells o cs).toArray, setRow_heap w b arr _ _ _ a1, by simp [splice]; omega, fun j v hv => by simpa using hv⟩), ⟨hfr.mono (fun x hx => by
      have e : x = b := by simpa using hx
      rw [e]; exact ids_mem hm), fun c hc => .inl (by rwa [ids_set hi] at hc)⟩, kk⟩

/-! slices of one's own that grow -/
def SlAt (e size : Nat) (v : Value) (n : Nat) (cells : List Value) (own rest : Own) : Prop :=
  cells.length = n * size ∧ ((v = .slice none 0 0 ∧ n = 0 ∧ own = rest) ∨ ∃ b cap, v = .slice (some ⟨b, 0, none⟩) n cap ∧ n ≤ cap ∧ cap ≤ maxLen ∧ own = (b, ⟨cells, e, cap * size, none⟩) :: rest)
theorem SlAt.nil {e size : Nat} {own : Own} : SlAt e size (.slice none 0 0) 0 [] own own := ⟨by simp, .inl ⟨rfl, rfl, rfl⟩⟩

theorem Good.tail {w : World} {p : Nat × Blk} (hg : Good Γ (p :: own) w) : Good Γ own w :=
  ⟨hg.fr, hg.ok.sub (List.nodup_cons.1 (show (p.1 :: ids own).Nodup from hg.ok.nodup)).2 (fun _ h => List.mem_cons_of_mem _ h), fun b k h => hg.mine b k (List.mem_cons_of_mem _ h)⟩

theorem Good.newP {w : World} (hg : Good Γ own w) (arr : Array Value) (e : TypeId) {cells : List Value} {n : Nat} (hn : arr.size = n) (hc : ∀ (j : Nat) (v : Value), cells[j]? = some v → arr[j]? = some v) :
    Good Γ ((w.heap.size, ⟨cells, e, n, none⟩) :: own) (w.alloc (.cells arr e)) := by
  obtain ⟨h1, h2, h3⟩ := hg.new arr e
  refine ⟨h1.fr, ⟨h1.ok.nodup, fun b k hb => ?_⟩, fun b k hb => ?_⟩
  · rcases List.mem_cons.1 hb with h | h
    · cases h; exact Blk.ofRow ⟨arr, heap_alloc_new w _, hn, hc⟩
    · exact h1.ok.blk b k (List.mem_cons_of_mem _ h)
  · rcases List.mem_cons.1 hb with h | h
    · cases h; exact h1.mine w.heap.size _ List.mem_cons_self
    · exact h1.mine b k (List.mem_cons_of_mem _ h)

theorem prefix_get {cells : List Value} {arr : Array Value} {r : List Value} (h : arr.toList = cells ++ r) : ∀ (j : Nat) (v : Value), cells[j]? = some v → arr[j]? = some v := fun j v hv => by
  have hj : j < cells.length := (List.getElem?_eq_some_iff.1 hv).1
  have : arr.toList[j]? = some v := by rw [h, List.getElem?_append_left hj]; exact hv
  simpa using this

/-- A slice of one's own gets more elements behind. -/
theorem vops_append (hT : TyOk P T) {d t e a b : Nat} {z : List Value} {x y : Operand} {ei : TI} {n m c : Nat} {cells news : List Value} {ob oo : Nat} {rest' : Own} (ht : T t = some ⟨.slice e, a, b, z⟩) (he : T e = some ei) (hz : ei.zero ≠ [])
    (hzl : ei.zero.length = ei.size)
    (hs : SlAt e ei.size (ev f x) n cells own rest') (hy : ev f y = .slice (some ⟨ob, oo, none⟩) m c) (hl : news.length = m * ei.size) (hnews : SeesL Γ own ob oo news) (h1 : ∀ u ∈ news, u.oneCell' = true)
    (hm : 0 < m) (h63 : n + m ≤ maxLen) (hbytes : (n + m) * ei.bytes ≤ 140737488355328)
    (k : ∀ v own', SlAt e ei.size v (n + m) (cells ++ news) own' rest' → VOps P Γ ops Q rest (upd f d v) own') :
    VOps P Γ ops Q (⟨some d, .call ⟨.builtin .append, #[x, y], #[t, t]⟩, ty, pos, aft, none⟩ :: rest) f own :=
  vops_go fun w hg => by
    obtain ⟨xi, zv, i1, i2, i3, i4, i5⟩ := hT.full he hz
    have hzs : zv.cells.size = ei.size := by rw [← Array.length_toList, i5, hzl]
    have h63' : n + m ≤ 9223372036854775807 := by simp only [maxLen] at h63; omega
    have hlen : (cells ++ news).length = (n + m) * ei.size := by rw [List.length_append, hs.1, hl, Nat.add_mul]
    have hnw : ∀ j u, news[j]? = some u → w.cell? ((⟨ob, oo, none⟩ : Addr).add j) = some u := fun j u hu => by rw [Addr.add_lit]; exact hnews j u hu w hg
    have run : ∀ {v : Value} {w' : World}, (Builtin.append_ #[t, t] ty #[ev f x, ev f y]).run P w = .ok v w' →
        (execOp (ev f) ⟨some d, .call ⟨.builtin .append, #[x, y], #[t, t]⟩, ty, pos, aft, none⟩).run P w = .ok (.value v) w' := fun h => by
      unfold execOp
      simp only [resolve, invoke, builtin, Sem.run_bind, Sem.run_pure, Result.andThen_ok, List.map_toArray, List.map_cons, List.map_nil, h]
    have fin : ∀ (old : Nat), old < n + m → Good Γ rest' w → (∀ b ∈ ids rest', b ∈ ids own) → ∀ arr : Array Value, arr.toList = cells ++ news ++ (Builtin.zeroCells zv.cells (grownCap w (n + m) old e - (n + m))).toList →
        ∃ own', Good Γ own' (w.drew.alloc (.cells arr e)) ∧ (Fr (ids own) w (w.drew.alloc (.cells arr e)) ∧ ∀ b ∈ ids own', b ∈ ids own ∨ w.heap.size ≤ b) ∧
          VOps P Γ ops Q rest (upd f d (.slice (some ⟨w.heap.size, 0, none⟩) (n + m) (grownCap w (n + m) old e))) own' := fun old ho hr hsub arr harr => by
      have hge := grownCap_ge w (n + m) old e
      have hcm : grownCap w (n + m) old e ≤ maxLen := grownCap_le_maxLen w (n + m) old e h63
      have hsz : arr.size = grownCap w (n + m) old e * ei.size := by
        rw [← Array.length_toList, harr, List.length_append, hlen, Array.length_toList, size_zeroCells, hzs, ← Nat.add_mul]
        congr 1; omega
      refine ⟨(w.heap.size, ⟨cells ++ news, e, grownCap w (n + m) old e * ei.size, none⟩) :: rest', hr.drew.newP arr e hsz (prefix_get harr), ⟨⟨rfl, rfl, rfl, Nat.le_succ _, by simp, fun k hk _ => heap_alloc_old w.drew _ k hk⟩, fun b hb => ?_⟩, k _ _ ⟨hlen, .inr ⟨_, _, rfl, hge, hcm, rfl⟩⟩⟩
      rcases List.mem_cons.1 hb with h | h
      · exact .inr (Nat.le_of_eq h.symm)
      · exact .inl (hsub b h)
    rcases hs.2 with ⟨hv, hn, hrest⟩ | ⟨g, cap, hv, hnc, hcm, hrest⟩
    · subst hrest
      subst hn
      have hc : cells = [] := List.eq_nil_of_length_eq_zero (by simpa using hs.1)
      subst hc
      have hr := run_append_nil (P := P) w t ty e xi zv (hT.slice ht) i1 i4 ⟨ob, oo, none⟩ m c news (by rw [i2]; exact hl) hnw hm (by omega) (by rw [i3]; simp only [Nat.zero_add] at hbytes; omega)
      rw [← hv, ← hy] at hr
      rw [run hr]
      have := fin 0 (by omega) hg (fun _ h => h) (news.toArray ++ Builtin.zeroCells zv.cells (grownCap w m 0 e - m)) (by simp)
      simpa [RunsTo] using this
    · subst hrest
      obtain ⟨arr, a1, a2, a3⟩ := hg.ok.row (List.mem_cons_self) rfl
      have a2' : arr.size = cap * ei.size := a2
      have hcell : ∀ j u, cells[j]? = some u → w.cell? ((⟨g, 0, none⟩ : Addr).add j) = some u := fun j u hu => by
        rw [Addr.add_lit, Nat.zero_add]; exact cell_of_blk hg.ok List.mem_cons_self hu
      by_cases hroom : n + m ≤ cap
      · have hle : (n + m) * ei.size ≤ cap * ei.size := Nat.mul_le_mul_right _ hroom
        have htake : arr.toList.take (n * ei.size) = cells := by
          apply List.ext_getElem?
          intro j
          by_cases hj : j < cells.length
          · have := a3 j _ (List.getElem?_eq_getElem hj)
            have hj2 : j < n * ei.size := by rw [← hs.1]; exact hj
            rw [List.getElem?_eq_getElem hj, ← this, List.getElem?_take_of_lt hj2]; simp
          · have hB : cells.length ≤ j := by omega
            have hA : (arr.toList.take (n * ei.size)).length ≤ j := by rw [List.length_take, ← hs.1]; omega
            rw [List.getElem?_eq_none hA, List.getElem?_eq_none hB]
        have hr := run_append_room (P := P) w t ty e xi (hT.slice ht) i1 g n cap arr a1 ⟨ob, oo, none⟩ m c news (by rw [i2]; exact hl) hnw h1 hroom (by rw [i2, a2', hl, ← Nat.add_mul]; exact hle)
        rw [← hv, ← hy, i2, htake] at hr
        rw [run hr]
        have hfr : Fr [g] w (w.setRow g (cells ++ news ++ arr.toList.drop (n * ei.size + news.length)).toArray) := ⟨rfl, rfl, rfl, Nat.le_refl _, by simp, fun c hc hne => setRow_other w g c _ (by simpa using hne)⟩
        have hsz : (cells ++ news ++ arr.toList.drop (n * ei.size + news.length)).length = cap * ei.size := by
          rw [List.length_append, hlen, List.length_drop, Array.length_toList, a2', hl, ← Nat.add_mul]; omega
        refine ⟨_, hg.write (i := 0) (k' := ⟨cells ++ news, e, cap * ei.size, none⟩) rfl hfr (Blk.ofRow ⟨_, setRow_heap w g arr _ _ _ a1, by simpa using hsz, prefix_get (r := arr.toList.drop (n * ei.size + news.length)) rfl⟩), ⟨hfr.mono (fun x hx => ?_), fun c hc => .inl hc⟩, k _ _ ⟨hlen, .inr ⟨g, cap, rfl, hroom, hcm, rfl⟩⟩⟩
        have e : x = g := by simpa using hx
        rw [e]; exact List.mem_cons_self
      · have hr := run_append_grow (P := P) w t ty e xi zv (hT.slice ht) i1 i4 ⟨g, 0, none⟩ n cap cells (by rw [i2]; exact hs.1) hcell ⟨ob, oo, none⟩ m c news (by rw [i2]; exact hl) hnw (by omega) (by omega) (by rw [i3]; exact growslice_fits (by omega) hbytes)
        rw [← hv, ← hy] at hr
        rw [run hr]
        exact fin cap (by omega) hg.tail (fun b hb => List.mem_cons_of_mem _ hb) _ (by simp)
end
end Go.VL
