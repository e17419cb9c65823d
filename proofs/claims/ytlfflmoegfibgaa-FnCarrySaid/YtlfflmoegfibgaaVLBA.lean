import Derived.Test.YtlfflmoegfibgaaVLA
import Derived.ProofKit
import Derived.OpenShut
import Derived.ShutString
import Derived.ChangeOld
import Derived.Below
import Derived.Laws.OwnMore
/- Parts of the proof, one after another. No conditions of their own. -/
/- A part of the proof: Law. No conditions of its own. -/
namespace Go.VL
open Go.RowKit Go.ChangeShapes Go.WideShapes Go.ChangeAt

/-! arguments, opened -/
section
variable {H : Type} {enc : TypeId × Value → H} {P : Program} {T : Nat → Option TI} {w : World} {spare : Nat → Bool} {held : Bool}

theorem TyOk.cells {t : Nat} {i : TI} (h : TyOk P T) (ht : T t = some i) : P.cellsOf t = i.size := by
  obtain ⟨x, hx, hs, _⟩ := (h t i ht).info
  simp [Program.cellsOf, hx, hs]

theorem trod_lt {t : Nat} {v : Value} {d : DataW H} {ps : List MemPlace} (h : DataW.Trod enc P w 0 spare held t v d ps) : ∀ x ∈ ps, x.block < w.heap.size := by
  obtain ⟨m, hm⟩ := h
  exact DataW.trod_lt m _ _ _ hm

theorem below_of_res {P : Program} {g : Nat} {as : Array Value} {w : World} {v : Value} (h : Calls P g as w (Res w (Is v))) : Calls P g as w fun e w' => e = .returned v ∧ Below w.heap.size w w' :=
  h.mono fun e w' ⟨v', new, he, hf, _, _, hv, _⟩ => ⟨by rw [he, hv], hf.below⟩
end
end Go.VL

/- A part of the proof: Slice. No conditions of its own. -/
namespace Go.VL
open Go.RowKit

section
variable {P : Program} {T : Nat → Option TI} {Γ : Ctx} {ops : Array Oper} {Q : (Nat → Value) → Own → Prop} {rest : List Oper} {f : Nat → Value} {own : Own}
variable {ty : TypeId} {pos : String} {aft : Array Edge}

theorem TyOk.full (hT : TyOk P T) {t : Nat} {i : TI} (ht : T t = some i) (hz : i.zero ≠ []) : ∃ (x : TypeInfo) (z : Value), P.info? t = some x ∧ x.size = i.size ∧ x.bytes = i.bytes ∧ x.zero = some z ∧ z.cells.toList = i.zero := by
  obtain ⟨x, hx, hs, hb, h | ⟨z, hz1, hz2⟩⟩ := (hT t i ht).info
  · exact absurd h hz
  · exact ⟨x, z, hx, hs, hb, hz1, hz2⟩
theorem TyOk.slice (hT : TyOk P T) {t e a b : Nat} {z : List Value} (ht : T t = some ⟨.slice e, a, b, z⟩) : P.underlying t = some (.slice e) :=
  hT.und ht (d := .slice e) (fun _ h => h)

/-- A slice is made. -/
theorem vops_make (hT : TyOk P T) {d t e a b : Nat} {z : List Value} {x y : Operand} {ei : TI} {kl kc : IntKind} {n : Nat} (ht : T t = some ⟨.slice e, a, b, z⟩) (he : T e = some ei) (hz : ei.zero ≠ [])
    (hx : ev f x = .int kl n) (hy : ev f y = .int kc n) (hb : ei.bytes * n ≤ 281474976710656) (h63 : (n : Int) ≤ 9223372036854775807)
    (k : ∀ b, b ∉ ids own → VOps P Γ ops Q rest (upd f d (.slice (some ⟨b, 0, none⟩) n n)) ((b, ⟨(madeCells ei.zero.toArray (n * ei.size)).toList, e, n * ei.size, none⟩) :: own)) :
    VOps P Γ ops Q (⟨some d, .makeSlice t x y, ty, pos, aft, none⟩ :: rest) f own :=
  vops_go fun w hg => by
    obtain ⟨xi, zv, h1, h2, h3, h4, h5⟩ := hT.full he hz
    show RunsTo P ((Instr.makeSlice t (ev f x) (ev f y) >>= fun v => pure (Next.value v)).run P w) _
    have hr := run_make (P := P) w t e xi zv (hT.slice ht) h1 h4 kl kc n n (by omega) (Int.le_refl _) (by rw [h3]; omega) h63
    rw [hx, hy, run_val, hr]
    simp only [Int.toNat_natCast]
    obtain ⟨g1, g2, g3⟩ := hg.new (madeCells zv.cells (n * xi.size)) e
    refine ⟨_, g1, ⟨g3.mono (by simp), fun c hc => ?_⟩, ?_⟩
    · rcases List.mem_cons.1 hc with h | h
      · exact .inr (Nat.le_of_eq h.symm)
      · exact .inl h
    have e2 : zv.cells = ei.zero.toArray := by rw [← h5]
    rw [size_madeCells, e2, h2]
    exact k _ g2

/-- Some cells of a block are written anew. -/
def splice (l : List Value) (o : Nat) (cs : List Value) : List Value := l.take o ++ cs ++ l.drop (o + cs.length)
theorem vops_storeN (i : Nat) (hT : TyOk P T) {t : Nat} {x y : Operand} {b o : Nat} {cs : List Value} {ti : TI} {k : Blk} (ht : T t = some ti) (hn : cs.length = ti.size) (hx : ev f x = .pointer (some ⟨b, o, none⟩)) (hy : (ev f y).cells.toList = cs)
    (h1 : ∀ v ∈ cs, v.oneCell' = true) (hi : own[i]? = some (b, k)) (hlen : o + cs.length ≤ k.size) (hfull : k.cells.length = k.size)
    (kk : VOps P Γ ops Q rest f (own.set i (b, ⟨splice k.cells o cs, k.elem, k.size, none⟩))) (hrow : k.obj = none := by rfl) : VOps P Γ ops Q (⟨none, .store t x y, ty, pos, aft, none⟩ :: rest) f own :=
  vops_go0 fun w hg => by
    show RunsTo P ((do Instr.storeAt t (ev f x) (ev f y); pure Next.skip : Sem Next).run P w) _
    have hm := List.mem_of_getElem? hi
    obtain ⟨arr, a1, a2, a3⟩ := hg.ok.row hm hrow
    have harr : arr.toList = k.cells := by
      apply List.ext_getElem?
      intro j
      by_cases hj : j < k.cells.length
      · have := a3 j _ (List.getElem?_eq_getElem hj)
        rw [List.getElem?_eq_getElem hj, ← this]; simp
      · have hB : k.cells.length ≤ j := by omega
        have hA : arr.toList.length ≤ j := by rw [Array.length_toList]; omega
        rw [List.getElem?_eq_none hA, List.getElem?_eq_none hB]
    have hst : (storeVar t ⟨b, o, none⟩ (ev f y)).run P w = .ok () (w.setRow b (splice k.cells o cs).toArray) := by
      unfold storeVar
      rw [Sem.run_bind, hT.size ht, Result.andThen_ok]
      have e : (ev f y).cells.size = ti.size := by rw [← hn, ← hy]; simp
      rw [if_neg (by simpa using e)]
      have := run_storeCells_at (P := P) b o k.elem cs 0 arr w a1 (by omega) h1
      rw [harr] at this
      simpa [splice, hy] using this
    have : (Instr.storeAt t (ev f x) (ev f y)).run P w = .ok () (w.setRow b (splice k.cells o cs).toArray) := by
      rw [hx]; exact hst
    rw [Sem.run_bind, this]
    have hfr : Fr [b] w (w.setRow b (splice k.cells o cs).toArray) := ⟨rfl, rfl, rfl, Nat.le_refl _, by simp, fun c hc hne => setRow_other w b c _ (by simpa using hne)⟩
    refine ⟨_, hg.write (k' := ⟨splice k.cells o cs, k.elem, k.size, none⟩) hi hfr (Blk.ofRow ⟨(splice k.cells o cs).toArray, setRow_heap w b arr _ _ _ a1, by simp [splice]; omega, fun j v hv => by simpa using hv⟩), ⟨hfr.mono (fun x hx => by
      have e : x = b := by simpa using hx
      rw [e]; exact ids_mem hm), fun c hc => .inl (by rwa [ids_set hi] at hc)⟩, kk⟩

/-! slices of one's own that grow -/
def SlAt (e size : Nat) (v : Value) (n : Nat) (cells : List Value) (own rest : Own) : Prop :=
  cells.length = n * size ∧ ((v = .slice none 0 0 ∧ n = 0 ∧ own = rest) ∨ ∃ b cap, v = .slice (some ⟨b, 0, none⟩) n cap ∧ n ≤ cap ∧ cap ≤ maxLen ∧ own = (b, ⟨cells, e, cap * size, none⟩) :: rest)
theorem SlAt.nil {e size : Nat} {own : Own} : SlAt e size (.slice none 0 0) 0 [] own own := ⟨by simp, .inl ⟨rfl, rfl, rfl⟩⟩

theorem Good.tail {w : World} {p : Nat × Blk} (hg : Good Γ (p :: own) w) : Good Γ own w :=
  ⟨hg.fr, hg.ok.sub (List.nodup_cons.1 (show (p.1 :: ids own).Nodup from hg.ok.nodup)).2 (fun _ h => List.mem_cons_of_mem _ h), fun b k h => hg.mine b k (List.mem_cons_of_mem _ h)⟩

theorem Good.newP {w : World} (hg : Good Γ own w) (arr : Array Value) (e : TypeId) {cells : List Value} {n : Nat} (hn : arr.size = n) (hc : ∀ (j : Nat) (v : Value), cells[j]? = some v → arr[j]? = some v) :
    Good Γ ((w.heap.size, ⟨cells, e, n, none⟩) :: own) (w.alloc (.cells arr e)) := by
  obtain ⟨h1, h2, h3⟩ := hg.new arr e
  refine ⟨h1.fr, ⟨h1.ok.nodup, fun b k hb => ?_⟩, fun b k hb => ?_⟩
  · rcases List.mem_cons.1 hb with h | h
    · cases h; exact Blk.ofRow ⟨arr, heap_alloc_new w _, hn, hc⟩
    · exact h1.ok.blk b k (List.mem_cons_of_mem _ h)
  · rcases List.mem_cons.1 hb with h | h
    · cases h; exact h1.mine w.heap.size _ List.mem_cons_self
    · exact h1.mine b k (List.mem_cons_of_mem _ h)

theorem prefix_get {cells : List Value} {arr : Array Value} {r : List Value} (h : arr.toList = cells ++ r) : ∀ (j : Nat) (v : Value), cells[j]? = some v → arr[j]? = some v := fun j v hv => by
  have hj : j < cells.length := (List.getElem?_eq_some_iff.1 hv).1
  have : arr.toList[j]? = some v := by rw [h, List.getElem?_append_left hj]; exact hv
  simpa using this

/-- A slice of one's own gets more elements behind. -/
theorem vops_append (hT : TyOk P T) {d t e a b : Nat} {z : List Value} {x y : Operand} {ei : TI} {n m c : Nat} {cells news : List Value} {ob oo : Nat} {rest' : Own} (ht : T t = some ⟨.slice e, a, b, z⟩) (he : T e = some ei) (hz : ei.zero ≠ [])
    (hzl : ei.zero.length = ei.size)
    (hs : SlAt e ei.size (ev f x) n cells own rest') (hy : ev f y = .slice (some ⟨ob, oo, none⟩) m c) (hl : news.length = m * ei.size) (hnews : SeesL Γ own ob oo news) (h1 : ∀ u ∈ news, u.oneCell' = true)
    (hm : 0 < m) (h63 : n + m ≤ maxLen) (hbytes : (n + m) * ei.bytes ≤ 140737488355328)
    (k : ∀ v own', SlAt e ei.size v (n + m) (cells ++ news) own' rest' → VOps P Γ ops Q rest (upd f d v) own') :
    VOps P Γ ops Q (⟨some d, .call ⟨.builtin .append, #[x, y], #[t, t]⟩, ty, pos, aft, none⟩ :: rest) f own :=
  vops_go fun w hg => by
    obtain ⟨xi, zv, i1, i2, i3, i4, i5⟩ := hT.full he hz
    have hzs : zv.cells.size = ei.size := by rw [← Array.length_toList, i5, hzl]
    have h63' : n + m ≤ 9223372036854775807 := by simp only [maxLen] at h63; omega
    have hlen : (cells ++ news).length = (n + m) * ei.size := by rw [List.length_append, hs.1, hl, Nat.add_mul]
    have hnw : ∀ j u, news[j]? = some u → w.cell? ((⟨ob, oo, none⟩ : Addr).add j) = some u := fun j u hu => by rw [Addr.add_lit]; exact hnews j u hu w hg
    have run : ∀ {v : Value} {w' : World}, (Builtin.append_ #[t, t] ty #[ev f x, ev f y]).run P w = .ok v w' →
        (execOp (ev f) ⟨some d, .call ⟨.builtin .append, #[x, y], #[t, t]⟩, ty, pos, aft, none⟩).run P w = .ok (.value v) w' := fun h => by
      unfold execOp
      simp only [resolve, invoke, builtin, Sem.run_bind, Sem.run_pure, Result.andThen_ok, List.map_toArray, List.map_cons, List.map_nil, h]
    have fin : ∀ (old : Nat), old < n + m → Good Γ rest' w → (∀ b ∈ ids rest', b ∈ ids own) → ∀ arr : Array Value, arr.toList = cells ++ news ++ (Builtin.zeroCells zv.cells (grownCap w (n + m) old e - (n + m))).toList →
        ∃ own', Good Γ own' (w.drew.alloc (.cells arr e)) ∧ (Fr (ids own) w (w.drew.alloc (.cells arr e)) ∧ ∀ b ∈ ids own', b ∈ ids own ∨ w.heap.size ≤ b) ∧
          VOps P Γ ops Q rest (upd f d (.slice (some ⟨w.heap.size, 0, none⟩) (n + m) (grownCap w (n + m) old e))) own' := fun old ho hr hsub arr harr => by
      have hge := grownCap_ge w (n + m) old e
      have hcm : grownCap w (n + m) old e ≤ maxLen := grownCap_le_maxLen w (n + m) old e h63
      have hsz : arr.size = grownCap w (n + m) old e * ei.size := by
        rw [← Array.length_toList, harr, List.length_append, hlen, Array.length_toList, size_zeroCells, hzs, ← Nat.add_mul]
        congr 1; omega
      refine ⟨(w.heap.size, ⟨cells ++ news, e, grownCap w (n + m) old e * ei.size, none⟩) :: rest', hr.drew.newP arr e hsz (prefix_get harr), ⟨⟨rfl, rfl, rfl, Nat.le_succ _, by simp, fun k hk _ => heap_alloc_old w.drew _ k hk⟩, fun b hb => ?_⟩, k _ _ ⟨hlen, .inr ⟨_, _, rfl, hge, hcm, rfl⟩⟩⟩
      rcases List.mem_cons.1 hb with h | h
      · exact .inr (Nat.le_of_eq h.symm)
      · exact .inl (hsub b h)
    rcases hs.2 with ⟨hv, hn, hrest⟩ | ⟨g, cap, hv, hnc, hcm, hrest⟩
    · subst hrest
      subst hn
      have hc : cells = [] := List.eq_nil_of_length_eq_zero (by simpa using hs.1)
      subst hc
      have hr := run_append_nil (P := P) w t ty e xi zv (hT.slice ht) i1 i4 ⟨ob, oo, none⟩ m c news (by rw [i2]; exact hl) hnw hm (by omega) (by rw [i3]; simp only [Nat.zero_add] at hbytes; omega)
      rw [← hv, ← hy] at hr
      rw [run hr]
      have := fin 0 (by omega) hg (fun _ h => h) (news.toArray ++ Builtin.zeroCells zv.cells (grownCap w m 0 e - m)) (by simp)
      simpa [RunsTo] using this
    · subst hrest
      obtain ⟨arr, a1, a2, a3⟩ := hg.ok.row (List.mem_cons_self) rfl
      have a2' : arr.size = cap * ei.size := a2
      have hcell : ∀ j u, cells[j]? = some u → w.cell? ((⟨g, 0, none⟩ : Addr).add j) = some u := fun j u hu => by
        rw [Addr.add_lit, Nat.zero_add]; exact cell_of_blk hg.ok List.mem_cons_self hu
      by_cases hroom : n + m ≤ cap
      · have hle : (n + m) * ei.size ≤ cap * ei.size := Nat.mul_le_mul_right _ hroom
        have htake : arr.toList.take (n * ei.size) = cells := by
          apply List.ext_getElem?
          intro j
          by_cases hj : j < cells.length
          · have := a3 j _ (List.getElem?_eq_getElem hj)
            have hj2 : j < n * ei.size := by rw [← hs.1]; exact hj
            rw [List.getElem?_eq_getElem hj, ← this, List.getElem?_take_of_lt hj2]; simp
          · have hB : cells.length ≤ j := by omega
            have hA : (arr.toList.take (n * ei.size)).length ≤ j := by rw [List.length_take, ← hs.1]; omega
            rw [List.getElem?_eq_none hA, List.getElem?_eq_none hB]
        have hr := run_append_room (P := P) w t ty e xi (hT.slice ht) i1 g n cap arr a1 ⟨ob, oo, none⟩ m c news (by rw [i2]; exact hl) hnw h1 hroom (by rw [i2, a2', hl, ← Nat.add_mul]; exact hle)
        rw [← hv, ← hy, i2, htake] at hr
        rw [run hr]
        have hfr : Fr [g] w (w.setRow g (cells ++ news ++ arr.toList.drop (n * ei.size + news.length)).toArray) := ⟨rfl, rfl, rfl, Nat.le_refl _, by simp, fun c hc hne => setRow_other w g c _ (by simpa using hne)⟩
        have hsz : (cells ++ news ++ arr.toList.drop (n * ei.size + news.length)).length = cap * ei.size := by
          rw [List.length_append, hlen, List.length_drop, Array.length_toList, a2', hl, ← Nat.add_mul]; omega
        refine ⟨_, hg.write (i := 0) (k' := ⟨cells ++ news, e, cap * ei.size, none⟩) rfl hfr (Blk.ofRow ⟨_, setRow_heap w g arr _ _ _ a1, by simpa using hsz, prefix_get (r := arr.toList.drop (n * ei.size + news.length)) rfl⟩), ⟨hfr.mono (fun x hx => ?_), fun c hc => .inl hc⟩, k _ _ ⟨hlen, .inr ⟨g, cap, rfl, hroom, hcm, rfl⟩⟩⟩
        have e : x = g := by simpa using hx
        rw [e]; exact List.mem_cons_self
      · have hr := run_append_grow (P := P) w t ty e xi zv (hT.slice ht) i1 i4 ⟨g, 0, none⟩ n cap cells (by rw [i2]; exact hs.1) hcell ⟨ob, oo, none⟩ m c news (by rw [i2]; exact hl) hnw (by omega) (by omega) (by rw [i3]; exact growslice_fits (by omega) hbytes)
        rw [← hv, ← hy] at hr
        rw [run hr]
        exact fin cap (by omega) hg.tail (fun b hb => List.mem_cons_of_mem _ hb) _ (by simp)
end
end Go.VL

/- A part of the proof: Open. No conditions of its own. -/
namespace Go.VL
open Go.RowKit Go.ChangeShapes Go.WideShapes Go.ChangeAt

/-- v is a list of lists of numbers that lie end to end in w. -/
def RdS (w : World) (v : Value) (rs : List (List Int)) : Prop :=
  (∃ a cap, v = .slice a 0 cap ∧ rs = []) ∨ ∃ b o cap, v = .slice (some ⟨b, o, none⟩) rs.length cap ∧ ∀ j x, (ints rs.flatten)[j]? = some x → w.cell? ⟨b, o + j, none⟩ = some x
theorem RdS.same {w w' : World} {v : Value} {rs : List (List Int)} (h : RdS w v rs) (hf : Fr [] w w') : RdS w' v rs := by
  rcases h with h | ⟨b, o, cap, hv, hc⟩
  · exact .inl h
  · exact .inr ⟨b, o, cap, hv, fun j x hx => hf.cell (by simp) (hc j x hx)⟩
theorem RdS.len {w : World} {v : Value} {rs : List (List Int)} (h : RdS w v rs) : ∃ a cap, v = .slice a rs.length cap := by
  rcases h with ⟨a, cap, hv, rfl⟩ | ⟨b, o, cap, hv, _⟩
  · exact ⟨a, cap, hv⟩
  · exact ⟨_, cap, hv⟩

theorem flat_at {k : Nat} : ∀ {rs : List (List Int)}, (∀ r ∈ rs, r.length = k) → ∀ {i j : Nat} {r : List Int}, rs[i]? = some r → j < k → rs.flatten[i * k + j]? = r[j]?
  | [], _, i, j, r, hi, _ => by simp at hi
  | q :: rs, hk, 0, j, r, hi, hj => by
    have : q = r := by simpa using hi
    subst this
    rw [List.flatten_cons, List.getElem?_append_left (by rw [hk q (by simp)]; omega)]
    simp
  | q :: rs, hk, i + 1, j, r, hi, hj => by
    have hi' : rs[i]? = some r := by simpa using hi
    have := flat_at (rs := rs) (fun r hr => hk r (by simp [hr])) hi' hj
    rw [List.flatten_cons, List.getElem?_append_right (by rw [hk q (by simp), Nat.add_mul]; omega), hk q (by simp), ← this]
    congr 1
    rw [Nat.add_mul]; omega
theorem flat_length {k : Nat} : ∀ {rs : List (List Int)}, (∀ r ∈ rs, r.length = k) → rs.flatten.length = rs.length * k
  | [], _ => by simp
  | q :: rs, hk => by
    rw [List.flatten_cons, List.length_append, flat_length (rs := rs) (fun r hr => hk r (by simp [hr])), hk q (by simp), List.length_cons, Nat.add_mul]; omega

/-- A row of numbers is laid at a place. -/
def spl (q : List Int) (o : Nat) (r : List Int) : List Int := q.take o ++ r ++ q.drop (o + r.length)
theorem splice_ints (q : List Int) (o : Nat) (r : List Int) : splice (ints q) o (ints r) = ints (spl q o r) := by
  simp [splice, spl, ints, List.map_take, List.map_drop]
theorem made_same (v : Value) (k n : Nat) (hk : 0 < k) : (madeCells (List.replicate k v).toArray n).toList = List.replicate n v := by
  apply List.ext_getElem?
  intro j
  by_cases hj : j < n
  · have h1 : j % k < k := Nat.mod_lt _ hk
    simp [madeCells, hj, h1]
  · have hA : (madeCells (List.replicate k v).toArray n).toList.length ≤ j := by rw [Array.length_toList, size_madeCells]; omega
    have hB : (List.replicate n v).length ≤ j := by simp; omega
    rw [List.getElem?_eq_none hA, List.getElem?_eq_none hB]
theorem ints_zeros (n : Nat) : ints (List.replicate n 0) = List.replicate n (.int .i64 0) := by simp [ints]
/-- The first i rows, and nothing behind. -/
def fill (k : Nat) (rs : List (List Int)) (i : Nat) : List Int := (rs.take i).flatten ++ List.replicate ((rs.length - i) * k) 0
theorem fill_length {k : Nat} {rs : List (List Int)} (hk : ∀ r ∈ rs, r.length = k) {i : Nat} (hi : i ≤ rs.length) : (fill k rs i).length = rs.length * k := by
  have := flat_length (k := k) (rs := rs.take i) (fun r hr => hk r (List.mem_of_mem_take hr))
  simp only [fill, List.length_append, this, List.length_take, List.length_replicate, Nat.min_eq_left hi, ← Nat.add_mul]
  congr 1; omega
theorem fill_step {k : Nat} {rs : List (List Int)} (hk : ∀ r ∈ rs, r.length = k) {i : Nat} {r : List Int} (hi : rs[i]? = some r) : spl (fill k rs i) (i * k) r = fill k rs (i + 1) := by
  have hlt := (List.getElem?_eq_some_iff.1 hi).1
  have hr := hk r (List.mem_of_getElem? hi)
  have hP : (rs.take i).flatten.length = i * k := by
    rw [flat_length (k := k) (fun r hr => hk r (List.mem_of_mem_take hr)), List.length_take, Nat.min_eq_left (by omega)]
  have h1 : (fill k rs i).take (i * k) = (rs.take i).flatten := by
    unfold fill; rw [← hP]; exact List.take_left
  have hn : (rs.length - i) * k = k + (rs.length - (i + 1)) * k := by
    rw [show rs.length - i = 1 + (rs.length - (i + 1)) by omega, Nat.add_mul]; omega
  have h2 : (fill k rs i).drop (i * k + r.length) = List.replicate ((rs.length - (i + 1)) * k) 0 := by
    unfold fill
    rw [← hP, ← List.drop_drop, List.drop_left, List.drop_replicate, hr, hn]
    congr 1; omega
  have h3 : (rs.take (i + 1)).flatten = (rs.take i).flatten ++ r := by
    rw [List.take_add_one, hi]; simp
  unfold spl
  rw [h1, h2]
  unfold fill
  rw [h3]
theorem fill_all {k : Nat} (rs : List (List Int)) : fill k rs rs.length = rs.flatten := by simp [fill]
theorem fill_none {k : Nat} (rs : List (List Int)) : fill k rs 0 = List.replicate (rs.length * k) 0 := by simp [fill]

section
variable {P : Program} {T : Nat → Option TI} {Γ : Ctx} {ops : Array Oper} {Q : (Nat → Value) → Own → Prop} {rest : List Oper} {f : Nat → Value} {own : Own}
variable {ty : TypeId} {pos : String} {aft : Array Edge}
theorem vops_storeRow (i : Nat) (hT : TyOk P T) {t : Nat} {x y : Operand} {b o : Nat} {q r : List Int} {ti : TI} {e n : Nat} (ht : T t = some ti) (hn : r.length = ti.size) (hx : ev f x = .pointer (some ⟨b, 0 + o, none⟩)) (hy : ev f y = .agg (ints r).toArray)
    (hi : own[i]? = some (b, ⟨ints q, e, n, none⟩)) (hq : q.length = n) (hlen : o + r.length ≤ n)
    (kk : VOps P Γ ops Q rest f (own.set i (b, ⟨ints (spl q o r), e, n, none⟩))) : VOps P Γ ops Q (⟨none, .store t x y, ty, pos, aft, none⟩ :: rest) f own := by
  rw [Nat.zero_add] at hx
  refine vops_storeN i hT (cs := ints r) ht (by rw [ints_length]; exact hn) hx (by rw [hy]; rfl) ints_one hi (by rw [ints_length]; exact hlen) (by rw [ints_length]; exact hq) ?_
  rw [splice_ints]; exact kk
/-- A list of rows, all nought. -/
theorem vops_makeRows (hT : TyOk P T) {d t e a b k : Nat} {z : List Value} {x y : Operand} {ei : TI} {kl kc : IntKind} {n : Nat} (ht : T t = some ⟨.slice e, a, b, z⟩) (he : T e = some ei) (hz : ei.zero = List.replicate k (.int .i64 0)) (hk : 0 < k) (hs : ei.size = k)
    (hx : ev f x = .int kl n) (hy : ev f y = .int kc n) (hb : ei.bytes * n ≤ 281474976710656) (h63 : (n : Int) ≤ 9223372036854775807)
    (kk : ∀ b, b ∉ ids own → VOps P Γ ops Q rest (upd f d (.slice (some ⟨b, 0, none⟩) n n)) ((b, ⟨ints (List.replicate (n * k) 0), e, n * k, none⟩) :: own)) :
    VOps P Γ ops Q (⟨some d, .makeSlice t x y, ty, pos, aft, none⟩ :: rest) f own := by
  refine vops_make hT ht he (by rw [hz]; intro h; have := congrArg List.length h; simp at this; omega) hx hy hb h63 fun b hbn => ?_
  rw [hz, made_same _ _ _ hk, hs, ← ints_zeros]
  exact kk b hbn
end

section
variable {H : Type} {enc : TypeId × Value → H} {P : Program} {T : Nat → Option TI} {w : World} {spare : Nat → Bool} {held : Bool}

theorem RdS.row {k : Nat} {v : Value} {rs : List (List Int)} (h : RdS w v rs) (hk : ∀ r ∈ rs, r.length = k) {i : Nat} {r : List Int} (hi : rs[i]? = some r) :
    ∃ b o cap, v = .slice (some ⟨b, o, none⟩) rs.length cap ∧ ∀ j x, (ints r)[j]? = some x → w.cell? ⟨b, o + i * k + j, none⟩ = some x := by
  rcases h with ⟨a, cap, hv, rfl⟩ | ⟨b, o, cap, hv, hc⟩
  · simp at hi
  · refine ⟨b, o, cap, hv, fun j x hx => ?_⟩
    have hr : r.length = k := hk r (List.mem_of_getElem? hi)
    have hj : j < k := by rw [← hr, ← ints_length]; exact (List.getElem?_eq_some_iff.1 hx).1
    rw [Nat.add_assoc]
    refine hc _ _ ?_
    have := flat_at hk hi hj
    unfold ints at hx ⊢
    rw [List.getElem?_map, this, ← List.getElem?_map]; exact hx

end
end Go.VL

/-! Blocks of one's own are found by search: in what is owned, by their numbers. -/
namespace Go.VL
open Go.RowKit

theorem mem_here {α : Type} {x : α} {R : List α} : x ∈ x :: R := List.mem_cons_self
theorem mem_next {α : Type} {x y : α} {R : List α} (h : x ∈ R) : x ∈ y :: R := List.mem_cons_of_mem _ h
theorem mem_past {α : Type} {x : α} {A R : List α} (h : x ∈ R) : x ∈ A ++ R := List.mem_append_right _ h
theorem sub_hereL {A R : Own} : Sub A (A ++ R) := fun _ h => List.mem_append_left _ h
theorem sub_nil {R : Own} : Sub [] R := fun _ h => by cases h
theorem pm_here {A R : Own} : (A ++ R).Perm (A ++ R) := List.Perm.refl _
theorem pm_next {x : Nat × Blk} {B R R' : Own} (h : R.Perm (B ++ R')) : (x :: R).Perm (B ++ (x :: R')) := (h.cons x).trans List.perm_middle.symm
theorem pm_past {A B R R' : Own} (h : R.Perm (B ++ R')) : (A ++ R).Perm (B ++ (A ++ R')) := (h.append_left A).trans (by
  rw [← List.append_assoc, ← List.append_assoc]; exact List.perm_append_comm.append_right R')

/-- One block is written anew. -/
def Upd (own own' : Own) (b : Nat) (k k' : Blk) : Prop := ∃ A B, own = A ++ (b, k) :: B ∧ own' = A ++ (b, k') :: B
theorem upd_here {b : Nat} {k k' : Blk} {R : Own} : Upd ((b, k) :: R) ((b, k') :: R) b k k' := ⟨[], R, rfl, rfl⟩
theorem upd_next {b : Nat} {k k' : Blk} {x : Nat × Blk} {R R' : Own} (h : Upd R R' b k k') : Upd (x :: R) (x :: R') b k k' := by
  obtain ⟨A, B, rfl, rfl⟩ := h; exact ⟨x :: A, B, rfl, rfl⟩
theorem upd_past {b : Nat} {k k' : Blk} {X R R' : Own} (h : Upd R R' b k k') : Upd (X ++ R) (X ++ R') b k k' := by
  obtain ⟨A, B, rfl, rfl⟩ := h; exact ⟨X ++ A, B, by simp, by simp⟩
theorem Upd.idx {own own' : Own} {b : Nat} {k k' : Blk} (h : Upd own own' b k k') : ∃ i, own[i]? = some (b, k) ∧ own' = own.set i (b, k') := by
  obtain ⟨A, B, rfl, rfl⟩ := h
  exact ⟨A.length, by simp, by simp⟩

/-- In every world in which what is owned lies as it is told. -/
def See (Γ : Ctx) (own : Own) (R : World → Prop) : Prop := ∀ w, Good Γ own w → R w
theorem See.sub {Γ : Ctx} {own new : Own} {R : World → Prop} (h : ∀ w, OwnOk new w → R w) (hn : (ids new).Nodup) (hs : Sub new own) : See Γ own R :=
  fun w hg => h w (hg.ok.sub hn hs)

section
variable {P : Program} {T : Nat → Option TI} {Γ : Ctx} {ops : Array Oper} {Q : (Nat → Value) → Own → Prop} {rest : List Oper} {f : Nat → Value} {own own' : Own}
variable {ty : TypeId} {pos : String} {aft : Array Edge}

theorem vops_loadM (hT : TyOk P T) {d : Nat} {t : Nat} {x : Operand} {i : TI} {b o : Nat} {v : Value} {cs : List Value} {e n : Nat} (ht : T t = some i) (hp : i.plain = true) (hx : ev f x = .pointer (some ⟨b, o, none⟩)) (hm : (b, (⟨cs, e, n, none⟩ : Blk)) ∈ own) (hv : cs[o]? = some v)
    (k : VOps P Γ ops Q rest (upd f d v) own) : VOps P Γ ops Q (⟨some d, .load t x, ty, pos, aft, none⟩ :: rest) f own :=
  vops_load hT ht hp hx (sees_mem hm hv) k
theorem vops_loadNM (hT : TyOk P T) {d : Nat} {t : Nat} {x : Operand} {i : TI} {b : Nat} {cs : List Value} {e n : Nat} (ht : T t = some i) (ha : i.isAgg = true) (hx : ev f x = .pointer (some ⟨b, 0, none⟩)) (hm : (b, (⟨cs, e, n, none⟩ : Blk)) ∈ own) (hn : cs.length = i.size)
    (k : VOps P Γ ops Q rest (upd f d (.agg cs.toArray)) own) : VOps P Γ ops Q (⟨some d, .load t x, ty, pos, aft, none⟩ :: rest) f own :=
  vops_loadN hT cs ht ha hx hn (fun j v hj => by rw [Nat.zero_add]; exact sees_mem hm hj) k
theorem vops_storeM (hT : TyOk P T) {t : Nat} {x y : Operand} {b o : Nat} {v : Value} {ti : TI} {cs : List Value} {e n : Nat} (ht : T t = some ti) (hp : ti.size = 1) (hx : ev f x = .pointer (some ⟨b, o, none⟩)) (hy : force (ev f y) = some v) (hv : Value.one v = true)
    (hu : Upd own own' b ⟨cs, e, n, none⟩ ⟨cs.set o v, e, n, none⟩) (hlt : o < cs.length)
    (kk : VOps P Γ ops Q rest f own') : VOps P Γ ops Q (⟨none, .store t x y, ty, pos, aft, none⟩ :: rest) f own := by
  obtain ⟨i, h1, rfl⟩ := hu.idx
  exact vops_store hT i ht hp hx (force_eq hy) hv h1 hlt kk
theorem vops_storeIM (hT : TyOk P T) {t : Nat} {x y : Operand} {b o : Nat} {v : Int} {ti : TI} {q : List Int} {e n : Nat} (ht : T t = some ti) (hp : ti.size = 1) (hx : ev f x = .pointer (some ⟨b, 0 + o, none⟩)) (hy : ev f y = .int .i64 v)
    (hu : Upd own own' b ⟨ints q, e, n, none⟩ ⟨ints (q.set o v), e, n, none⟩) (hlt : o < q.length)
    (kk : VOps P Γ ops Q rest f own') : VOps P Γ ops Q (⟨none, .store t x y, ty, pos, aft, none⟩ :: rest) f own := by
  obtain ⟨i, h1, rfl⟩ := hu.idx
  exact vops_storeI i hT ht hp hx hy h1 hlt kk
theorem vops_storeAM (hT : TyOk P T) {t : Nat} {x y : Operand} {b : Nat} {cs cs0 : List Value} {ti : TI} {e n : Nat} (ht : T t = some ti) (hx : ev f x = .pointer (some ⟨b, 0, none⟩)) (hy : ev f y = .agg cs.toArray)
    (hn : cs.length = ti.size) (h1 : ∀ v ∈ cs, v.oneCell' = true) (hu : Upd own own' b ⟨cs0, e, n, none⟩ ⟨cs, e, n, none⟩) (hlen : n = cs.length)
    (kk : VOps P Γ ops Q rest f own') : VOps P Γ ops Q (⟨none, .store t x y, ty, pos, aft, none⟩ :: rest) f own := by
  obtain ⟨i, h1', rfl⟩ := hu.idx
  exact vops_storeA hT i ht hn hx hy h1 h1' hlen kk
end

/-! lists of numbers -/
/-- v is a list of numbers that lies in w. -/
def RdI (w : World) (v : Value) (l : List Int) : Prop :=
  (∃ a cap, v = .slice a 0 cap ∧ l = []) ∨ ∃ b o cap, v = .slice (some ⟨b, o, none⟩) l.length cap ∧ ∀ j x, (ints l)[j]? = some x → w.cell? ⟨b, o + j, none⟩ = some x
theorem RdI.same {w w' : World} {v : Value} {l : List Int} (h : RdI w v l) (hf : Fr [] w w') : RdI w' v l := by
  rcases h with h | ⟨b, o, cap, hv, hc⟩
  · exact .inl h
  · exact .inr ⟨b, o, cap, hv, fun j x hx => hf.cell (by simp) (hc j x hx)⟩
theorem RdI.len {w : World} {v : Value} {l : List Int} (h : RdI w v l) : ∃ a cap, v = .slice a l.length cap := by
  rcases h with ⟨a, cap, hv, rfl⟩ | ⟨b, o, cap, hv, _⟩
  · exact ⟨a, cap, hv⟩
  · exact ⟨_, cap, hv⟩
theorem RdI.at {w : World} {v : Value} {l : List Int} (h : RdI w v l) {i : Nat} (hi : i < l.length) : ∃ b o cap, v = .slice (some ⟨b, o, none⟩) l.length cap ∧ ∀ j, j < l.length → w.cell? ⟨b, o + j, none⟩ = some (.int .i64 (l.getD j 0)) := by
  rcases h with ⟨a, cap, hv, rfl⟩ | ⟨b, o, cap, hv, hc⟩
  · simp at hi
  · exact ⟨b, o, cap, hv, fun j hj => hc j _ (ints_get hj)⟩

/-- A new list of numbers. -/
def NewI (e : Nat) (l : List Int) (v : Value) (new : Own) : Prop := SlAt e 1 v l.length (ints l) new []
/-- A new list of rows of k numbers. -/
def NewR (e k : Nat) (rs : List (List Int)) (v : Value) (new : Own) : Prop := SlAt e k v rs.length (ints rs.flatten) new []

theorem SlAt.form {e k n : Nat} {v : Value} {cells : List Value} {own rest : Own} (h : SlAt e k v n cells own rest) : ∃ p cap, v = .slice p n cap := by
  rcases h.2 with ⟨h1, h2, _⟩ | ⟨b, cap, h1, _⟩
  · exact ⟨none, 0, by rw [h1, h2]⟩
  · exact ⟨_, cap, h1⟩
theorem SlAt.nodup {e k n : Nat} {v : Value} {cells : List Value} {own : Own} (h : SlAt e k v n cells own []) : (ids own).Nodup := by
  rcases h.2 with ⟨_, _, rfl⟩ | ⟨b, cap, _, _, _, rfl⟩ <;> simp [ids]
theorem NewI.rd {e : Nat} {l : List Int} {v : Value} {new : Own} (h : NewI e l v new) {w : World} (hw : OwnOk new w) : RdI w v l := by
  rcases h.2 with ⟨h1, h2, _⟩ | ⟨b, cap, h1, _, _, rfl⟩
  · exact .inl ⟨none, 0, h1, List.eq_nil_of_length_eq_zero h2⟩
  · exact .inr ⟨b, 0, cap, h1, fun j x hx => by rw [Nat.zero_add]; exact cell_of_blk hw List.mem_cons_self hx⟩
theorem NewR.rd {e k : Nat} {rs : List (List Int)} {v : Value} {new : Own} (h : NewR e k rs v new) {w : World} (hw : OwnOk new w) : RdS w v rs := by
  rcases h.2 with ⟨h1, h2, _⟩ | ⟨b, cap, h1, _, _, rfl⟩
  · exact .inl ⟨none, 0, h1, List.eq_nil_of_length_eq_zero h2⟩
  · exact .inr ⟨b, 0, cap, h1, fun j x hx => by rw [Nat.zero_add]; exact cell_of_blk hw List.mem_cons_self hx⟩
theorem NewI.see {Γ : Ctx} {own : Own} {e : Nat} {l : List Int} {v : Value} {new : Own} (h : NewI e l v new) (hs : Sub new own) : See Γ own (fun w => RdI w v l) :=
  See.sub (fun _ hw => h.rd hw) (SlAt.nodup h) hs
theorem NewR.see {Γ : Ctx} {own : Own} {e k : Nat} {rs : List (List Int)} {v : Value} {new : Own} (h : NewR e k rs v new) (hs : Sub new own) : See Γ own (fun w => RdS w v rs) :=
  See.sub (fun _ hw => h.rd hw) (SlAt.nodup h) hs
end Go.VL

namespace Go.VL
open Go.RowKit
/-! lists of numbers, flat -/
/-- v is n elements of k numbers each that lie in w; together they are q. -/
def RdF (w : World) (k n : Nat) (v : Value) (q : List Int) : Prop :=
  (∃ a cap, v = .slice a 0 cap ∧ n = 0 ∧ q = []) ∨ ∃ b o cap, v = .slice (some ⟨b, o, none⟩) n cap ∧ q.length = n * k ∧ ∀ j x, (ints q)[j]? = some x → w.cell? ⟨b, o + j, none⟩ = some x
/-- A new list of n elements of k numbers each. -/
def NewF (e k n : Nat) (q : List Int) (v : Value) (new : Own) : Prop := SlAt e k v n (ints q) new []
theorem RdF.len {w : World} {k n : Nat} {v : Value} {q : List Int} (h : RdF w k n v q) : ∃ a cap, v = .slice a n cap := by
  rcases h with ⟨a, cap, hv, rfl, rfl⟩ | ⟨b, o, cap, hv, _⟩
  · exact ⟨a, cap, hv⟩
  · exact ⟨_, cap, hv⟩
theorem RdF.at {w : World} {k n : Nat} {v : Value} {q : List Int} (h : RdF w k n v q) {i : Nat} (hi : i < n) :
    ∃ b o cap, v = .slice (some ⟨b, o, none⟩) n cap ∧ q.length = n * k ∧ ∀ j, j < n * k → w.cell? ⟨b, o + j, none⟩ = some (.int .i64 (q.getD j 0)) := by
  rcases h with ⟨a, cap, hv, rfl, rfl⟩ | ⟨b, o, cap, hv, hq, hc⟩
  · omega
  · exact ⟨b, o, cap, hv, hq, fun j hj => hc j _ (ints_get (by omega))⟩
theorem NewF.rd {e k n : Nat} {q : List Int} {v : Value} {new : Own} (h : NewF e k n q v new) {w : World} (hw : OwnOk new w) : RdF w k n v q := by
  have hl := h.1
  rw [ints_length] at hl
  rcases h.2 with ⟨h1, h2, _⟩ | ⟨b, cap, h1, _, _, rfl⟩
  · subst h2; exact .inl ⟨none, 0, h1, rfl, List.eq_nil_of_length_eq_zero (by simpa using hl)⟩
  · exact .inr ⟨b, 0, cap, h1, hl, fun j x hx => by rw [Nat.zero_add]; exact cell_of_blk hw List.mem_cons_self hx⟩
theorem NewF.see {Γ : Ctx} {own : Own} {e k n : Nat} {q : List Int} {v : Value} {new : Own} (h : NewF e k n q v new) (hs : Sub new own) : See Γ own (fun w => RdF w k n v q) :=
  See.sub (fun _ hw => h.rd hw) (SlAt.nodup h) hs
theorem NewR.f {e k : Nat} {rs : List (List Int)} {v : Value} {new : Own} (h : NewR e k rs v new) : NewF e k rs.length rs.flatten v new := h
theorem NewI.f {e : Nat} {l : List Int} {v : Value} {new : Own} (h : NewI e l v new) : NewF e 1 l.length l v new := h

/-- The numbers from k on. -/
def iota (k : Int) (n : Nat) : List Int := (List.range n).map fun (j : Nat) => k + (j : Int)
/-- The first t places marked. -/
def markTo (q : List Int) (k : Int) (t : Nat) : List Int := iota k t ++ q.drop t
/-! what a loop collects -/
def collect (p : Nat → Bool) (g : Nat → Int) (k : Nat) : List Int := ((List.range k).filter p).map g
section
variable {P : Program} {T : Nat → Option TI} {Γ : Ctx} {ops : Array Oper} {Q : (Nat → Value) → Own → Prop} {rest : List Oper} {f : Nat → Value} {own own' : Own}
variable {ty : TypeId} {pos : String} {aft : Array Edge}
theorem perm_ids {own own' : Own} (hp : own.Perm own') {b : Nat} : b ∈ ids own ↔ b ∈ ids own' := (hp.map Prod.fst).mem_iff
theorem Step.perm {o : Oper} {S : Value → Own → Prop} (hp : own.Perm own') (h : Step P Γ o f own' S) : Step P Γ o f own S := fun w hg =>
  (h w (hg.perm hp)).mono fun _ _ ⟨o', h1, ⟨h2, h3⟩, h4⟩ => ⟨o', h1, ⟨h2.mono fun _ hx => (perm_ids hp).2 hx, fun b hb => (h3 b hb).imp (perm_ids hp).2 id⟩, h4⟩
theorem vops_perm {d : Option Tmp} {op : Op} {l : List Oper} (hp : own.Perm own') (h : VOps P Γ ops Q (⟨d, op, ty, pos, aft, none⟩ :: l) f own') : VOps P Γ ops Q (⟨d, op, ty, pos, aft, none⟩ :: l) f own :=
  Step.perm hp h
theorem slAt_rest {e size n : Nat} {v : Value} {cells : List Value} {new R : Own} (h : SlAt e size v n cells new []) : SlAt e size v n cells (new ++ R) R := by
  refine ⟨h.1, ?_⟩
  rcases h.2 with ⟨h1, h2, rfl⟩ | ⟨b, cap, h1, h2, h3, rfl⟩
  · exact .inl ⟨h1, h2, rfl⟩
  · exact .inr ⟨b, cap, h1, h2, h3, rfl⟩
theorem slAt_new {e size n : Nat} {v : Value} {cells : List Value} {own R : Own} (h : SlAt e size v n cells own R) : ∃ new, own = new ++ R ∧ SlAt e size v n cells new [] := by
  rcases h.2 with ⟨h1, h2, rfl⟩ | ⟨b, cap, h1, h2, h3, rfl⟩
  · exact ⟨[], rfl, h.1, .inl ⟨h1, h2, rfl⟩⟩
  · exact ⟨[_], rfl, h.1, .inr ⟨b, cap, h1, h2, h3, rfl⟩⟩
/-- Elements behind a slice of one's own, wherever it lies. -/
theorem vops_appendM (hT : TyOk P T) {d t e a b : Nat} {z : List Value} {x y : Operand} {ei : TI} {n m c : Nat} {cells news : List Value} {ob oo : Nat} {v0 : Value} {new R : Own}
    (hx : ev f x = v0) (hs : SlAt e ei.size v0 n cells new []) (hp : own.Perm (new ++ R))
    (ht : T t = some ⟨.slice e, a, b, z⟩) (he : T e = some ei) (hz : ei.zero ≠ [])
    (hzl : ei.zero.length = ei.size)
    (hy : ev f y = .slice (some ⟨ob, oo, none⟩) m c) (hl : news.length = m * ei.size) (hnews : SeesL Γ own ob oo news) (h1 : ∀ u ∈ news, u.oneCell' = true)
    (hm : 0 < m) (h63 : n + m ≤ maxLen) (hbytes : (n + m) * ei.bytes ≤ 140737488355328)
    (k : ∀ v new', SlAt e ei.size v (n + m) (cells ++ news) new' [] → VOps P Γ ops Q rest (upd f d v) (new' ++ R)) :
    VOps P Γ ops Q (⟨some d, .call ⟨.builtin .append, #[x, y], #[t, t]⟩, ty, pos, aft, none⟩ :: rest) f own := by
  subst hx
  refine vops_perm hp (vops_append hT ht he hz hzl (slAt_rest hs) hy hl (fun j v hj w hg => hnews j v hj w (hg.perm hp.symm)) h1 hm h63 hbytes fun v own' h => ?_)
  obtain ⟨new', rfl, h'⟩ := slAt_new h
  exact k v new' h'

theorem vd_loadNM (hT : TyOk P T) {base : Own} {L : List Nat} {listed : Array Bool} {i d : Nat} {g : Option (Nat × Bool)} {t : Nat} {x : Operand} {ti : TI} {b : Nat} {cs : List Value} {e n : Nat} (ho : ops[i]? = some ⟨some d, .load t x, ty, pos, aft, g⟩) (hg : GOn ops f g) (ht : T t = some ti) (hp : ti.isAgg = true) (hx : ev f x = .pointer (some ⟨b, 0, none⟩))
    (hm : (b, (⟨cs, e, n, none⟩ : Blk)) ∈ base) (hn : cs.length = ti.size)
    (hr : (Region.ready .any ops listed).contains i = true) (hf : Region.free .any ops listed i = true) (hk : freeK ops listed i = true) (hsb : Sub base own)
    (k : VD P Γ ops base Q L (listed.setIfInBounds i true) (upd f d (.agg cs.toArray)) own) : VD P Γ ops base Q (i :: L) listed f own :=
  vd_loadN hT cs ho hg ht hp hx hn hr hf hk (fun j v hj => by rw [Nat.zero_add]; exact sees_mem hm hj) hsb k
end
end Go.VL

/-! Lists in memory, of anything. -/
namespace Go.VL
open Go.RowKit Go.ChangeShapes Go.WideShapes Go.ChangeAt

/-- v is a list that lies in w, and its elements are what R tells. -/
def RdL {α : Type} (R : World → Value → α → Prop) (w : World) (v : Value) (ys : List α) : Prop :=
  ∃ vs : List Value, vs.length = ys.length ∧ (∀ (i : Nat) (u : Value) (y : α), vs[i]? = some u → ys[i]? = some y → R w u y) ∧
    ((∃ a cap, v = .slice a 0 cap ∧ ys = []) ∨ ∃ b o cap, v = .slice (some ⟨b, o, none⟩) ys.length cap ∧ ∀ (j : Nat) (x : Value), vs[j]? = some x → w.cell? ⟨b, o + j, none⟩ = some x)
theorem RdL.same {α : Type} {R : World → Value → α → Prop} (hR : ∀ {w w' : World} {v : Value} {y : α}, R w v y → Fr [] w w' → R w' v y) {w w' : World} {v : Value} {ys : List α} (h : RdL R w v ys) (hf : Fr [] w w') : RdL R w' v ys := by
  obtain ⟨vs, h1, h2, h3⟩ := h
  refine ⟨vs, h1, fun i u y hu hy => hR (h2 i u y hu hy) hf, ?_⟩
  rcases h3 with h3 | ⟨b, o, cap, hv, hc⟩
  · exact .inl h3
  · exact .inr ⟨b, o, cap, hv, fun j x hx => hf.cell (by simp) (hc j x hx)⟩
theorem RdL.len {α : Type} {R : World → Value → α → Prop} {w : World} {v : Value} {ys : List α} (h : RdL R w v ys) : ∃ a cap, v = .slice a ys.length cap := by
  obtain ⟨vs, h1, h2, h3⟩ := h
  rcases h3 with ⟨a, cap, hv, rfl⟩ | ⟨b, o, cap, hv, _⟩
  · exact ⟨a, cap, hv⟩
  · exact ⟨_, cap, hv⟩
theorem RdL.at {α : Type} {R : World → Value → α → Prop} {w : World} {v : Value} {ys : List α} (h : RdL R w v ys) {i : Nat} {y : α} (hi : ys[i]? = some y) :
    ∃ b o cap u, v = .slice (some ⟨b, o, none⟩) ys.length cap ∧ w.cell? ⟨b, o + i, none⟩ = some u ∧ R w u y := by
  obtain ⟨vs, h1, h2, h3⟩ := h
  have hlt := (List.getElem?_eq_some_iff.1 hi).1
  rcases h3 with ⟨a, cap, hv, rfl⟩ | ⟨b, o, cap, hv, hc⟩
  · simp at hi
  · obtain ⟨u, hu⟩ : ∃ u, vs[i]? = some u := ⟨_, List.getElem?_eq_getElem (by omega)⟩
    exact ⟨b, o, cap, u, hv, hc i u hu, h2 i u y hu hi⟩

def RdII (w : World) (v : Value) (ls : List (List Int)) : Prop := RdL RdI w v ls
theorem RdII.same {w w' : World} {v : Value} {ls : List (List Int)} (h : RdII w v ls) (hf : Fr [] w w') : RdII w' v ls := RdL.same (fun h hf => h.same hf) h hf
theorem RdII.len {w : World} {v : Value} {ls : List (List Int)} (h : RdII w v ls) : ∃ a cap, v = .slice a ls.length cap := RdL.len h
theorem RdII.at {w : World} {v : Value} {ls : List (List Int)} (h : RdII w v ls) {i : Nat} {l : List Int} (hi : ls[i]? = some l) :
    ∃ b o cap u, v = .slice (some ⟨b, o, none⟩) ls.length cap ∧ w.cell? ⟨b, o + i, none⟩ = some u ∧ RdI w u l := RdL.at h hi
section
variable {H : Type} {enc : TypeId × Value → H} {P : Program} {T : Nat → Option TI} {w : World} {spare : Nat → Bool} {held : Bool}

theorem rdL_of_trod {α : Type} {R : World → Value → α → Prop} (hT : TyOk P T) {t e a0 b0 : Nat} {z0 : List Value} (hts : T t = some ⟨.slice e, a0, b0, z0⟩) (hcu : P.cellsOf e = 1)
    (hR : ∀ {fuel : Nat} {cs : List Value} {x : DataW H × List MemPlace}, DataW.trod enc P w 0 spare held fuel e cs = some x → ∃ v y, cs = [v] ∧ R w v y) {fuel : Nat} {cs : List Value} {x : DataW H × List MemPlace}
    (h : DataW.trod enc P w 0 spare held fuel t cs = some x) : ∃ v ys, cs = [v] ∧ RdL R w v ys ∧ ys.length ≤ maxLen := by
  rcases DataW.trod_slice (hT.slice hts) h with ⟨rfl, _⟩ | ⟨ad, len, cap, elems, rest, m, _, rfl, _, _, hlc, hcm, hlen, hel, _⟩
  · exact ⟨_, [], rfl, ⟨[], rfl, by simp, .inl ⟨_, _, rfl, rfl⟩⟩, by simp⟩
  · rw [hcu] at hel
    have key : ∀ i, i < len → ∃ v y, w.cell? (ad.add i) = some v ∧ R w v y := fun i hi => by
      have h1 := hel i hi
      obtain ⟨y, hy⟩ : ∃ y, elems[i]? = some y := ⟨_, List.getElem?_eq_getElem (by omega)⟩
      rw [hy, Option.bind_eq_some_iff] at h1
      obtain ⟨cs', hc1, hc2⟩ := h1
      obtain ⟨_, hl, hcell⟩ := World.cells?_some hc1
      obtain ⟨v, q, rfl, hq⟩ := hR hc2
      refine ⟨v, q, ?_, hq⟩
      have := hcell 0 (by omega)
      simpa [Addr.add] using this
    have all : ∀ k, k ≤ len → ∃ (vs : List Value) (ys : List α), vs.length = k ∧ ys.length = k ∧ (∀ (i : Nat) (u : Value), vs[i]? = some u → w.cell? (ad.add i) = some u) ∧ ∀ (i : Nat) (u : Value) (y : α), vs[i]? = some u → ys[i]? = some y → R w u y := by
      intro k
      induction k with
      | zero => intro _; exact ⟨[], [], rfl, rfl, by simp, by simp⟩
      | succ k ih =>
        intro hk
        obtain ⟨vs, ys, h1, h2, h3, h4⟩ := ih (by omega)
        obtain ⟨v, y, hv, hy⟩ := key k (by omega)
        have hlast : ∀ {β : Type} (l : List β) (z q : β) (i : Nat), l.length = k → (l ++ [z])[i]? = some q → (i < k ∧ l[i]? = some q) ∨ (i = k ∧ q = z) := fun l z q i hl hi => by
          by_cases hik : i < l.length
          · rw [List.getElem?_append_left hik] at hi; exact .inl ⟨by omega, hi⟩
          · have hlt := (List.getElem?_eq_some_iff.1 hi).1
            have hik2 : i = k := by rw [List.length_append, hl] at hlt; simp at hlt; omega
            subst hik2
            rw [List.getElem?_append_right (by omega), hl] at hi
            exact .inr ⟨rfl, by simpa using hi.symm⟩
        refine ⟨vs ++ [v], ys ++ [y], by simp [h1], by simp [h2], fun i u hi => ?_, fun i u q hi hq => ?_⟩
        · rcases hlast vs v u i h1 hi with ⟨_, h⟩ | ⟨rfl, rfl⟩
          · exact h3 i u h
          · exact hv
        · rcases hlast vs v u i h1 hi with ⟨hik, h⟩ | ⟨rfl, rfl⟩
          · rcases hlast ys y q i h2 hq with ⟨_, h'⟩ | ⟨h', _⟩
            · exact h4 i u q h h'
            · omega
          · rcases hlast ys y q i h2 hq with ⟨h', _⟩ | ⟨_, rfl⟩
            · omega
            · exact hy
    obtain ⟨vs, ys, h1, h2, h3, h4⟩ := all len (Nat.le_refl _)
    refine ⟨_, ys, rfl, ⟨vs, by omega, h4, ?_⟩, by omega⟩
    by_cases h0 : len = 0
    · subst h0
      exact .inl ⟨_, _, rfl, List.eq_nil_of_length_eq_zero h2⟩
    · obtain ⟨r0, hr0⟩ : ∃ r, vs[0]? = some r := ⟨_, List.getElem?_eq_getElem (by omega)⟩
      have hc0 := h3 0 r0 hr0
      obtain ⟨b, off, spot⟩ := ad
      have hspot : spot = none := by simpa [Addr.add] using World.cell?_spot hc0
      subst hspot
      refine .inr ⟨b, off, cap, by rw [h2], fun j x hx => ?_⟩
      have := h3 j x hx
      rwa [Addr.add_lit] at this

theorem cells_one {v u : Value} (h : v.cells.toList = [u]) (hv : Value.one v = true) : v = u := by
  cases v <;> first | (simp [Value.cells] at h; exact h) | cases hv
end
end Go.VL

