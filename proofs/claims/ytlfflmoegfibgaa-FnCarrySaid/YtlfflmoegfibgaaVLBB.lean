import Derived.Test.YtlfflmoegfibgaaVLBA
import Derived.Great.FillDense
import Derived.Great.BuildSlice
/- Parts of the proof, one after another. No conditions of their own. -/
/-! Slice literals; loops that forget; results. -/
namespace Go.VL
open Go.RowKit

theorem pm1_here {x : Nat × Blk} {R : Own} : (x :: R).Perm (x :: R) := List.Perm.refl _
theorem pm1_next {x y : Nat × Blk} {R R' : Own} (h : R.Perm (x :: R')) : (y :: R).Perm (x :: (y :: R')) := (h.cons y).trans (List.Perm.swap x y R')
theorem pm1_past {x : Nat × Blk} {A R R' : Own} (h : R.Perm (x :: R')) : (A ++ R).Perm (x :: (A ++ R')) := (h.append_left A).trans List.perm_middle
/-- a is a part of b. -/
def OLe (a b : Own) : Prop := ∃ R, b.Perm (a ++ R)
theorem ole_nil {b : Own} : OLe [] b := ⟨b, List.Perm.refl _⟩
theorem ole_refl {b : Own} : OLe b b := ⟨[], by simp⟩
theorem ole_cons {x : Nat × Blk} {a b R : Own} (h : b.Perm (x :: R)) (k : OLe a R) : OLe (x :: a) b := by
  obtain ⟨S, hS⟩ := k
  exact ⟨S, h.trans (hS.cons x)⟩
theorem ole_app {A a b R : Own} (h : b.Perm (A ++ R)) (k : OLe a R) : OLe (A ++ a) b := by
  obtain ⟨S, hS⟩ := k
  exact ⟨S, h.trans (by rw [List.append_assoc]; exact hS.append_left A)⟩
theorem OLe.mem {a b : Own} (h : OLe a b) {p : Nat × Blk} (hp : p ∈ a) : p ∈ b := by
  obtain ⟨R, hR⟩ := h
  exact hR.mem_iff.2 (List.mem_append_left _ hp)
theorem OLe.nodup {a b : Own} (h : OLe a b) (hn : (ids b).Nodup) : (ids a).Nodup := by
  obtain ⟨R, hR⟩ := h
  have := (hR.map Prod.fst).nodup_iff.1 hn
  rw [List.map_append] at this
  exact (List.nodup_append.1 this).1
theorem Good.le {Γ : Ctx} {a b : Own} {w : World} (h : OLe a b) (hg : Good Γ b w) : Good Γ a w :=
  ⟨hg.fr, hg.ok.sub (h.nodup hg.ok.nodup) (fun _ hp => h.mem hp), fun c k hb => hg.mine c k (h.mem hb)⟩

section
variable {P : Program} {T : Nat → Option TI} {Γ : Ctx} {ops : Array Oper} {Q : (Nat → Value) → Own → Prop} {rest : List Oper} {f : Nat → Value} {own own' : Own}
variable {ty : TypeId} {pos : String} {aft : Array Edge}

theorem vw_le {ro : Option Nat} {n : Nat} {c : Code} {Q : Post} (hp : OLe own' own) (h : VWr ro P Γ n c Q f own') : VWr ro P Γ n c Q f own :=
  fun a w ha hg hm => h a w ha (hg.le hp) (hm.sub fun b hb => by obtain ⟨k, hk⟩ := mem_ids hb; exact ids_mem (hp.mem hk))
theorem vw_loopW {ro : Option Nat} {n : Nat} {Q : Post} {c : Code} (I : Nat → (Nat → Value) → Own → Prop) (m : Nat) (h0 : ∃ own0, OLe own0 own ∧ I m f own0)
    (round : ∀ m f own, I m f own → VWr ro P Γ n c (Then (fun f' own' => ∃ m', m' < m ∧ ∃ own'', OLe own'' own' ∧ I m' f' own'') Q) f own) : VWr ro P Γ n (.loop c) Q f own := by
  obtain ⟨own0, hle, hI⟩ := h0
  refine vw_le hle (vw_loop (fun m f own => ∃ own0, OLe own0 own ∧ I m f own0) m ⟨own0, ole_refl, hI⟩ ?_)
  rintro m f own ⟨own0, hle, hI⟩
  refine vw_le hle (vw_mono (round m f own0 hI) ?_)
  rintro e f' own' h
  cases e <;> exact h

/-- An empty slice literal. -/
theorem vops_build0 (hT : TyOk P T) {d t e a b : Nat} {z : List Value} {ei : TI} (ht : T t = some ⟨.slice e, a, b, z⟩) (he : T e = some ei)
    (k : ∀ b, b ∉ ids own → VOps P Γ ops Q rest (upd f d (.slice (some ⟨b, 0, none⟩) 0 0)) ((b, ⟨[], e, 0, none⟩) :: own)) :
    VOps P Γ ops Q (⟨some d, .buildSlice t 0 #[], ty, pos, aft, none⟩ :: rest) f own :=
  vops_go fun w hg => by
    obtain ⟨x, h1, h2, _⟩ := (hT e ei he).info
    have hr : (Instr.buildSlice t 0 #[]).run P w = .ok (.slice (some ⟨w.heap.size, 0, none⟩) 0 0) (w.alloc (.cells #[] e)) := by
      simp [Instr.buildSlice, run_underlying (hT.slice ht), sizeOf, typeInfo, h1, Instr.fill, newRow]
      congr 1; congr 1; simp [Array.range]
    have hx : (execOp (ev f) ⟨some d, .buildSlice t 0 #[], ty, pos, aft, none⟩).run P w = .ok (.value (.slice (some ⟨w.heap.size, 0, none⟩) 0 0)) (w.alloc (.cells #[] e)) := by
      unfold execOp
      simp only [List.map_toArray, List.map_nil, Sem.run_bind, hr, Result.andThen_ok]; rfl
    rw [hx]
    obtain ⟨g1, g2, g3⟩ := hg.new #[] e
    refine ⟨_, g1, ⟨g3.mono (by simp), fun c hc => ?_⟩, k _ g2⟩
    rcases List.mem_cons.1 hc with h | h
    · exact .inr (Nat.le_of_eq h.symm)
    · exact .inl h
/-- A slice literal. -/
theorem vops_buildS (vs cs : List Value) (hT : TyOk P T) {d t e a b n : Nat} {z : List Value} {ei : TI} {ps : List (Nat × Operand)} (ht : T t = some ⟨.slice e, a, b, z⟩) (he : T e = some ei) (hz : ei.zero ≠ []) (hps : ps.map (fun x => (x.1, ev f x.2)) = (vs.zipIdx 0).map fun x => (x.2, x.1))
    (hn : vs.length = n) (hn0 : 0 < n) (hsz : 0 < ei.size) (hsm : n * ei.size ≤ 2 ^ 24) (hc : ∀ v ∈ vs, v.cells.size = ei.size) (hcs : (vs.flatMap fun v => v.cells.toList) = cs)
    (k : ∀ b, b ∉ ids own → VOps P Γ ops Q rest (upd f d (.slice (some ⟨b, 0, none⟩) n n)) ((b, ⟨cs, e, n * ei.size, none⟩) :: own)) :
    VOps P Γ ops Q (⟨some d, .buildSlice t n ps.toArray, ty, pos, aft, none⟩ :: rest) f own :=
  vops_go fun w hg => by
    obtain ⟨x, z, h1, h2, h3, h4, h5⟩ := hT.full he hz
    have hfill := Great.fill_whole (s := ei.size) hsz vs ((Array.range (n * ei.size)).map (z.cells[· % z.cells.size]!)) hc (by simp [hn])
    have hpp : (ps.toArray.map fun (x : Nat × Operand) => (x.1, ev f x.2)).toList = (vs.zipIdx 0).map fun x => (x.2, x.1) := by
      rw [List.map_toArray]; exact hps
    have hpos : 0 < n * ei.size := Nat.mul_pos hn0 hsz
    have hr := run_buildSlice (P := P) w t e n (ps.toArray.map fun (x : Nat × Operand) => (x.1, ev f x.2)) _ x z (hT.slice ht) h1 h4 (by rw [h2]; omega) (by rw [h2]; omega)
      (by rw [h2, hpp]; exact hfill)
    have hx : (execOp (ev f) ⟨some d, .buildSlice t n ps.toArray, ty, pos, aft, none⟩).run P w = .ok (.value (.slice (some ⟨w.heap.size, 0, none⟩) n n)) (w.alloc (.cells (vs.flatMap fun v => v.cells.toList).toArray e)) := by
      unfold execOp
      simp only [Sem.run_bind, hr, Result.andThen_ok]; rfl
    rw [hx]
    obtain ⟨g1, g2, g3⟩ := hg.new (vs.flatMap fun v => v.cells.toList).toArray e
    have hlen : (vs.flatMap fun v => v.cells.toList).length = n * ei.size := by
      rw [← hn]
      clear hfill hpp hps hn hx hr g1 g2 g3 hsm hcs hpos hn0 k
      induction vs with
      | nil => simp
      | cons v vs ih =>
        rw [List.flatMap_cons, List.length_append, ih fun u hu => hc u (List.mem_cons_of_mem _ hu), List.length_cons, Nat.add_mul, Nat.one_mul]
        have := hc v List.mem_cons_self
        simp [this]; omega
    subst hcs
    have hsz2 : (vs.flatMap fun v => v.cells.toList).toArray.size = n * ei.size := by simpa using hlen
    rw [hsz2] at g1
    refine ⟨_, g1, ⟨g3.mono (by simp), fun c hc => ?_⟩, k _ g2⟩
    rcases List.mem_cons.1 hc with h | h
    · exact .inr (Nat.le_of_eq h.symm)
    · exact .inl h

/-! results -/
theorem out1 {n t : Nat} {fn : Func} {v : Value} {S : Value → Own → Prop} {new : Own} (h : fn.results = #[.tmp t]) (hv : f t = v) (hn : (ids new).Nodup) (hs : Sub new own) (hS : S v new) : Out P Γ n fn S .ret f own :=
  ⟨v, new, rv_tmp h hv, hn, hs, hS⟩
theorem out2 {n t u : Nat} {fn : Func} {v x : Value} {S : Value → Own → Prop} {new : Own} (h : fn.results = #[.tmp t, .tmp u]) (hv : f t = v) (hx : f u = x) (hn : (ids new).Nodup) (hs : Sub new own) (hS : S (.tuple #[v, x]) new) : Out P Γ n fn S .ret f own :=
  ⟨_, new, rv_tmp2 h hv hx, hn, hs, hS⟩
/-- Two results: a list of numbers, and a code. -/
def PairI (e : Nat) (r : List Int × Int) (v : Value) (new : Own) : Prop := ∃ p cap, v = .tuple #[.slice p r.1.length cap, .int .i64 r.2] ∧ NewI e r.1 (.slice p r.1.length cap) new
theorem pairI_err {e : Nat} {n t u : Nat} {fn : Func} {c : Int} {r : List Int × Int} (h : fn.results = #[.tmp t, .tmp u]) (hv : f t = .slice none 0 0) (hx : f u = .int .i64 c) (hr : r = ([], c)) : Out P Γ n fn (PairI e r) .ret f own :=
  out2 (new := []) h hv hx List.nodup_nil (fun _ h => by cases h) ⟨none, 0, by rw [hr]; rfl, by rw [hr]; exact SlAt.nil⟩
theorem pairI_ok {e : Nat} {n t u : Nat} {fn : Func} {v : Value} {l : List Int} {r : List Int × Int} {new : Own} (h : fn.results = #[.tmp t, .tmp u]) (hv : f t = v) (hx : f u = .int .i64 0) (hN : NewI e l v new) (hs : Sub new own) (hr : r = (l, 0)) : Out P Γ n fn (PairI e r) .ret f own :=
  by
    obtain ⟨p, cap, rfl⟩ := SlAt.form hN
    exact out2 h hv hx (SlAt.nodup hN) hs ⟨p, cap, by rw [hr], by rw [hr]; exact hN⟩
end
end Go.VL

namespace Go.VL
open Go.RowKit
theorem NewF.blk {e k n : Nat} {q : List Int} {p : Option Addr} {cap : Nat} {new : Own} (h : NewF e k n q (.slice p n cap) new) (hn : 0 < n) :
    ∃ b, p = some ⟨b, 0, none⟩ ∧ new = [(b, ⟨ints q, e, cap * k, none⟩)] ∧ n ≤ cap ∧ cap ≤ maxLen ∧ q.length = n * k := by
  have hl := h.1
  rw [ints_length] at hl
  rcases h.2 with ⟨h1, h2, _⟩ | ⟨b, cap', h1, h2, h3, rfl⟩
  · omega
  · cases h1; exact ⟨b, rfl, rfl, h2, h3, hl⟩
theorem NewF.mk {e k n : Nat} {q : List Int} {b cap : Nat} (hl : q.length = n * k) (h1 : n ≤ cap) (h2 : cap ≤ maxLen) : NewF e k n q (.slice (some ⟨b, 0, none⟩) n cap) [(b, ⟨ints q, e, cap * k, none⟩)] :=
  ⟨by rw [ints_length]; exact hl, .inr ⟨b, cap, rfl, h1, h2, rfl⟩⟩
theorem NewF.cast {e k n : Nat} {q q' : List Int} {v : Value} {new : Own} (h : NewF e k n q v new) (he : q = q') : NewF e k n q' v new := he ▸ h
theorem NewI.nil {e : Nat} : NewI e [] (.slice none 0 0) [] := SlAt.nil
theorem NewI.lit {e b n cap : Nat} {l : List Int} (hl : l.length = n) (h1 : n ≤ cap) (h2 : cap ≤ maxLen) : NewI e l (.slice (some ⟨b, 0, none⟩) n cap) [(b, ⟨ints l, e, cap * 1, none⟩)] := by
  subst hl; exact NewF.mk (by omega) h1 h2
/-- l as far as t, and q behind. -/
def over (l q : List Int) (t : Nat) : List Int := l.take t ++ q.drop t
end Go.VL
namespace Go.VL
theorem RdF.same {w w' : World} {k n : Nat} {v : Value} {q : List Int} (h : RdF w k n v q) (hf : Fr [] w w') : RdF w' k n v q := by
  rcases h with h | ⟨b, o, cap, hv, hq, hc⟩
  · exact .inl h
  · exact .inr ⟨b, o, cap, hv, hq, fun j x hx => hf.cell (by simp) (hc j x hx)⟩
end Go.VL
namespace Go.VL
theorem pm_last {A : Own} : A.Perm (A ++ []) := by simp
end Go.VL
namespace Go.VL
open Go.RowKit
section
variable {P : Program} {T : Nat → Option TI} {Γ : Ctx} {ops : Array Oper} {Q : (Nat → Value) → Own → Prop} {rest : List Oper} {f : Nat → Value} {own own' : Own}
variable {ty : TypeId} {pos : String} {aft : Array Edge}
/-- A literal list of numbers. -/
theorem vops_litI (l : List Int) (hT : TyOk P T) {d t e a b n b2 : Nat} {z z2 : List Value} {ps : List (Nat × Operand)} (ht : T t = some ⟨.slice e, a, b, z⟩) (he : T e = some ⟨.int .i64, 1, b2, z2⟩) (hz : z2 ≠ []) (hps : ps.map (fun x => (x.1, ev f x.2)) = ((ints l).zipIdx 0).map fun x => (x.2, x.1))
    (hn : l.length = n) (hn0 : 0 < n) (hsm : n ≤ 2 ^ 24)
    (k : ∀ b, b ∉ ids own → VOps P Γ ops Q rest (upd f d (.slice (some ⟨b, 0, none⟩) n n)) ((b, ⟨ints l, e, n * 1, none⟩) :: own)) :
    VOps P Γ ops Q (⟨some d, .buildSlice t n ps.toArray, ty, pos, aft, none⟩ :: rest) f own :=
  vops_buildS (ints l) (ints l) hT ht he hz hps (by rw [ints_length]; exact hn) hn0 (by show 0 < 1; omega) (by show n * 1 ≤ _; omega) (fun v hv => by
    simp only [ints, List.mem_map] at hv
    obtain ⟨x, _, rfl⟩ := hv; rfl) (by
    clear hps k hn
    induction l with
    | nil => rfl
    | cons x l ih => show (Value.int IntKind.i64 x).cells.toList ++ (ints l).flatMap _ = _; rw [ih]; rfl) k
/-- One element behind a list of one's own. -/
theorem vops_append1 {k : Nat} (hT : TyOk P T) {d t e a b : Nat} {z : List Value} {x y : Operand} {ei : TI} {n c ob e' c' : Nat} {q r : List Int} {v0 : Value} {new R : Own}
    (ht : T t = some ⟨.slice e, a, b, z⟩) (he : T e = some ei) (hz : ei.zero ≠ []) (hzl : ei.zero.length = ei.size) (hk : ei.size = k) (hbt : ei.bytes ≤ 1000)
    (hx : ev f x = v0) (hN : NewF e k n q v0 new) (hp : own.Perm (new ++ R))
    (hy : ev f y = .slice (some ⟨ob, 0, none⟩) 1 c) (hm : (ob, (⟨ints r, e', c', none⟩ : Blk)) ∈ own) (hrl : r.length = k) (hn : n ≤ 1073741824)
    (kk : ∀ p cap new', NewF e k (n + 1) (q ++ r) (.slice p (n + 1) cap) new' → VOps P Γ ops Q rest (upd f d (.slice p (n + 1) cap)) (new' ++ R)) :
    VOps P Γ ops Q (⟨some d, .call ⟨.builtin .append, #[x, y], #[t, t]⟩, ty, pos, aft, none⟩ :: rest) f own := by
  subst hk
  refine vops_appendM (cells := ints q) (news := ints r) hT hx hN hp ht he hz hzl hy (by rw [ints_length, hrl, Nat.one_mul]) (fun j v hj => by rw [Nat.zero_add]; exact sees_mem hm hj) ints_one (by omega) (by simp only [maxLen]; omega) ?_ (fun v new' h => ?_)
  · calc (n + 1) * ei.bytes ≤ 1073741825 * 1000 := Nat.mul_le_mul (by omega) hbt
      _ ≤ _ := by omega
  · obtain ⟨p, cap, rfl⟩ := h.form
    refine kk p cap new' ?_
    have : ints (q ++ r) = ints q ++ ints r := by simp [ints]
    unfold NewF; rw [this]; exact h
theorem NewI.snoc {e n : Nat} {l : List Int} {x : Int} {v : Value} {new : Own} (h : NewF e 1 (n + 1) (l ++ [x]) v new) (hn : n = l.length) : NewI e (l ++ [x]) v new := by
  subst hn
  have : (l ++ [x]).length = l.length + 1 := by simp
  unfold NewI; rw [this]; exact h
end
end Go.VL
namespace Go.VL
theorem rdI_lit {Γ : Ctx} {own : Own} {w : World} {b e n m cap : Nat} {l : List Int} (hm : (b, (⟨ints l, e, n, none⟩ : Blk)) ∈ own) (hg : Go.VL.Good Γ own w) (hl : m = l.length) : RdI w (.slice (some ⟨b, 0, none⟩) m cap) l := by
  subst hl
  exact .inr ⟨b, 0, cap, rfl, fun j x hx => by rw [Nat.zero_add]; exact cell_of_blk hg.ok hm hx⟩
theorem take_snoc {l : List Int} {i : Nat} (h : i < l.length) : l.take (i + 1) = l.take i ++ [l.getD i 0] := by
  rw [List.take_add_one, List.getElem?_eq_getElem h]
  simp [List.getD_eq_getElem?_getD, h]
end Go.VL

namespace Go.VL
theorem ole_last {A b R : Own} (h : b.Perm (A ++ R)) : OLe A b := ⟨R, h⟩
end Go.VL

/-! Slices of slices, struct literals, appends of whole lists. -/
namespace Go.VL
open Go.RowKit

def bnd (ρ : Operand → Value) (o : Option Operand) (d : Int) : Option Int := match o with
  | none => some d
  | some x => match ρ x with | .int _ i => some i | _ => none

section
variable {P : Program} {T : Nat → Option TI} {Γ : Ctx} {ops : Array Oper} {Q : (Nat → Value) → Own → Prop} {rest : List Oper} {f : Nat → Value} {own own' : Own}
variable {ty : TypeId} {pos : String} {aft : Array Edge}

theorem vops_run {d : Nat} {op : Op} {v : Value} (h : ∀ w, (execOp (ev f) ⟨some d, op, ty, pos, aft, none⟩).run P w = .ok (.value v) w) (k : VOps P Γ ops Q rest (upd f d v) own) :
    VOps P Γ ops Q (⟨some d, op, ty, pos, aft, none⟩ :: rest) f own :=
  vops_go fun w hg => by rw [h w]; exact ⟨own, hg, stay w, k⟩
theorem vd_run {base : Own} {L : List Nat} {listed : Array Bool} {i d : Nat} {g : Option (Nat × Bool)} {op : Op} {v : Value} (ho : ops[i]? = some ⟨some d, op, ty, pos, aft, g⟩) (hg : GOn ops f g) (h : ∀ w, (execOp (ev f) ⟨some d, op, ty, pos, aft, g⟩).run P w = .ok (.value v) w)
    (hr : (Region.ready .any ops listed).contains i = true) (hf : Region.free .any ops listed i = true) (k : VD P Γ ops base Q L (listed.setIfInBounds i true) (upd f d v) own) : VD P Γ ops base Q (i :: L) listed f own :=
  ⟨_, ho, hr, .inl ⟨hf, v, qy_of_run hg fun w _ => h w, k⟩⟩

theorem x_slice (hT : TyOk P T) {t e a0 b0 : Nat} {z0 : List Value} {ei : TI} {x : Operand} {lo hi : Option Operand} {a : Option Addr} {n c : Nat} {l h : Int} {d : Option Tmp} {g : Option (Nat × Bool)}
    (ht : T t = some ⟨.slice e, a0, b0, z0⟩) (he : T e = some ei) (hx : ev f x = .slice a n c) (hl : bnd (ev f) lo 0 = some l) (hh : bnd (ev f) hi n = some h) (hc : 0 ≤ l ∧ l ≤ h ∧ h ≤ (c : Int)) (w : World) :
    (execOp (ev f) ⟨d, .slice t x lo hi none, ty, pos, aft, g⟩).run P w = .ok (.value (sliced a l.toNat h.toNat c ei.size)) w := by
  have hu := hT.slice ht
  have hel : P.elem t = e := by simp [Program.elem, hu]
  have hu' : P.underlying t = some (.slice (P.elem t)) := by rw [hel]; exact hu
  have hs := hT.size he w
  obtain ⟨h0, h1, h2⟩ := hc
  have eh : (h.toNat : Int) = h := Int.toNat_of_nonneg (by omega)
  have e1 : (if h = -1 then (-1 : Int) else h) = h := by split <;> omega
  show ((Instr.sliceAt t (ev f x) (lo.map (ev f)) (hi.map (ev f)) none) >>= fun v => pure (Next.value v)).run P w = _
  rw [run_val, hx, run_sliceAt_slice (h := hu'), run_slice_any (ht := hu'), hel]
  have hb : (Instr.sliceBounds true n c (lo.map (ev f)) (hi.map (ev f)) none).run P w = .ok (l.toNat, h.toNat, c) w := by
    cases lo with
    | none =>
      simp only [bnd, Option.some.injEq] at hl
      subst hl
      cases hi with
      | none => simp only [bnd, Option.some.injEq] at hh; subst hh; simp [Instr.sliceBounds]
      | some y =>
        simp only [bnd] at hh
        split at hh
        · rename_i k i hy
          simp only [Option.some.injEq] at hh; subst hh
          simp [Instr.sliceBounds, hy, run_sliceBound, h1, h2]
        · cases hh
    | some z =>
      simp only [bnd] at hl
      split at hl
      · rename_i kz iz hz
        simp only [Option.some.injEq] at hl; subst hl
        cases hi with
        | none => simp only [bnd, Option.some.injEq] at hh; subst hh; simp [Instr.sliceBounds, hz, run_sliceBound, h0, h1]
        | some y =>
          simp only [bnd] at hh
          split at hh
          · rename_i k i hy
            simp only [Option.some.injEq] at hh; subst hh
            simp [Instr.sliceBounds, hy, hz, run_sliceBound, h0, h1, h2, eh, show 0 ≤ i by omega]
          · cases hh
      · cases hl
  rw [hb]
  simp only [Result.andThen_ok, hs]

theorem x_build (cells : Array Value) {t : Nat} {ps : List (Nat × Operand)} {vs : List (Nat × Value)} {d : Option Tmp} {g : Option (Nat × Bool)} (hv : ps.map (fun x => (x.1, ev f x.2)) = vs) (hb : P.built t vs = some cells) (w : World) :
    (execOp (ev f) ⟨d, .build t ps.toArray, ty, pos, aft, g⟩).run P w = .ok (.value (.agg cells)) w := by
  have hpp : (ps.toArray.map fun (x : Nat × Operand) => (x.1, ev f x.2)).toList = vs := by rw [List.map_toArray]; exact hv
  have := run_build (P := P) w t (ps.toArray.map fun (x : Nat × Operand) => (x.1, ev f x.2)) cells (by rw [hpp]; exact hb)
  unfold execOp
  simp only [Sem.run_bind, this, Result.andThen_ok]; rfl
theorem x_build2 {t : Nat} {x y : Operand} {v0 v1 : Value} {d : Option Tmp} {g : Option (Nat × Bool)} (h0 : force (ev f x) = some v0) (h1 : force (ev f y) = some v1) (hb : P.built t [(0, v0), (1, v1)] = some #[v0, v1]) (w : World) :
    (execOp (ev f) ⟨d, .build t #[(0, x), (1, y)], ty, pos, aft, g⟩).run P w = .ok (.value (.agg #[v0, v1])) w :=
  x_build (ps := [(0, x), (1, y)]) #[v0, v1] (by rw [← force_eq h0, ← force_eq h1]; rfl) hb w
theorem x_build0 {t : Nat} {i : TI} {d : Option Tmp} {g : Option (Nat × Bool)} (_ht : T t = some i) (hb : P.built t [] = some i.zero.toArray) (w : World) :
    (execOp (ev f) ⟨d, .build t #[], ty, pos, aft, g⟩).run P w = .ok (.value (.agg i.zero.toArray)) w :=
  x_build (ps := []) _ rfl hb w

theorem vops_slice (hT : TyOk P T) {d t e a0 b0 : Nat} {z0 : List Value} {ei : TI} {x : Operand} {lo hi : Option Operand} {a : Option Addr} {n c : Nat} {l h : Int}
    (ht : T t = some ⟨.slice e, a0, b0, z0⟩) (he : T e = some ei) (hx : ev f x = .slice a n c) (hl : bnd (ev f) lo 0 = some l) (hh : bnd (ev f) hi n = some h) (hc : 0 ≤ l ∧ l ≤ h ∧ h ≤ (c : Int))
    (k : VOps P Γ ops Q rest (upd f d (sliced a l.toNat h.toNat c ei.size)) own) : VOps P Γ ops Q (⟨some d, .slice t x lo hi none, ty, pos, aft, none⟩ :: rest) f own := vops_run (x_slice hT ht he hx hl hh hc) k
theorem vops_build2 {d t : Nat} {x y : Operand} {v0 v1 : Value} (h0 : force (ev f x) = some v0) (h1 : force (ev f y) = some v1) (hb : P.built t [(0, v0), (1, v1)] = some #[v0, v1])
    (k : VOps P Γ ops Q rest (upd f d (.agg #[v0, v1])) own) : VOps P Γ ops Q (⟨some d, .build t #[(0, x), (1, y)], ty, pos, aft, none⟩ :: rest) f own := vops_run (x_build2 h0 h1 hb) k
theorem vops_buildZ (hT : TyOk P T) {d t : Nat} {i : TI} (ht : T t = some i) (hb : P.built t [] = some i.zero.toArray)
    (k : VOps P Γ ops Q rest (upd f d (.agg i.zero.toArray)) own) : VOps P Γ ops Q (⟨some d, .build t #[], ty, pos, aft, none⟩ :: rest) f own := (fun _ => vops_run (x_build0 ht hb) k) hT
theorem vd_slice (hT : TyOk P T) {base : Own} {L : List Nat} {listed : Array Bool} {i d : Nat} {g : Option (Nat × Bool)} {t e a0 b0 : Nat} {z0 : List Value} {ei : TI} {x : Operand} {lo hi : Option Operand} {a : Option Addr} {n c : Nat} {l h : Int}
    (ho : ops[i]? = some ⟨some d, .slice t x lo hi none, ty, pos, aft, g⟩) (hg : GOn ops f g) (ht : T t = some ⟨.slice e, a0, b0, z0⟩) (he : T e = some ei) (hx : ev f x = .slice a n c) (hl : bnd (ev f) lo 0 = some l) (hh : bnd (ev f) hi n = some h)
    (hr : (Region.ready .any ops listed).contains i = true) (hf : Region.free .any ops listed i = true) (hc : 0 ≤ l ∧ l ≤ h ∧ h ≤ (c : Int)) (k : VD P Γ ops base Q L (listed.setIfInBounds i true) (upd f d (sliced a l.toNat h.toNat c ei.size)) own) : VD P Γ ops base Q (i :: L) listed f own :=
  vd_run ho hg (x_slice hT ht he hx hl hh hc) hr hf k
theorem vd_build2 {base : Own} {L : List Nat} {listed : Array Bool} {i d : Nat} {g : Option (Nat × Bool)} {t : Nat} {x y : Operand} {v0 v1 : Value}
    (ho : ops[i]? = some ⟨some d, .build t #[(0, x), (1, y)], ty, pos, aft, g⟩) (hg : GOn ops f g) (h0 : force (ev f x) = some v0) (h1 : force (ev f y) = some v1) (hb : P.built t [(0, v0), (1, v1)] = some #[v0, v1])
    (hr : (Region.ready .any ops listed).contains i = true) (hf : Region.free .any ops listed i = true) (k : VD P Γ ops base Q L (listed.setIfInBounds i true) (upd f d (.agg #[v0, v1])) own) : VD P Γ ops base Q (i :: L) listed f own :=
  vd_run ho hg (x_build2 h0 h1 hb) hr hf k

/-- Nothing is appended. -/
theorem vops_appendZ (hT : TyOk P T) {d t e a b n c m c2 : Nat} {z : List Value} {x y : Operand} {ei : TI} {p q : Option Addr} (ht : T t = some ⟨.slice e, a, b, z⟩) (he : T e = some ei)
    (hx : ev f x = .slice p n c) (hy : ev f y = .slice q m c2) (hm : m = 0) (hnc : n ≤ c) (k : VOps P Γ ops Q rest (upd f d (.slice p n c)) own) :
    VOps P Γ ops Q (⟨some d, .call ⟨.builtin .append, #[x, y], #[t, t]⟩, ty, pos, aft, none⟩ :: rest) f own :=
  vops_run (fun w => by
    subst hm
    have hs := hT.size he w
    have : (Builtin.append_ #[t, t] ty #[ev f x, ev f y]).run P w = .ok (.slice p n c) w := by
      rw [hx, hy]
      cases p <;> cases q <;> simp [Builtin.append_, run_underlying (hT.slice ht), hs, Builtin.lenOf, Builtin.firstCells, hnc, storeCells, loadCells, loadCellsFrom]
    unfold execOp
    simp only [resolve, invoke, builtin, Sem.run_bind, Sem.run_pure, Result.andThen_ok, List.map_toArray, List.map_cons, List.map_nil, this]) k
theorem vops_have {d : Option Tmp} {op : Op} {l : List Oper} (h : ∀ w, Good Γ own w → VOps P Γ ops Q (⟨d, op, ty, pos, aft, none⟩ :: l) f own) : VOps P Γ ops Q (⟨d, op, ty, pos, aft, none⟩ :: l) f own :=
  fun w hg => h w hg w hg
/-- A list behind a list of one's own. -/
theorem vops_appendL {k : Nat} (hT : TyOk P T) {d t e a b : Nat} {z : List Value} {x y : Operand} {ei : TI} {n m c : Nat} {q q2 : List Int} {v0 : Value} {pa : Option Addr} {new R : Own}
    (ht : T t = some ⟨.slice e, a, b, z⟩) (he : T e = some ei) (hz : ei.zero ≠ []) (hzl : ei.zero.length = ei.size) (hk : ei.size = k) (hbt : ei.bytes ≤ 1000)
    (hx : ev f x = v0) (hN : NewF e k n q v0 new) (hp : own.Perm (new ++ R))
    (hy : ev f y = .slice pa m c) (hrd : See Γ own (fun w => RdF w k m (.slice pa m c) q2)) (hn : n + m ≤ 1073741824)
    (kk : ∀ p cap new', NewF e k (n + m) (q ++ q2) (.slice p (n + m) cap) new' → VOps P Γ ops Q rest (upd f d (.slice p (n + m) cap)) (new' ++ R)) :
    VOps P Γ ops Q (⟨some d, .call ⟨.builtin .append, #[x, y], #[t, t]⟩, ty, pos, aft, none⟩ :: rest) f own := by
  subst hk
  refine vops_have fun w0 hg0 => ?_
  by_cases hm : m = 0
  · have hq2 : q2 = [] := by
      rcases hrd w0 hg0 with ⟨_, _, _, _, h⟩ | ⟨_, _, _, _, h, _⟩
      · exact h
      · exact List.eq_nil_of_length_eq_zero (by rw [h, hm, Nat.zero_mul])
    obtain ⟨p0, c0, hv0⟩ := hN.form
    subst hv0
    have hnc : n ≤ c0 := by
      rcases hN.2 with ⟨_, h, _⟩ | ⟨_, _, h1, h2, _⟩
      · omega
      · cases h1; exact h2
    refine vops_perm hp (vops_appendZ hT ht he hx hy hm hnc ?_)
    have := kk p0 c0 new (by rw [hq2, List.append_nil, hm]; exact hN)
    rwa [hm] at this
  · obtain ⟨b', o', cap', heq, hlen, hcell⟩ := (hrd w0 hg0).at (i := 0) (by omega)
    cases heq
    refine vops_appendM (cells := ints q) (news := ints q2) hT hx hN hp ht he hz hzl hy (by rw [ints_length, hlen]) (fun j v hj w hg => ?_) ints_one (by omega) (by simp only [maxLen]; omega) ?_ (fun v new' h => ?_)
    · obtain ⟨b2, o2, cap2, heq2, hlen2, hcell2⟩ := (hrd w hg).at (i := 0) (by omega)
      cases heq2
      have hjl : j < q2.length := by rw [← ints_length]; exact (List.getElem?_eq_some_iff.1 hj).1
      rw [ints_get hjl] at hj
      cases hj
      exact hcell2 j (by omega)
    · calc (n + m) * ei.bytes ≤ 1073741824 * 1000 := Nat.mul_le_mul (by omega) hbt
        _ ≤ _ := by omega
    · obtain ⟨p, cap, rfl⟩ := h.form
      refine kk p cap new' ?_
      have : ints (q ++ q2) = ints q ++ ints q2 := by simp [ints]
      unfold NewF; rw [this]; exact h
theorem rdS_f {w : World} {k : Nat} {v : Value} {rs : List (List Int)} (h : RdS w v rs) (hk : ∀ r ∈ rs, r.length = k) : RdF w k rs.length v rs.flatten := by
  rcases h with ⟨a, cap, h1, h2⟩ | ⟨b, o, cap, h1, h2⟩
  · subst h2; exact .inl ⟨a, cap, h1, rfl, rfl⟩
  · exact .inr ⟨b, o, cap, h1, flat_length hk, h2⟩
theorem NewF.r {e k n m : Nat} {q : List Int} {rs : List (List Int)} {v : Value} {new : Own} (h : NewF e k n q v new) (hn : n = rs.length) (hq : q = rs.flatten) : NewR e k rs v new := by
  subst hn; subst hq; have _ := m; exact h
/-- A part of a list. -/
theorem RdS.part {w : World} {k : Nat} {a : Option Addr} {n c : Nat} {rs : List (List Int)} (h : RdS w (.slice a n c) rs) (hk : ∀ r ∈ rs, r.length = k) (hn : n = rs.length) {l u : Nat} (hlu : l ≤ u) (hu : u ≤ n) (hc : n ≤ c) :
    RdS w (sliced a l u c k) ((rs.take u).drop l) := by
  subst hn
  have hlen : ((rs.take u).drop l).length = u - l := by simp; omega
  unfold sliced
  by_cases hcl : c = l
  · rw [if_pos hcl]
    have : u - l = 0 := by omega
    refine .inl ⟨_, _, by rw [this], List.eq_nil_of_length_eq_zero (by omega)⟩
  · rw [if_neg hcl]
    rcases h with ⟨a', cap, hv, hrs⟩ | ⟨b, o, cap, hv, hcell⟩
    · subst hrs
      have h0 : u = 0 := by simpa using hu
      subst h0
      exact .inl ⟨_, _, by rw [Nat.zero_sub], by simp⟩
    · cases hv
      refine .inr ⟨b, o + l * k, c - l, by rw [hlen, Option.map_some, Addr.add_lit], fun j x hx => ?_⟩
      rw [Nat.add_assoc]
      refine hcell (l * k + j) x ?_
      have hT : (rs.take u).flatten = ((rs.take u).take l).flatten ++ ((rs.take u).drop l).flatten := by rw [← List.flatten_append, List.take_append_drop]
      have hR : rs.flatten = (rs.take u).flatten ++ (rs.drop u).flatten := by rw [← List.flatten_append, List.take_append_drop]
      have hl1 : ((rs.take u).take l).flatten.length = l * k := by
        rw [flat_length (k := k) (fun r hr => hk r (List.mem_of_mem_take (List.mem_of_mem_take hr)))]
        rw [List.length_take, List.length_take]; congr 1; omega
      unfold ints at hx ⊢
      rw [List.getElem?_map] at hx ⊢
      rw [hR, hT, List.append_assoc, List.getElem?_append_right (by omega), hl1, Nat.add_sub_cancel_left, List.getElem?_append_left]
      · exact hx
      · by_cases hj : j < ((rs.take u).drop l).flatten.length
        · exact hj
        · rw [List.getElem?_eq_none (by omega)] at hx; cases hx
end
end Go.VL

namespace Go.VL
section
variable {P : Program} {T : Nat → Option TI} {Γ : Ctx} {f : Nat → Value} {own : Own}
/-- Two results: a schedule, and a code. -/
def PairS (e : Nat) (r : (Int × List (List Int)) × Int) (v : Value) (new : Own) : Prop := ∃ p cap, v = .tuple #[.agg #[.int .i64 r.1.1, .slice p r.1.2.length cap], .int .i64 r.2] ∧ NewR e 14 r.1.2 (.slice p r.1.2.length cap) new
theorem pairS_ok (hT : TyOk P T) {e e' m n p t u b : Nat} {ti : TI} {fn : Func} {c len cap : Nat} {nn cd : Int} {q : Option Addr} {rs : List (List Int)} {r : (Int × List (List Int)) × Int} {new : Own} (h : fn.results = #[.cell p t, .tmp u]) (ht : T t = some ti) (ha : ti.isAgg = true) (hsz : ti.size = 2)
    (hp : f p = .pointer (some ⟨b, 0, none⟩)) (hm : (b, (⟨[.int .i64 nn, .slice q len cap], e', m, none⟩ : Blk)) ∈ own) (hx : f u = .int .i64 cd) (hl : len = rs.length) (hN : NewR e 14 rs (.slice q len cap) new) (hs : Sub new own) (hr : r = ((nn, rs), cd)) : Out P Γ n fn (PairS e r) .ret f own := by
  have _ := c
  subst hl; subst hr
  exact ⟨_, new, rv_cell2 (cs := [.int .i64 nn, .slice q rs.length cap]) hT h hp ht ha hsz.symm (fun j v hj => by rw [Nat.zero_add]; exact sees_mem hm hj) hx, SlAt.nodup hN, hs, q, cap, rfl, hN⟩
theorem pairS_err (hT : TyOk P T) {e e' m n p t u b : Nat} {ti : TI} {fn : Func} {cd : Int} {r : (Int × List (List Int)) × Int} (h : fn.results = #[.cell p t, .tmp u]) (ht : T t = some ti) (ha : ti.isAgg = true) (hsz : ti.size = 2)
    (hp : f p = .pointer (some ⟨b, 0, none⟩)) (hm : (b, (⟨[.int .i64 0, .slice none 0 0], e', m, none⟩ : Blk)) ∈ own) (hx : f u = .int .i64 cd) (hr : r = ((0, []), cd)) : Out P Γ n fn (PairS e r) .ret f own :=
  pairS_ok (c := 0) hT h ht ha hsz hp hm hx (rs := []) rfl SlAt.nil sub_nil hr
end
end Go.VL

/- A part of the proof: Make. No conditions of its own. -/
namespace Go.VL
open Go.RowKit
section
variable {P : Program} {T : Nat → Option TI} {Γ : Ctx} {ops : Array Oper} {Q : (Nat → Value) → Own → Prop} {rest : List Oper} {f : Nat → Value} {own own' : Own}
variable {ty : TypeId} {pos : String} {aft : Array Edge}
/-- An empty slice is made, with room. -/
theorem vops_makeCap {k : Nat} (hT : TyOk P T) {d t e a b : Nat} {z : List Value} {x y : Operand} {ei : TI} {kl kc : IntKind} {n : Nat} {c : Int} (ht : T t = some ⟨.slice e, a, b, z⟩) (he : T e = some ei) (hz : ei.zero ≠ []) (hk : ei.size = k)
    (hx : ev f x = .int kl 0) (hy : ev f y = .int kc c) (hc : c = n) (hbt : ei.bytes ≤ 1000) (hn : n ≤ 1073741824)
    (kk : ∀ b, b ∉ ids own → VOps P Γ ops Q rest (upd f d (.slice (some ⟨b, 0, none⟩) 0 n)) ((b, ⟨ints [], e, n * k, none⟩) :: own)) :
    VOps P Γ ops Q (⟨some d, .makeSlice t x y, ty, pos, aft, none⟩ :: rest) f own :=
  vops_go fun w hg => by
    subst hk; subst hc
    obtain ⟨xi, zv, h1, h2, h3, h4, h5⟩ := hT.full he hz
    show RunsTo P ((Instr.makeSlice t (ev f x) (ev f y) >>= fun v => pure (Next.value v)).run P w) _
    have hb : ei.bytes * n ≤ 281474976710656 := calc ei.bytes * n ≤ 1000 * 1073741824 := Nat.mul_le_mul hbt hn
      _ ≤ _ := by omega
    have hr := run_make (P := P) w t e xi zv (hT.slice ht) h1 h4 kl kc 0 n (by omega) (by omega) (by rw [h3]; omega) (by omega)
    rw [hx, hy, run_val, hr]
    simp only [Int.toNat_natCast]
    have g1 := hg.newP (cells := ints []) (madeCells zv.cells (n * xi.size)) e (n := n * ei.size) (by rw [size_madeCells, h2]) (fun j v hv => by simp [ints] at hv)
    obtain ⟨_, g2, g3⟩ := hg.new (madeCells zv.cells (n * xi.size)) e
    refine ⟨_, g1, ⟨g3.mono (by simp), fun c hc => ?_⟩, kk _ g2⟩
    rcases List.mem_cons.1 hc with h | h
    · exact .inr (Nat.le_of_eq h.symm)
    · exact .inl h
/-- A literal list of one row. -/
theorem vops_litR {k : Nat} (hT : TyOk P T) {d t e a b : Nat} {z : List Value} {ei : TI} {x : Operand} {r : List Int} (ht : T t = some ⟨.slice e, a, b, z⟩) (he : T e = some ei) (hz : ei.zero ≠ []) (hx : ev f x = .agg (ints r).toArray) (hr : r.length = k) (hk : ei.size = k) (h0 : 0 < k) (h1 : k ≤ 1000)
    (kk : ∀ b, b ∉ ids own → VOps P Γ ops Q rest (upd f d (.slice (some ⟨b, 0, none⟩) 1 1)) ((b, ⟨ints r, e, 1 * k, none⟩) :: own)) :
    VOps P Γ ops Q (⟨some d, .buildSlice t 1 #[(0, x)], ty, pos, aft, none⟩ :: rest) f own := by
  subst hk
  exact vops_buildS (ps := [(0, x)]) [.agg (ints r).toArray] (ints r) hT ht he hz (by rw [← hx]; rfl) rfl (by omega) h0 (by omega) (fun v hv => by
    obtain rfl : v = .agg (ints r).toArray := by simpa using hv
    simp [Value.cells, ints_length, hr]) (by simp [Value.cells]) kk
theorem NewR.one {e b k : Nat} {r : List Int} (hr : r.length = k) : NewR e k [r] (.slice (some ⟨b, 0, none⟩) 1 1) [(b, ⟨ints r, e, 1 * k, none⟩)] := by
  have := NewF.mk (e := e) (k := k) (n := 1) (q := r) (b := b) (cap := 1) (by omega) (by omega) (by simp only [maxLen]; omega)
  unfold NewR
  simpa [NewF] using this
end
end Go.VL
namespace Go.VL
theorem NewF.empty {e k b : Nat} : NewF e k 0 [] (.slice (some ⟨b, 0, none⟩) 0 0) [(b, ⟨[], e, 0, none⟩)] := by
  have := NewF.mk (e := e) (k := k) (n := 0) (q := []) (b := b) (cap := 0) (by simp) (Nat.le_refl 0) (Nat.zero_le _)
  simpa [ints] using this
theorem NewI.empty {e b : Nat} : NewI e [] (.slice (some ⟨b, 0, none⟩) 0 0) [(b, ⟨[], e, 0, none⟩)] := NewF.empty
end Go.VL
namespace Go.VL
section
variable {P : Program} {T : Nat → Option TI} {Γ : Ctx} {f : Nat → Value} {own : Own}
/-- A new schedule. -/
def SchG (e : Nat) (n : Int) (rs : List (List Int)) (u : Value) (new : Own) : Prop := ∃ p cap, u = .agg #[.int .i64 n, .slice p rs.length cap] ∧ NewR e 14 rs (.slice p rs.length cap) new
theorem schG_ok (hT : TyOk P T) {e e' m n p t b : Nat} {ti : TI} {fn : Func} {len cap : Nat} {nn nn' : Int} {q : Option Addr} {rs rs' : List (List Int)} {new : Own} (h : fn.results = #[.cell p t]) (ht : T t = some ti) (ha : ti.isAgg = true) (hsz : ti.size = 2)
    (hp : f p = .pointer (some ⟨b, 0, none⟩)) (hm : (b, (⟨[.int .i64 nn, .slice q len cap], e', m, none⟩ : Blk)) ∈ own) (hl : len = rs.length) (hN : NewR e 14 rs (.slice q len cap) new) (hs : Sub new own) (hn : nn = nn') (hr : rs = rs') : Out P Γ n fn (SchG e nn' rs') .ret f own := by
  subst hl; subst hn; subst hr
  exact ⟨_, new, rv_cell (cs := [.int .i64 nn, .slice q rs.length cap]) hT h hp ht ha hsz.symm (fun j v hj => by rw [Nat.zero_add]; exact sees_mem hm hj), SlAt.nodup hN, hs, q, cap, rfl, hN⟩
end
end Go.VL

/-! Lists of booleans; rows laid by search; drawn regions over a part of what is owned. -/
namespace Go.VL
open Go.RowKit
def bools (r : List Bool) : List Value := r.map Value.bool
theorem bools_length (r : List Bool) : (bools r).length = r.length := by simp [bools]
theorem bools_get {r : List Bool} {i : Nat} (h : i < r.length) : (bools r)[0 + i]? = some (.bool (r.getD i false)) := by simp [bools, h]
theorem bools_set (q : List Bool) (o : Nat) (x : Bool) : (bools q).set o (.bool x) = bools (q.set o x) := by simp [bools, List.map_set]
section
variable {P : Program} {T : Nat → Option TI} {Γ : Ctx} {ops : Array Oper} {Q : (Nat → Value) → Own → Prop} {rest : List Oper} {f : Nat → Value} {own own' : Own}
variable {ty : TypeId} {pos : String} {aft : Array Edge}
theorem vops_storeBM (hT : TyOk P T) {t : Nat} {x y : Operand} {b o : Nat} {v : Bool} {ti : TI} {q : List Bool} {e n : Nat} (ht : T t = some ti) (hp : ti.size = 1) (hx : ev f x = .pointer (some ⟨b, 0 + o, none⟩)) (hy : ev f y = .bool v)
    (hu : Upd own own' b ⟨bools q, e, n, none⟩ ⟨bools (q.set o v), e, n, none⟩) (hlt : o < q.length)
    (kk : VOps P Γ ops Q rest f own') : VOps P Γ ops Q (⟨none, .store t x y, ty, pos, aft, none⟩ :: rest) f own := by
  rw [Nat.zero_add] at hx
  rw [← bools_set] at hu
  exact vops_storeM hT (v := .bool v) ht hp hx (by rw [hy]; rfl) rfl hu (by rw [bools_length]; exact hlt) kk
/-- A list of booleans, all false. -/
theorem vops_makeBools (hT : TyOk P T) {d t e a b : Nat} {z : List Value} {x y : Operand} {ei : TI} {kl kc : IntKind} {c : Int} {n : Nat} (ht : T t = some ⟨.slice e, a, b, z⟩) (he : T e = some ei) (hz : ei.zero = [.bool false]) (hs : ei.size = 1)
    (hx : ev f x = .int kl c) (hy : ev f y = .int kc c) (hc : c = n) (hb : ei.bytes ≤ 1000) (hn : n ≤ 1073741824)
    (kk : ∀ b, b ∉ ids own → VOps P Γ ops Q rest (upd f d (.slice (some ⟨b, 0, none⟩) n n)) ((b, ⟨bools (List.replicate n false), e, n, none⟩) :: own)) :
    VOps P Γ ops Q (⟨some d, .makeSlice t x y, ty, pos, aft, none⟩ :: rest) f own := by
  subst hc
  have hbb : ei.bytes * n ≤ 281474976710656 := calc ei.bytes * n ≤ 1000 * 1073741824 := Nat.mul_le_mul hb hn
    _ ≤ _ := by omega
  refine vops_make hT ht he (by rw [hz]; simp) hx hy hbb (by omega) fun b hbn => ?_
  have e1 : (madeCells ei.zero.toArray (n * ei.size)).toList = bools (List.replicate n false) := by
    rw [hz, hs, show ([Value.bool false] : List Value) = List.replicate 1 (.bool false) from rfl, made_same _ _ _ (by omega)]
    simp [bools]
  rw [e1, hs, Nat.mul_one]
  exact kk b hbn
theorem vops_storeRowM (hT : TyOk P T) {t : Nat} {x y : Operand} {b o : Nat} {q r : List Int} {ti : TI} {e n : Nat} (ht : T t = some ti) (hn : r.length = ti.size) (hx : ev f x = .pointer (some ⟨b, 0 + o, none⟩)) (hy : ev f y = .agg (ints r).toArray)
    (hu : Upd own own' b ⟨ints q, e, n, none⟩ ⟨ints (spl q o r), e, n, none⟩) (hq : q.length = n) (hlen : o + r.length ≤ n)
    (kk : VOps P Γ ops Q rest f own') : VOps P Γ ops Q (⟨none, .store t x y, ty, pos, aft, none⟩ :: rest) f own := by
  obtain ⟨i, h1, rfl⟩ := hu.idx
  exact vops_storeRow i hT ht hn hx hy h1 hq hlen kk
theorem vw_drawB {ro : Option Nat} {n : Nat} {id : Nat} {l : List Oper} {Q : Post} (base : Own) (L : List Nat) (hm : P.follows .mixedOrders = true) (hd : dstOk n l = true) (hsel : Region.noSelect l.toArray = true) (hL : L.length = l.length) (hb : OLe base own)
    (h : VD P Γ l.toArray base (fun f own => Q .normal f own) L (Array.replicate l.length false) f own) : VWr ro P Γ n (.region id l.toArray true) Q f own := by
  intro a w ha hg hmk
  refine wpIn_region_any hm ?_
  have h1 := anyV_of_vd (base := base) (hb.nodup hg.ok.nodup) hsel L _ f own h
  have h2 := anyV_sound (ro := ro) (n := n) (Q := Q) (by simpa using hd) _ _ f own h1 a { w with drawn := w.drawn + 1 } ha hg.drew hmk.drew
  rw [hL] at h2
  simpa using h2
end
/-- A list in the making: the first i rows of rs, the row c, and nothing behind. -/
def part (k : Nat) (rs : List (List Int)) (i : Nat) (c : List Int) : List Int := (rs.take i).flatten ++ (c ++ List.replicate ((rs.length - (i + 1)) * k) 0)
/-- Which numbers have come. -/
def seenOf (l : List Int) (i n : Nat) : List Bool := (List.range n).map fun (x : Nat) => decide ((x : Int) ∈ l.take i)
theorem seenOf_length (l : List Int) (i n : Nat) : (seenOf l i n).length = n := by simp [seenOf]
theorem seenOf_get {l : List Int} {i n x : Nat} (h : x < n) : (seenOf l i n).getD x false = decide ((x : Int) ∈ l.take i) := by simp [seenOf, h]
theorem seenOf_zero (l : List Int) (n : Nat) : seenOf l 0 n = List.replicate n false := by
  apply List.ext_getElem (by simp [seenOf])
  intro j h1 h2; simp [seenOf]
theorem seenOf_set {l : List Int} {i n : Nat} (hi : i < l.length) (h0 : 0 ≤ l.getD i 0) (_h1 : l.getD i 0 < n) : (seenOf l i n).set (l.getD i 0).toNat true = seenOf l (i + 1) n := by
  apply List.ext_getElem (by simp [seenOf])
  intro j h2 h3
  have hj : j < n := by simpa [seenOf] using h3
  rw [List.getElem_set]
  simp only [seenOf, List.getElem_map, List.getElem_range, take_snoc hi, List.mem_append, List.mem_singleton]
  split
  · rename_i hh; symm; apply decide_eq_true; right; omega
  · rename_i hh
    congr 1
    apply propext
    constructor
    · exact .inl
    · rintro (h | h)
      · exact h
      · omega
/-- A list of all numbers below n. -/
def IsPerm (n : Int) (l : List Int) : Prop := (l.length : Int) = n ∧ (∀ x ∈ l, 0 ≤ x ∧ x < n) ∧ l.Nodup
theorem nodup_snoc {l : List Int} {i : Nat} (hi : i < l.length) (h : (l.take i).Nodup) (hn : l.getD i 0 ∉ l.take i) : (l.take (i + 1)).Nodup := by
  rw [take_snoc hi]
  refine List.nodup_append.2 ⟨h, by simp, fun a ha b hb => ?_⟩
  have : b = l.getD i 0 := by simpa using hb
  rw [this]; intro e; subst e; exact hn ha
theorem mem_getD {l : List Int} {i : Nat} (hi : i < l.length) : l.getD i 0 ∈ l := by
  rw [List.getD_eq_getElem?_getD, List.getElem?_eq_getElem hi]; exact List.getElem_mem _
theorem not_nodup {l : List Int} {i : Nat} (hi : i < l.length) (hm : l.getD i 0 ∈ l.take i) : ¬ l.Nodup := by
  intro hn
  obtain ⟨j, hj⟩ := List.mem_iff_getElem?.1 hm
  have hji : j < i := by have := (List.getElem?_eq_some_iff.1 hj).1; simp at this; omega
  rw [List.getElem?_take_of_lt hji] at hj
  have h2 : l[i]? = some (l.getD i 0) := by rw [List.getD_eq_getElem?_getD, List.getElem?_eq_getElem hi]; rfl
  have := (List.getElem?_inj hi hn).1 (h2.trans hj.symm)
  omega
end Go.VL

namespace Go.VL
theorem ole_sfx {A b : Own} : OLe b (A ++ b) := ⟨A, List.perm_append_comm⟩
end Go.VL

/-! What holds between two statements. -/
namespace Go.VL
theorem vw_mid {ro : Option Nat} {P : Program} {Γ : Ctx} {n : Nat} {c : Code} {K0 : (Nat → Value) → Own → Prop} {Q : Post} {f : Nat → Value} {own : Own} (K : (Nat → Value) → Own → Prop)
    (h : VWr ro P Γ n c (Then K (fun _ _ _ => False)) f own) (k : ∀ f own, K f own → K0 f own) : VWr ro P Γ n c (Then K0 Q) f own :=
  vw_mono h fun e f own h => by
    cases e with
    | normal => exact k f own h
    | _ => exact h.elim
end Go.VL

