import Derived.Test.YtnammdmiljjhjaaVLList
import Derived.Great.FillDense
import Derived.Great.BuildSlice
/-! Slice literals; loops that forget; results. -/
namespace Go.VL
open Go.RowKit

theorem pm1_here {x : Nat × Blk} {R : Own} : (x :: R).Perm (x :: R) := List.Perm.refl _
theorem pm1_next {x y : Nat × Blk} {R R' : Own} (h : R.Perm (x :: R')) : (y :: R).Perm (x :: (y :: R')) := (h.cons y).trans (List.Perm.swap x y R')
theorem pm1_past {x : Nat × Blk} {A R R' : Own} (h : R.Perm (x :: R')) : (A ++ R).Perm (x :: (A ++ R')) := (h.append_left A).trans List.perm_middle
/-- a is a part of b. -/
def OLe (a b : Own) : Prop := ∃ R, b.Perm (a ++ R)
theorem ole_nil {b : Own} : OLe [] b := ⟨b, List.Perm.refl _⟩
theorem ole_refl {b : Own} : OLe b b := ⟨[], by simp⟩
theorem ole_cons {x : Nat × Blk} {a b R : Own} (h : b.Perm (x :: R)) (k : OLe a R) : OLe (x :: a) b := by
  obtain ⟨S, hS⟩ := k
  exact ⟨S, h.trans (hS.cons x)⟩
theorem ole_app {A a b R : Own} (h : b.Perm (A ++ R)) (k : OLe a R) : OLe (A ++ a) b := by
  obtain ⟨S, hS⟩ := k
  exact ⟨S, h.trans (by rw [List.append_assoc]; exact hS.append_left A)⟩
theorem OLe.mem {a b : Own} (h : OLe a b) {p : Nat × Blk} (hp : p ∈ a) : p ∈ b := by
  obtain ⟨R, hR⟩ := h
  exact hR.mem_iff.2 (List.mem_append_left _ hp)
theorem OLe.nodup {a b : Own} (h : OLe a b) (hn : (ids b).Nodup) : (ids a).Nodup := by
  obtain ⟨R, hR⟩ := h
  have := (hR.map Prod.fst).nodup_iff.1 hn
  rw [List.map_append] at this
  exact (List.nodup_append.1 this).1
theorem Good.le {Γ : Ctx} {a b : Own} {w : World} (h : OLe a b) (hg : Good Γ b w) : Good Γ a w :=
  ⟨hg.fr, hg.ok.sub (h.nodup hg.ok.nodup) (fun _ hp => h.mem hp), fun c k hb => hg.mine c k (h.mem hb)⟩

section
variable {P : Program} {T : Nat → Option TI} {Γ : Ctx} {ops : Array Oper} {Q : (Nat → Value) → Own → Prop} {rest : List Oper} {f : Nat → Value} {own own' : Own}
variable {ty : TypeId} {pos : String} {aft : Array Edge}

theorem vw_le {ro : Option Nat} {n : Nat} {c : Code} {Q : Post} (hp : OLe own' own) (h : VWr ro P Γ n c Q f own') : VWr ro P Γ n c Q f own :=
  fun a w ha hg hm => h a w ha (hg.le hp) (hm.sub fun b hb => by obtain ⟨k, hk⟩ := mem_ids hb; exact ids_mem (hp.mem hk))
theorem vw_loopW {ro : Option Nat} {n : Nat} {Q : Post} {c : Code} (I : Nat → (Nat → Value) → Own → Prop) (m : Nat) (h0 : ∃ own0, OLe own0 own ∧ I m f own0)
    (round : ∀ m f own, I m f own → VWr ro P Γ n c (Then (fun f' own' => ∃ m', m' < m ∧ ∃ own'', OLe own'' own' ∧ I m' f' own'') Q) f own) : VWr ro P Γ n (.loop c) Q f own := by
  obtain ⟨own0, hle, hI⟩ := h0
  refine vw_le hle (vw_loop (fun m f own => ∃ own0, OLe own0 own ∧ I m f own0) m ⟨own0, ole_refl, hI⟩ ?_)
  rintro m f own ⟨own0, hle, hI⟩
  refine vw_le hle (vw_mono (round m f own0 hI) ?_)
  rintro e f' own' h
  cases e <;> exact h

/-- An empty slice literal. -/
theorem vops_build0 (hT : TyOk P T) {d t e a b : Nat} {z : List Value} {ei : TI} (ht : T t = some ⟨.slice e, a, b, z⟩) (he : T e = some ei)
    (k : ∀ b, b ∉ ids own → VOps P Γ ops Q rest (upd f d (.slice (some ⟨b, 0, none⟩) 0 0)) ((b, ⟨[], e, 0, none⟩) :: own)) :
    VOps P Γ ops Q (⟨some d, .buildSlice t 0 #[], ty, pos, aft, none⟩ :: rest) f own :=
  vops_go fun w hg => by
    obtain ⟨x, h1, h2, _⟩ := (hT e ei he).info
    have hr : (Instr.buildSlice t 0 #[]).run P w = .ok (.slice (some ⟨w.heap.size, 0, none⟩) 0 0) (w.alloc (.cells #[] e)) := by
      simp [Instr.buildSlice, run_underlying (hT.slice ht), sizeOf, typeInfo, h1, Instr.fill, newRow]
      congr 1; congr 1; simp [Array.range]
    have hx : (execOp (ev f) ⟨some d, .buildSlice t 0 #[], ty, pos, aft, none⟩).run P w = .ok (.value (.slice (some ⟨w.heap.size, 0, none⟩) 0 0)) (w.alloc (.cells #[] e)) := by
      unfold execOp
      simp only [List.map_toArray, List.map_nil, Sem.run_bind, hr, Result.andThen_ok]; rfl
    rw [hx]
    obtain ⟨g1, g2, g3⟩ := hg.new #[] e
    refine ⟨_, g1, ⟨g3.mono (by simp), fun c hc => ?_⟩, k _ g2⟩
    rcases List.mem_cons.1 hc with h | h
    · exact .inr (Nat.le_of_eq h.symm)
    · exact .inl h
/-- A slice literal. -/
theorem vops_buildS (vs cs : List Value) (hT : TyOk P T) {d t e a b n : Nat} {z : List Value} {ei : TI} {ps : List (Nat × Operand)} (ht : T t = some ⟨.slice e, a, b, z⟩) (he : T e = some ei) (hz : ei.zero ≠ []) (hps : ps.map (fun x => (x.1, ev f x.2)) = (vs.zipIdx 0).map fun x => (x.2, x.1))
    (hn : vs.length = n) (hn0 : 0 < n) (hsz : 0 < ei.size) (hsm : n * ei.size ≤ 2 ^ 24) (hc : ∀ v ∈ vs, v.cells.size = ei.size) (hcs : (vs.flatMap fun v => v.cells.toList) = cs)
    (k : ∀ b, b ∉ ids own → VOps P Γ ops Q rest (upd f d (.slice (some ⟨b, 0, none⟩) n n)) ((b, ⟨cs, e, n * ei.size, none⟩) :: own)) :
    VOps P Γ ops Q (⟨some d, .buildSlice t n ps.toArray, ty, pos, aft, none⟩ :: rest) f own :=
  vops_go fun w hg => by
    obtain ⟨x, z, h1, h2, h3, h4, h5⟩ := hT.full he hz
    have hfill := Great.fill_whole (s := ei.size) hsz vs ((Array.range (n * ei.size)).map (z.cells[· % z.cells.size]!)) hc (by simp [hn])
    have hpp : (ps.toArray.map fun (x : Nat × Operand) => (x.1, ev f x.2)).toList = (vs.zipIdx 0).map fun x => (x.2, x.1) := by
      rw [List.map_toArray]; exact hps
    have hpos : 0 < n * ei.size := Nat.mul_pos hn0 hsz
    have hr := run_buildSlice (P := P) w t e n (ps.toArray.map fun (x : Nat × Operand) => (x.1, ev f x.2)) _ x z (hT.slice ht) h1 h4 (by rw [h2]; omega) (by rw [h2]; omega)
      (by rw [h2, hpp]; exact hfill)
    have hx : (execOp (ev f) ⟨some d, .buildSlice t n ps.toArray, ty, pos, aft, none⟩).run P w = .ok (.value (.slice (some ⟨w.heap.size, 0, none⟩) n n)) (w.alloc (.cells (vs.flatMap fun v => v.cells.toList).toArray e)) := by
      unfold execOp
      simp only [Sem.run_bind, hr, Result.andThen_ok]; rfl
    rw [hx]
    obtain ⟨g1, g2, g3⟩ := hg.new (vs.flatMap fun v => v.cells.toList).toArray e
    have hlen : (vs.flatMap fun v => v.cells.toList).length = n * ei.size := by
      rw [← hn]
      clear hfill hpp hps hn hx hr g1 g2 g3 hsm hcs hpos hn0 k
      induction vs with
      | nil => simp
      | cons v vs ih =>
        rw [List.flatMap_cons, List.length_append, ih fun u hu => hc u (List.mem_cons_of_mem _ hu), List.length_cons, Nat.add_mul, Nat.one_mul]
        have := hc v List.mem_cons_self
        simp [this]; omega
    subst hcs
    have hsz2 : (vs.flatMap fun v => v.cells.toList).toArray.size = n * ei.size := by simpa using hlen
    rw [hsz2] at g1
    refine ⟨_, g1, ⟨g3.mono (by simp), fun c hc => ?_⟩, k _ g2⟩
    rcases List.mem_cons.1 hc with h | h
    · exact .inr (Nat.le_of_eq h.symm)
    · exact .inl h

/-! results -/
theorem out1 {n t : Nat} {fn : Func} {v : Value} {S : Value → Own → Prop} {new : Own} (h : fn.results = #[.tmp t]) (hv : f t = v) (hn : (ids new).Nodup) (hs : Sub new own) (hS : S v new) : Out P Γ n fn S .ret f own :=
  ⟨v, new, rv_tmp h hv, hn, hs, hS⟩
theorem out2 {n t u : Nat} {fn : Func} {v x : Value} {S : Value → Own → Prop} {new : Own} (h : fn.results = #[.tmp t, .tmp u]) (hv : f t = v) (hx : f u = x) (hn : (ids new).Nodup) (hs : Sub new own) (hS : S (.tuple #[v, x]) new) : Out P Γ n fn S .ret f own :=
  ⟨_, new, rv_tmp2 h hv hx, hn, hs, hS⟩
/-- Two results: a list of numbers, and a code. -/
def PairI (e : Nat) (r : List Int × Int) (v : Value) (new : Own) : Prop := ∃ p cap, v = .tuple #[.slice p r.1.length cap, .int .i64 r.2] ∧ NewI e r.1 (.slice p r.1.length cap) new
theorem pairI_err {e : Nat} {n t u : Nat} {fn : Func} {c : Int} {r : List Int × Int} (h : fn.results = #[.tmp t, .tmp u]) (hv : f t = .slice none 0 0) (hx : f u = .int .i64 c) (hr : r = ([], c)) : Out P Γ n fn (PairI e r) .ret f own :=
  out2 (new := []) h hv hx List.nodup_nil (fun _ h => by cases h) ⟨none, 0, by rw [hr]; rfl, by rw [hr]; exact SlAt.nil⟩
theorem pairI_ok {e : Nat} {n t u : Nat} {fn : Func} {v : Value} {l : List Int} {r : List Int × Int} {new : Own} (h : fn.results = #[.tmp t, .tmp u]) (hv : f t = v) (hx : f u = .int .i64 0) (hN : NewI e l v new) (hs : Sub new own) (hr : r = (l, 0)) : Out P Γ n fn (PairI e r) .ret f own :=
  by
    obtain ⟨p, cap, rfl⟩ := SlAt.form hN
    exact out2 h hv hx (SlAt.nodup hN) hs ⟨p, cap, by rw [hr], by rw [hr]; exact hN⟩
end
end Go.VL

namespace Go.VL
open Go.RowKit
theorem NewF.blk {e k n : Nat} {q : List Int} {p : Option Addr} {cap : Nat} {new : Own} (h : NewF e k n q (.slice p n cap) new) (hn : 0 < n) :
    ∃ b, p = some ⟨b, 0, none⟩ ∧ new = [(b, ⟨ints q, e, cap * k, none⟩)] ∧ n ≤ cap ∧ cap ≤ maxLen ∧ q.length = n * k := by
  have hl := h.1
  rw [ints_length] at hl
  rcases h.2 with ⟨h1, h2, _⟩ | ⟨b, cap', h1, h2, h3, rfl⟩
  · omega
  · cases h1; exact ⟨b, rfl, rfl, h2, h3, hl⟩
theorem NewF.mk {e k n : Nat} {q : List Int} {b cap : Nat} (hl : q.length = n * k) (h1 : n ≤ cap) (h2 : cap ≤ maxLen) : NewF e k n q (.slice (some ⟨b, 0, none⟩) n cap) [(b, ⟨ints q, e, cap * k, none⟩)] :=
  ⟨by rw [ints_length]; exact hl, .inr ⟨b, cap, rfl, h1, h2, rfl⟩⟩
theorem NewF.cast {e k n : Nat} {q q' : List Int} {v : Value} {new : Own} (h : NewF e k n q v new) (he : q = q') : NewF e k n q' v new := he ▸ h
theorem NewI.nil {e : Nat} : NewI e [] (.slice none 0 0) [] := SlAt.nil
theorem NewI.lit {e b n cap : Nat} {l : List Int} (hl : l.length = n) (h1 : n ≤ cap) (h2 : cap ≤ maxLen) : NewI e l (.slice (some ⟨b, 0, none⟩) n cap) [(b, ⟨ints l, e, cap * 1, none⟩)] := by
  subst hl; exact NewF.mk (by omega) h1 h2
/-- l as far as t, and q behind. -/
def over (l q : List Int) (t : Nat) : List Int := l.take t ++ q.drop t
theorem over_length {l q : List Int} (h : l.length = q.length) (t : Nat) : (over l q t).length = q.length := by simp [over]; omega
theorem over_zero (l q : List Int) : over l q 0 = q := by simp [over]
theorem over_all {l q : List Int} {n : Nat} (h : l.length = q.length) (hn : n = l.length) : over l q n = l := by
  subst hn; rw [over, List.take_length, h, List.drop_length, List.append_nil]
theorem over_step {l q : List Int} (h : l.length = q.length) {t : Nat} (ht : t < q.length) : (over l q t).set t (l.getD t 0) = over l q (t + 1) := by
  unfold over
  have hlt : (l.take t).length = t := by simp; omega
  rw [List.set_append_right _ _ (by omega), hlt, Nat.sub_self, List.drop_eq_getElem_cons ht, List.set_cons_zero]
  have : l.take (t + 1) = l.take t ++ [l.getD t 0] := by
    rw [List.take_add_one, List.getElem?_eq_getElem (by omega)]
    simp [List.getD_eq_getElem?_getD, show t < l.length by omega]
  rw [this]; simp
theorem ints_nth {l : List Int} (h : l ≠ []) : 0 < l.length := List.length_pos_iff.2 h
end Go.VL
namespace Go.VL
theorem RdF.same {w w' : World} {k n : Nat} {v : Value} {q : List Int} (h : RdF w k n v q) (hf : Fr [] w w') : RdF w' k n v q := by
  rcases h with h | ⟨b, o, cap, hv, hq, hc⟩
  · exact .inl h
  · exact .inr ⟨b, o, cap, hv, hq, fun j x hx => hf.cell (by simp) (hc j x hx)⟩
end Go.VL
namespace Go.VL
theorem pm_last {A : Own} : A.Perm (A ++ []) := by simp
end Go.VL
namespace Go.VL
open Go.RowKit
section
variable {P : Program} {T : Nat → Option TI} {Γ : Ctx} {ops : Array Oper} {Q : (Nat → Value) → Own → Prop} {rest : List Oper} {f : Nat → Value} {own own' : Own}
variable {ty : TypeId} {pos : String} {aft : Array Edge}
/-- A literal list of numbers. -/
theorem vops_litI (l : List Int) (hT : TyOk P T) {d t e a b n b2 : Nat} {z z2 : List Value} {ps : List (Nat × Operand)} (ht : T t = some ⟨.slice e, a, b, z⟩) (he : T e = some ⟨.int .i64, 1, b2, z2⟩) (hz : z2 ≠ []) (hps : ps.map (fun x => (x.1, ev f x.2)) = ((ints l).zipIdx 0).map fun x => (x.2, x.1))
    (hn : l.length = n) (hn0 : 0 < n) (hsm : n ≤ 2 ^ 24)
    (k : ∀ b, b ∉ ids own → VOps P Γ ops Q rest (upd f d (.slice (some ⟨b, 0, none⟩) n n)) ((b, ⟨ints l, e, n * 1, none⟩) :: own)) :
    VOps P Γ ops Q (⟨some d, .buildSlice t n ps.toArray, ty, pos, aft, none⟩ :: rest) f own :=
  vops_buildS (ints l) (ints l) hT ht he hz hps (by rw [ints_length]; exact hn) hn0 (by show 0 < 1; omega) (by show n * 1 ≤ _; omega) (fun v hv => by
    simp only [ints, List.mem_map] at hv
    obtain ⟨x, _, rfl⟩ := hv; rfl) (by
    clear hps k hn
    induction l with
    | nil => rfl
    | cons x l ih => show (Value.int IntKind.i64 x).cells.toList ++ (ints l).flatMap _ = _; rw [ih]; rfl) k
/-- One element behind a list of one's own. -/
theorem vops_append1 {k : Nat} (hT : TyOk P T) {d t e a b : Nat} {z : List Value} {x y : Operand} {ei : TI} {n c ob e' c' : Nat} {q r : List Int} {v0 : Value} {new R : Own}
    (ht : T t = some ⟨.slice e, a, b, z⟩) (he : T e = some ei) (hz : ei.zero ≠ []) (hzl : ei.zero.length = ei.size) (hk : ei.size = k) (hbt : ei.bytes ≤ 1000)
    (hx : ev f x = v0) (hN : NewF e k n q v0 new) (hp : own.Perm (new ++ R))
    (hy : ev f y = .slice (some ⟨ob, 0, none⟩) 1 c) (hm : (ob, (⟨ints r, e', c', none⟩ : Blk)) ∈ own) (hrl : r.length = k) (hn : n ≤ 1073741824)
    (kk : ∀ p cap new', NewF e k (n + 1) (q ++ r) (.slice p (n + 1) cap) new' → VOps P Γ ops Q rest (upd f d (.slice p (n + 1) cap)) (new' ++ R)) :
    VOps P Γ ops Q (⟨some d, .call ⟨.builtin .append, #[x, y], #[t, t]⟩, ty, pos, aft, none⟩ :: rest) f own := by
  subst hk
  refine vops_appendM (cells := ints q) (news := ints r) hT hx hN hp ht he hz hzl hy (by rw [ints_length, hrl, Nat.one_mul]) (fun j v hj => by rw [Nat.zero_add]; exact sees_mem hm hj) ints_one (by omega) (by simp only [maxLen]; omega) ?_ (fun v new' h => ?_)
  · calc (n + 1) * ei.bytes ≤ 1073741825 * 1000 := Nat.mul_le_mul (by omega) hbt
      _ ≤ _ := by omega
  · obtain ⟨p, cap, rfl⟩ := h.form
    refine kk p cap new' ?_
    have : ints (q ++ r) = ints q ++ ints r := by simp [ints]
    unfold NewF; rw [this]; exact h
theorem NewI.snoc {e n : Nat} {l : List Int} {x : Int} {v : Value} {new : Own} (h : NewF e 1 (n + 1) (l ++ [x]) v new) (hn : n = l.length) : NewI e (l ++ [x]) v new := by
  subst hn
  have : (l ++ [x]).length = l.length + 1 := by simp
  unfold NewI; rw [this]; exact h
end
end Go.VL
namespace Go.VL
theorem rdI_lit {Γ : Ctx} {own : Own} {w : World} {b e n m cap : Nat} {l : List Int} (hm : (b, (⟨ints l, e, n, none⟩ : Blk)) ∈ own) (hg : Go.VL.Good Γ own w) (hl : m = l.length) : RdI w (.slice (some ⟨b, 0, none⟩) m cap) l := by
  subst hl
  exact .inr ⟨b, 0, cap, rfl, fun j x hx => by rw [Nat.zero_add]; exact cell_of_blk hg.ok hm hx⟩
theorem take_snoc {l : List Int} {i : Nat} (h : i < l.length) : l.take (i + 1) = l.take i ++ [l.getD i 0] := by
  rw [List.take_add_one, List.getElem?_eq_getElem h]
  simp [List.getD_eq_getElem?_getD, h]
theorem take_len {l : List Int} {i : Nat} (h : i ≤ l.length) : (l.take i).length = i := by simp; omega
end Go.VL

namespace Go.VL
theorem ole_last {A b R : Own} (h : b.Perm (A ++ R)) : OLe A b := ⟨R, h⟩
end Go.VL
