import Derived.Test.YtlnohlomanapeaaVLSquare
import Derived.Test.YtlnohlomanapeaaVLTable
import Derived.Test.YtlnohlomanapeaaVLCells
import Derived.Deep.Strs
/-! Structs of two numbers and a list of lists. -/
namespace Go.VL
open Go.RowKit Go.ChangeShapes Go.WideShapes Go.ChangeAt Go.Deep
section
variable {H : Type} {enc : TypeId × Value → H} {P : Program} {T : Nat → Option TI} {w : World} {spare : Nat → Bool} {held : Bool}
/-- The argument is a golf: two numbers and its rounds. -/
theorem o_golf (hT : TyOk P T) {t s u e ty1 ty2 : Nat} {a1 b1 b0 b2 b3 b4 b5 base : Nat} {z1 z0 z z2 z3 z5 : List Value} (hst : T t = some ⟨.struct [(0, ty1), (1, ty2), (2, s)], a1, b1, z1⟩) (hi1 : T ty1 = some ⟨.int .i64, 1, b5, z5⟩) (hi : T ty2 = some ⟨.int .i64, 1, b3, z3⟩)
    (hts : T s = some ⟨.slice u, 1, b0, z0⟩) (hu : T u = some ⟨.slice e, 1, b4, z⟩) (he : T e = some ⟨.int .i64, 1, b2, z2⟩) (ha1 : a1 = 3) {v : Value} {r : Reach} {d : DataW H} {ps : List MemPlace}
    (hok : Value.okWide P w r base t v) (h : DataW.Trod enc P w 0 spare held t v d ps) : ∃ m g sl ls, v = .agg #[.int .i64 m, .int .i64 g, sl] ∧ RdII w sl ls ∧ ls.length ≤ maxLen ∧ (∀ l ∈ ls, l.length ≤ maxLen) ∧ In64 m ∧ In64 g := by
  obtain ⟨fuel, hf⟩ := h
  obtain ⟨dd, hd, fields, rfl, hfs⟩ := (hT t _ hst).desc
  obtain ⟨l⟩ := fields
  have hl3 : l.length = 3 := by simpa using congrArg List.length hfs
  match l, hl3 with
  | [f0, f1, f2], _ =>
    simp only [List.map_cons, List.map_nil, List.cons.injEq, Prod.mk.injEq, and_true] at hfs
    obtain ⟨⟨h00, h01⟩, ⟨h10, h11⟩, h20, h21⟩ := hfs
    unfold Value.okWide at hok
    rw [hd] at hok
    obtain ⟨cs, rfl, _, _⟩ := hok
    obtain ⟨y0, y1, y2, m, _, hl, hy0, hy1, hy2⟩ := trod_struct3 hd hf
    rw [h00, h01, hT.cells hi1] at hy0
    rw [h10, h11, hT.cells hi] at hy1
    rw [h20, h21, hT.cells hts] at hy2
    rw [hT.cells hst] at hl
    obtain ⟨q, hq, _, hw⟩ := DataW.trod_int (hT.und hi1 (d := .int .i64) (fun _ h => h)) hy0
    obtain ⟨q1, hq1, _, hw1⟩ := DataW.trod_int (hT.und hi (d := .int .i64) (fun _ h => h)) hy1
    obtain ⟨sl, rs, hsl, hr1, hrm, hr2, _⟩ := rdII64_of_trod hT hts hu he hy2
    refine ⟨q, q1, sl, rs, ?_, hr1, hrm, hr2, in64_of_wf hw, in64_of_wf hw1⟩
    have hl3 : cs.toList.length = 3 := by have : cs.toList.length = a1 := hl; omega
    have hq' : (cs.toList.drop 0).take 1 = [.int .i64 q] := hq
    have hq1' : (cs.toList.drop 1).take 1 = [.int .i64 q1] := hq1
    have hs' : (cs.toList.drop 2).take 1 = [sl] := hsl
    obtain ⟨cl⟩ := cs
    match cl, hl3 with
    | [c0, c1, c2], _ =>
      simp only [List.drop_zero, List.drop_succ_cons, List.take_succ_cons, List.take_zero, List.cons.injEq, and_true] at hq' hq1' hs'
      rw [hq', hq1', hs']
end
/-- A new golf. -/
def GfG (eo ei : Nat) (m g : Int) (ls : List (List Int)) (u : Value) (new : Own) : Prop := ∃ p cap, u = .agg #[.int .i64 m, .int .i64 g, .slice p ls.length cap] ∧ NewT eo ei ls (.slice p ls.length cap) new
/-- Two results: a golf, and a code. -/
def PairGf (eo ei : Nat) (r : (Int × Int × List (List Int)) × Int) (v : Value) (new : Own) : Prop := ∃ p cap, v = .tuple #[.agg #[.int .i64 r.1.1, .int .i64 r.1.2.1, .slice p r.1.2.2.length cap], .int .i64 r.2] ∧ NewT eo ei r.1.2.2 (.slice p r.1.2.2.length cap) new
section
variable {P : Program} {T : Nat → Option TI} {Γ : Ctx} {f : Nat → Value} {own : Own}
theorem gfG_ok (hT : TyOk P T) {eo ei e' m n p t b : Nat} {ti : TI} {fn : Func} {len cap : Nat} {nn gg : Int} {q : Option Addr} {ls : List (List Int)} {new : Own} (h : fn.results = #[.cell p t]) (ht : T t = some ti) (ha : ti.isAgg = true) (hsz : ti.size = 3)
    (hp : f p = .pointer (some ⟨b, 0, none⟩)) (hm : (b, (⟨[.int .i64 nn, .int .i64 gg, .slice q len cap], e', m, none⟩ : Blk)) ∈ own) (hl : len = ls.length) (hN : NewT eo ei ls (.slice q len cap) new) (hnd : (ids new).Nodup) (hs : Sub new own) : Out P Γ n fn (GfG eo ei nn gg ls) .ret f own := by
  subst hl
  exact ⟨_, new, rv_cell (cs := [.int .i64 nn, .int .i64 gg, .slice q ls.length cap]) hT h hp ht ha hsz.symm (fun j v hj => by rw [Nat.zero_add]; exact sees_mem hm hj), hnd, hs, q, cap, rfl, hN⟩
theorem pairGf_ok (hT : TyOk P T) {eo ei e' m n p t u b : Nat} {ti : TI} {fn : Func} {len cap : Nat} {nn gg cd : Int} {q : Option Addr} {ls : List (List Int)} {r : (Int × Int × List (List Int)) × Int} {new : Own} (h : fn.results = #[.cell p t, .tmp u]) (ht : T t = some ti) (ha : ti.isAgg = true) (hsz : ti.size = 3)
    (hp : f p = .pointer (some ⟨b, 0, none⟩)) (hm : (b, (⟨[.int .i64 nn, .int .i64 gg, .slice q len cap], e', m, none⟩ : Blk)) ∈ own) (hx : f u = .int .i64 cd) (hl : len = ls.length) (hN : NewT eo ei ls (.slice q len cap) new) (hnd : (ids new).Nodup) (hs : Sub new own) (hr : r = ((nn, gg, ls), cd)) : Out P Γ n fn (PairGf eo ei r) .ret f own := by
  subst hl; subst hr
  exact ⟨_, new, rv_cell2 (cs := [.int .i64 nn, .int .i64 gg, .slice q ls.length cap]) hT h hp ht ha hsz.symm (fun j v hj => by rw [Nat.zero_add]; exact sees_mem hm hj) hx, hnd, hs, q, cap, rfl, hN⟩
theorem pairGf_err (hT : TyOk P T) {eo ei e' m n p t u b : Nat} {ti : TI} {fn : Func} {cd : Int} {r : (Int × Int × List (List Int)) × Int} (h : fn.results = #[.cell p t, .tmp u]) (ht : T t = some ti) (ha : ti.isAgg = true) (hsz : ti.size = 3)
    (hp : f p = .pointer (some ⟨b, 0, none⟩)) (hm : (b, (⟨[.int .i64 0, .int .i64 0, .slice none 0 0], e', m, none⟩ : Blk)) ∈ own) (hx : f u = .int .i64 cd) (hr : r = ((0, 0, []), cd)) : Out P Γ n fn (PairGf eo ei r) .ret f own :=
  pairGf_ok hT h ht ha hsz hp hm hx (ls := []) rfl (.inl NewLL.nil) List.nodup_nil sub_nil hr
end
end Go.VL
namespace Go.VL
theorem out_ic {P : Program} {Γ : Ctx} {f : Nat → Value} {own : Own} {n t u : Nat} {fn : Func} {b c : Int} {r : Int × Int} (h : fn.results = #[.tmp t, .tmp u]) (hv : f t = .int .i64 b) (hx : f u = .int .i64 c) (hr : r = (b, c)) : Out P Γ n fn (Is (.tuple #[.int .i64 r.1, .int .i64 r.2])) .ret f own := by
  subst hr
  exact out2 (new := []) h hv hx List.nodup_nil (fun _ h => by cases h) ⟨rfl, rfl⟩
end Go.VL
