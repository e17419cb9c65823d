import Derived.Test.YtlnohlomanapeaaVLClo
/-! Three results. -/
namespace Go.VL
open Go.RowKit
/-- Three results: a struct in a cell, and two more. -/
theorem rv_cell3 {P : Program} {T : Nat → Option TI} {Γ : Ctx} {f : Nat → Value} {own : Own} (hT : TyOk P T) {n p t b o u s : Nat} {i : TI} {fn : Func} {cs : List Value} {x y : Value} (h : fn.results = #[.cell p t, .tmp u, .tmp s]) (hp : f p = .pointer (some ⟨b, o, none⟩)) (ht : T t = some i) (ha : i.isAgg = true) (hn : cs.length = i.size) (hs : SeesL Γ own b o cs) (hx : f u = x) (hy : f s = y) :
    RV P Γ n fn f own (.tuple #[.agg cs.toArray, x, y]) :=
  fun a w ha' hg => by
    have := run_loadVarN hT cs ht ha hn hs hg
    have hu := ha'.get u
    have hv := ha'.get s
    have hq := ha'.get p
    simp only [Array.getD_eq_getD_getElem?] at hu hv hq
    simp [results, h, hq, hp, asAddr, this, hu, hv, hx, hy]
/-- Three results: a schedule, a list of lists, a code. -/
def TripST (es eo ei : Nat) (r : ((Int × List (List Int)) × List (List Int)) × Int) (v : Value) (new : Own) : Prop :=
  ∃ p cap q c2 new1 new2, v = .tuple #[.agg #[.int .i64 r.1.1.1, .slice p r.1.1.2.length cap], .slice q r.1.2.length c2, .int .i64 r.2] ∧ NewR es 14 r.1.1.2 (.slice p r.1.1.2.length cap) new1 ∧ NewT eo ei r.1.2 (.slice q r.1.2.length c2) new2 ∧ new = new1 ++ new2
section
variable {P : Program} {T : Nat → Option TI} {Γ : Ctx} {f : Nat → Value} {own : Own}
theorem tripST_ok (hT : TyOk P T) {es eo ei e' m n p t u s b : Nat} {ti : TI} {fn : Func} {len cap len2 c2 : Nat} {nn cd : Int} {q q2 : Option Addr} {rs ls : List (List Int)} {new1 new2 : Own} {r : ((Int × List (List Int)) × List (List Int)) × Int} (h : fn.results = #[.cell p t, .tmp u, .tmp s]) (ht : T t = some ti) (ha : ti.isAgg = true) (hsz : ti.size = 2)
    (hp : f p = .pointer (some ⟨b, 0, none⟩)) (hm : (b, (⟨[.int .i64 nn, .slice q len cap], e', m, none⟩ : Blk)) ∈ own) (hx : f u = .slice q2 len2 c2) (hy : f s = .int .i64 cd) (hl : len = rs.length) (hN : NewR es 14 rs (.slice q len cap) new1) (hl2 : len2 = ls.length) (hN2 : NewT eo ei ls (.slice q2 len2 c2) new2)
    (hnd : (ids (new1 ++ new2)).Nodup) (hs : Sub (new1 ++ new2) own) (hr : r = (((nn, rs), ls), cd)) : Out P Γ n fn (TripST es eo ei r) .ret f own := by
  subst hl; subst hl2; subst hr
  exact ⟨_, new1 ++ new2, rv_cell3 (cs := [.int .i64 nn, .slice q rs.length cap]) hT h hp ht ha hsz.symm (fun j v hj => by rw [Nat.zero_add]; exact sees_mem hm hj) hx hy, hnd, hs, q, cap, q2, c2, new1, new2, rfl, hN, hN2, rfl⟩
theorem tripST_err (hT : TyOk P T) {es eo ei e' m n p t u s b : Nat} {ti : TI} {fn : Func} {cd : Int} {r : ((Int × List (List Int)) × List (List Int)) × Int} (h : fn.results = #[.cell p t, .tmp u, .tmp s]) (ht : T t = some ti) (ha : ti.isAgg = true) (hsz : ti.size = 2)
    (hp : f p = .pointer (some ⟨b, 0, none⟩)) (hm : (b, (⟨[.int .i64 0, .slice none 0 0], e', m, none⟩ : Blk)) ∈ own) (hx : f u = .slice none 0 0) (hy : f s = .int .i64 cd) (hr : r = (((0, []), []), cd)) : Out P Γ n fn (TripST es eo ei r) .ret f own :=
  tripST_ok hT h ht ha hsz hp hm hx hy (rs := []) rfl SlAt.nil (ls := []) rfl (.inl NewLL.nil) List.nodup_nil sub_nil hr
end
end Go.VL
