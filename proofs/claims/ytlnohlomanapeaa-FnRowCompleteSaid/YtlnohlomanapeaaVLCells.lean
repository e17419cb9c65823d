import Derived.Test.YtlnohlomanapeaaVLTabD
import Derived.Test.YtlnohlomanapeaaVLRanR
/-! Two results in cells, the first one a struct. -/
namespace Go.VL
theorem ole_more {x : Nat × Blk} {A : Own} : OLe A (x :: A) := ⟨[x], List.perm_append_comm (l₁ := [x])⟩
theorem ole_more0 {x : Nat × Blk} {A : Own} : OLe A (x :: (A ++ [])) := by rw [List.append_nil]; exact ole_more
section
variable {P : Program} {Γ : Ctx} {n : Nat} {f : Nat → Value} {own : Own}
theorem rv_cellsA {T : Nat → Option TI} (hT : TyOk P T) {p t q u b c : Nat} {ti ui : TI} {fn : Func} {cs : List Value} {x : Value} (h : fn.results = #[.cell p t, .cell q u]) (ht : T t = some ti) (hu : T u = some ui) (ha : ti.isAgg = true) (hn : cs.length = ti.size) (hpu : ui.plain = true)
    (hp : f p = .pointer (some ⟨b, 0, none⟩)) (hq : f q = .pointer (some ⟨c, 0, none⟩)) (hv : SeesL Γ own b 0 cs) (hx : Sees Γ own c 0 x) : RV P Γ n fn f own (.tuple #[.agg cs.toArray, x]) :=
  fun a w ha' hg => by
    have l1 := run_loadVarN hT cs ht ha hn hv hg
    have l2 : (loadVar u ⟨c, 0, none⟩).run P w = .ok x w := by
      unfold loadVar
      rw [Sem.run_bind, isAgg_plain hT hu hpu, Result.andThen_ok, if_neg (by simp), run_load, hx w hg]
    have hp' := ha'.get p
    have hq' := ha'.get q
    simp only [Array.getD_eq_getD_getElem?] at hp' hq'
    simp [results, h, hp', hq', hp, hq, asAddr, l1, l2]
end
end Go.VL
