import Derived.Test.YtlfflmoegfibgaaVLRanF
/-! Ranges over functions that read what nobody has captured. -/
namespace Go.VL
open Go.RowKit
/-- .. where R holds of what was there and of what is owned. -/
def IterR (P : Program) (gf : Nat) (lb : List Value) (xs : List (List Value)) (cap : Own) (R : World → Own → Prop) : Prop :=
  ∀ (Γ : Ctx) (l : Nat) (J : Nat → Own → Prop) (Jx : Own → Prop) (own0 : Own) (w : World),
    Good Γ own0 w → OwnOk cap w → (∀ b ∈ ids cap, b ∉ ids own0) → R w own0 → J 0 own0 →
    (∀ i x, xs[i]? = some x → ∀ own, J i own → YieldsAt P Γ l x own (J (i + 1)) Jx) →
    Calls P gf (.func (.yield l) #[] #[] :: lb).toArray w (ResM w own0 (fun _ new => J xs.length new ∨ Jx new))
section
variable {P : Program} {Γ : Ctx} {n : Nat} {f : Nat → Value} {own : Own}
/-- Two results, both in cells. -/
theorem rv_cells {T : Nat → Option TI} (hT : TyOk P T) {p t q u b c : Nat} {ti ui : TI} {fn : Func} {v x : Value} (h : fn.results = #[.cell p t, .cell q u]) (ht : T t = some ti) (hu : T u = some ui) (hpt : ti.plain = true) (hpu : ui.plain = true)
    (hp : f p = .pointer (some ⟨b, 0, none⟩)) (hq : f q = .pointer (some ⟨c, 0, none⟩)) (hv : Sees Γ own b 0 v) (hx : Sees Γ own c 0 x) : RV P Γ n fn f own (.tuple #[v, x]) :=
  fun a w ha hg => by
    have l1 : (loadVar t ⟨b, 0, none⟩).run P w = .ok v w := by
      unfold loadVar
      rw [Sem.run_bind, isAgg_plain hT ht hpt, Result.andThen_ok, if_neg (by simp), run_load, hv w hg]
    have l2 : (loadVar u ⟨c, 0, none⟩).run P w = .ok x w := by
      unfold loadVar
      rw [Sem.run_bind, isAgg_plain hT hu hpu, Result.andThen_ok, if_neg (by simp), run_load, hx w hg]
    have hp' := ha.get p
    have hq' := ha.get q
    simp only [Array.getD_eq_getD_getElem?] at hp' hq'
    simp [results, h, hp', hq', hp, hq, asAddr, l1, l2]
end
end Go.VL
