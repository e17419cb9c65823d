import Derived.Test.YtlnohlomanapeaaVLTable
/-! Structs of two numbers in drawn regions. -/
namespace Go.VL
section
variable {P : Program} {T : Nat → Option TI} {Γ : Ctx} {ops : Array Oper} {Q : (Nat → Value) → Own → Prop} {f : Nat → Value} {own base : Own}
variable {ty : TypeId} {pos : String} {aft : Array Edge} {L : List Nat} {listed : Array Bool} {i d : Nat} {g : Option (Nat × Bool)}
theorem vd_buildZ {t : Nat} {ti : TI} (ho : ops[i]? = some ⟨some d, .build t #[], ty, pos, aft, g⟩) (hg : GOn ops f g) (ht : T t = some ti) (hb : P.built t [] = some ti.zero.toArray)
    (hr : (Region.ready .any ops listed).contains i = true) (hf : Region.free .any ops listed i = true) (k : VD P Γ ops base Q L (listed.setIfInBounds i true) (upd f d (.agg ti.zero.toArray)) own) : VD P Γ ops base Q (i :: L) listed f own :=
  vd_run ho hg (x_build0 ht hb) hr hf k
theorem x_eqS (hT : TyOk P T) {t u e : Nat} {x y : Operand} {a b a' b' : Int} {z : List Value} {c1 c2 : Nat} (hx : ev f x = cellV a b) (hy : ev f y = cellV a' b') (he : T e = some ⟨.int .i64, c1, c2, z⟩) (ht : twoNums P t e = true) (hge : P.eqGuardType P.depth t = false) (w : World) :
    (execOp (ev f) ⟨some d, .binOp .eql t x y u, ty, pos, aft, g⟩).run P w = .ok (.value (.bool (decide (a = a' ∧ b = b')))) w := by
  show ((do let v ← (do eqGuard .eql t x y (ev f x) (ev f y); binOp .eql t (ev f x) (ev f y)); pure (Next.value v) : Sem Next).run P w) = _
  rw [hx, hy, run_val, run_eq_two hT ht he hge]; rfl
theorem x_neS (hT : TyOk P T) {t u e : Nat} {x y : Operand} {a b a' b' : Int} {z : List Value} {c1 c2 : Nat} (hx : ev f x = cellV a b) (hy : ev f y = cellV a' b') (he : T e = some ⟨.int .i64, c1, c2, z⟩) (ht : twoNums P t e = true) (hge : P.eqGuardType P.depth t = false) (w : World) :
    (execOp (ev f) ⟨some d, .binOp .neq t x y u, ty, pos, aft, g⟩).run P w = .ok (.value (.bool (!decide (a = a' ∧ b = b')))) w := by
  show ((do let v ← (do eqGuard .neq t x y (ev f x) (ev f y); binOp .neq t (ev f x) (ev f y)); pure (Next.value v) : Sem Next).run P w) = _
  rw [hx, hy, run_val, run_ne_two hT ht he hge]; rfl
theorem vd_eqS (e : Nat) (hT : TyOk P T) {t u : Nat} {x y : Operand} {a b a' b' : Int} {z : List Value} {c1 c2 : Nat} (ho : ops[i]? = some ⟨some d, .binOp .eql t x y u, ty, pos, aft, g⟩) (hg : GOn ops f g) (hx : ev f x = cellV a b) (hy : ev f y = cellV a' b') (he : T e = some ⟨.int .i64, c1, c2, z⟩) (ht : twoNums P t e = true) (hge : P.eqGuardType P.depth t = false)
    (hr : (Region.ready .any ops listed).contains i = true) (hf : Region.free .any ops listed i = true) (k : VD P Γ ops base Q L (listed.setIfInBounds i true) (upd f d (.bool (decide (a = a' ∧ b = b')))) own) : VD P Γ ops base Q (i :: L) listed f own :=
  vd_run ho hg (x_eqS hT hx hy he ht hge) hr hf k
theorem vd_neS (e : Nat) (hT : TyOk P T) {t u : Nat} {x y : Operand} {a b a' b' : Int} {z : List Value} {c1 c2 : Nat} (ho : ops[i]? = some ⟨some d, .binOp .neq t x y u, ty, pos, aft, g⟩) (hg : GOn ops f g) (hx : ev f x = cellV a b) (hy : ev f y = cellV a' b') (he : T e = some ⟨.int .i64, c1, c2, z⟩) (ht : twoNums P t e = true) (hge : P.eqGuardType P.depth t = false)
    (hr : (Region.ready .any ops listed).contains i = true) (hf : Region.free .any ops listed i = true) (k : VD P Γ ops base Q L (listed.setIfInBounds i true) (upd f d (.bool (!decide (a = a' ∧ b = b')))) own) : VD P Γ ops base Q (i :: L) listed f own :=
  vd_run ho hg (x_neS hT hx hy he ht hge) hr hf k
end
end Go.VL
