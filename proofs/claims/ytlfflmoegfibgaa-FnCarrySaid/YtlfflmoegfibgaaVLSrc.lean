import Derived.Test.YtlfflmoegfibgaaVLBB
/-! Sources of numbers: arithmetic modulo 2^64, of which the range is kept and nothing else. -/
namespace Go.VL
open Go.RowKit
theorem wrapU64 (n : Int) : 0 ≤ IntKind.u64.wrap n ∧ IntKind.u64.wrap n < 18446744073709551616 := by
  have e : IntKind.u64.wrap n = n % 18446744073709551616 := rfl
  rw [e]
  exact ⟨Int.emod_nonneg _ (by decide), Int.emod_lt_of_pos _ (by decide)⟩
section
variable {P : Program} {T : Nat → Option TI} {f : Nat → Value}
theorem exec_bin {op : BinOp} {t yt : TypeId} {x y : Operand} {k j : IntKind} {a b : Int} {v : Value} (hx : ev f x = .int k a) (hy : ev f y = .int j b) (h : ∀ w, (binOp op t (.int k a) (.int j b)).run P w = .ok v w)
    (d : Option Tmp) (ty : TypeId) (pos : String) (aft : Array Edge) (g : Option (Nat × Bool)) (w : World) : (execOp (ev f) ⟨d, .binOp op t x y yt, ty, pos, aft, g⟩).run P w = .ok (.value v) w := by
  show ((do eqGuard op t x y (ev f x) (ev f y); binOp op t (ev f x) (ev f y)) >>= fun v => pure (Next.value v)).run P w = _
  rw [run_val, hx, hy, eqGuard_at_int, Sem.run_bind, Sem.run_pure, Result.andThen_ok, h]; rfl
theorem bin_add (t : TypeId) (a b : Int) (w : World) : (binOp .add t (.int .u64 a) (.int .u64 b)).run P w = .ok (.int .u64 (IntKind.u64.wrap (a + b))) w := by
  simp [binOp, Op.intArith]
theorem bin_mul (t : TypeId) (a b : Int) (w : World) : (binOp .mul t (.int .u64 a) (.int .u64 b)).run P w = .ok (.int .u64 (IntKind.u64.wrap (a * b))) w := by
  simp [binOp, Op.intArith]
theorem bin_shr (t : TypeId) (j : IntKind) {a b : Int} (hb : 0 ≤ b) (w : World) : (binOp .shr t (.int .u64 a) (.int j b)).run P w = .ok (.int .u64 (a.fdiv (2 ^ (min b.toNat 64)))) w := by
  have : ¬ b < 0 := by omega
  simp [binOp, Op.shift, this, IntKind.bits]
theorem bin_and (t : TypeId) (a b : Int) (w : World) : (binOp .and t (.int .u64 a) (.int .u64 b)).run P w = .ok (.int .u64 (IntKind.u64.wrap ((BitVec.ofInt 64 a &&& BitVec.ofInt 64 b).toNat : Int))) w := by
  simp [binOp, Op.intBits]; rfl
theorem and_le (a : Int) {b : Int} (h0 : 0 ≤ b) (h1 : b < 18446744073709551616) : IntKind.u64.wrap ((BitVec.ofInt 64 a &&& BitVec.ofInt 64 b).toNat : Int) ≤ b := by
  have h2 : (BitVec.ofInt 64 b).toNat = b.toNat := by
    rw [BitVec.toNat_ofInt, show ((2 ^ 64 : Nat) : Int) = 18446744073709551616 from rfl, Int.emod_eq_of_lt h0 h1]
  have h3 : (BitVec.ofInt 64 a &&& BitVec.ofInt 64 b).toNat ≤ b.toNat := by
    rw [BitVec.toNat_and, h2]; exact Nat.and_le_right
  have e : ∀ n : Int, IntKind.u64.wrap n = n % 18446744073709551616 := fun _ => rfl
  rw [e, Int.emod_eq_of_lt (by omega) (by omega)]
  omega
theorem fdiv_bounds {a : Int} (n : Nat) (h0 : 0 ≤ a) (h1 : a < 18446744073709551616) : 0 ≤ a.fdiv (2 ^ n) ∧ a.fdiv (2 ^ n) < 18446744073709551616 := by
  have hp : (0 : Int) < 2 ^ n := Int.pow_pos (by decide)
  rw [Int.fdiv_eq_ediv_of_nonneg _ (by omega)]
  have h2 := Int.ediv_nonneg h0 (Int.le_of_lt hp)
  have h3 := Int.ediv_le_self (2 ^ n) h0
  omega
end
section
variable {P : Program} {T : Nat → Option TI} {Γ : Ctx} {ops : Array Oper} {Q : (Nat → Value) → Own → Prop} {rest : List Oper} {f : Nat → Value} {own : Own} {d : Nat} {t yt : TypeId} {x y : Operand} {a b : Int} {ty : TypeId} {pos : String} {aft : Array Edge}
/-- A struct of which two fields are given. -/
theorem vops_buildF2 {i j : Nat} {v0 v1 : Value} (cs : List Value) (h0 : force (ev f x) = some v0) (h1 : force (ev f y) = some v1) (hb : P.built t [(i, v0), (j, v1)] = some cs.toArray)
    (k : VOps P Γ ops Q rest (upd f d (.agg cs.toArray)) own) : VOps P Γ ops Q (⟨some d, .build t #[(i, x), (j, y)], ty, pos, aft, none⟩ :: rest) f own :=
  vops_run (fun w => x_build (ps := [(i, x), (j, y)]) cs.toArray (by rw [← force_eq h0, ← force_eq h1]; rfl) hb w) k
theorem vops_addU (hx : ev f x = .int .u64 a) (hy : ev f y = .int .u64 b) (k : ∀ z : Int, 0 ≤ z → z < 18446744073709551616 → VOps P Γ ops Q rest (upd f d (.int .u64 z)) own) :
    VOps P Γ ops Q (⟨some d, .binOp .add t x y yt, ty, pos, aft, none⟩ :: rest) f own :=
  vops_go fun w hg => by rw [exec_bin hx hy (bin_add _ _ _)]; exact ⟨own, hg, stay w, k _ (wrapU64 _).1 (wrapU64 _).2⟩
theorem vops_mulU (hx : ev f x = .int .u64 a) (hy : ev f y = .int .u64 b) (k : ∀ z : Int, 0 ≤ z → z < 18446744073709551616 → VOps P Γ ops Q rest (upd f d (.int .u64 z)) own) :
    VOps P Γ ops Q (⟨some d, .binOp .mul t x y yt, ty, pos, aft, none⟩ :: rest) f own :=
  vops_go fun w hg => by rw [exec_bin hx hy (bin_mul _ _ _)]; exact ⟨own, hg, stay w, k _ (wrapU64 _).1 (wrapU64 _).2⟩
theorem vops_shrU {j : IntKind} (hx : ev f x = .int .u64 a) (hy : ev f y = .int j b) (hb : 0 ≤ b) (h0 : 0 ≤ a) (h1 : a < 18446744073709551616) (k : ∀ z : Int, 0 ≤ z → z < 18446744073709551616 → VOps P Γ ops Q rest (upd f d (.int .u64 z)) own) :
    VOps P Γ ops Q (⟨some d, .binOp .shr t x y yt, ty, pos, aft, none⟩ :: rest) f own :=
  vops_go fun w hg => by rw [exec_bin hx hy (bin_shr _ _ hb)]; exact ⟨own, hg, stay w, k _ (fdiv_bounds _ h0 h1).1 (fdiv_bounds _ h0 h1).2⟩
theorem vops_andU (hx : ev f x = .int .u64 a) (hy : ev f y = .int .u64 b) (h0 : 0 ≤ b) (h1 : b < 18446744073709551616) (k : ∀ z : Int, 0 ≤ z → z ≤ b → VOps P Γ ops Q rest (upd f d (.int .u64 z)) own) :
    VOps P Γ ops Q (⟨some d, .binOp .and t x y yt, ty, pos, aft, none⟩ :: rest) f own :=
  vops_go fun w hg => by rw [exec_bin hx hy (bin_and _ _ _)]; exact ⟨own, hg, stay w, k _ (wrapU64 _).1 (and_le _ h0 h1)⟩
variable {base : Own} {L : List Nat} {listed : Array Bool} {i : Nat} {g : Option (Nat × Bool)} {QD : (Nat → Value) → Own → Prop}
theorem vd_addU (ho : ops[i]? = some ⟨some d, .binOp .add t x y yt, ty, pos, aft, g⟩) (hg : GOn ops f g) (hx : ev f x = .int .u64 a) (hy : ev f y = .int .u64 b) (hr : (Region.ready .any ops listed).contains i = true) (hf : Region.free .any ops listed i = true)
    (k : ∀ z : Int, 0 ≤ z → z < 18446744073709551616 → VD P Γ ops base QD L (listed.setIfInBounds i true) (upd f d (.int .u64 z)) own) : VD P Γ ops base QD (i :: L) listed f own :=
  ⟨_, ho, hr, .inl ⟨hf, _, qy_of_run hg fun w _ => exec_bin hx hy (bin_add _ _ _) _ _ _ _ _ w, k _ (wrapU64 _).1 (wrapU64 _).2⟩⟩
theorem vd_mulU (ho : ops[i]? = some ⟨some d, .binOp .mul t x y yt, ty, pos, aft, g⟩) (hg : GOn ops f g) (hx : ev f x = .int .u64 a) (hy : ev f y = .int .u64 b) (hr : (Region.ready .any ops listed).contains i = true) (hf : Region.free .any ops listed i = true)
    (k : ∀ z : Int, 0 ≤ z → z < 18446744073709551616 → VD P Γ ops base QD L (listed.setIfInBounds i true) (upd f d (.int .u64 z)) own) : VD P Γ ops base QD (i :: L) listed f own :=
  ⟨_, ho, hr, .inl ⟨hf, _, qy_of_run hg fun w _ => exec_bin hx hy (bin_mul _ _ _) _ _ _ _ _ w, k _ (wrapU64 _).1 (wrapU64 _).2⟩⟩
/-- Bytes that lie there. -/
def byteVals (cs : List Nat) : List Value := cs.map fun c : Nat => .int .u8 (c : Int)
def RdB (w : World) (a : Option Addr) (cs : List Nat) : Prop := cs = [] ∨ ∃ b o, a = some ⟨b, o, none⟩ ∧ ∀ (j : Nat) x, (byteVals cs)[j]? = some x → w.cell? ⟨b, o + j, none⟩ = some x
/-- A source of numbers. -/
def srcBlk (e : Nat) (a : Option Addr) (n cap : Nat) (at_ h : Int) : Blk := ⟨[.slice a n cap, .int .i64 at_, .int .u64 h], e, 3, none⟩
end
end Go.VL
