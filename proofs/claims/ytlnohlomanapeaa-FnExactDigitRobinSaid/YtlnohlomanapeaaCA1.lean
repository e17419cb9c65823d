import Derived.Test.YtlnohlomanapeaaSX
import Derived.Test.YtlnohlomanapeaaVLTable
import Derived.Test.YtlnohlomanapeaaVLA
/- A part of the proof: CA1. No conditions of its own. -/
namespace Go.Proofs.Ytlnohlomanapeaa
open Go.VL
attribute [local irreducible] VWr VOps VD Calls

set_option maxRecDepth 100000 in
theorem c_isLength (n : Int) (w : World) : Calls Try.prog 123 [.int .i64 n].toArray w (Res w (Is (.bool (decide (1 ≤ n ∧ n ≤ 14))))) := by
  refine calls_of_vw Try.func123 rfl Try.ntmps123 (by simp) ?_
  repeat' (first | refine vops_q tyOk rfl ?_ | refine vops_nil ?_ | refine vw_seq ?_ | refine vw_region (by kernel_rfl) ?_ | refine vops_guardT rfl rfl ?_ | refine vops_guardF rfl rfl ?_ | refine vops_guardU rfl rfl ?_ | with_reducible refine bs_nbeq rfl ?_ | with_reducible refine bs_true ?_ | with_reducible refine bs_false ?_ | with_reducible refine bs_ntrue ?_ | with_reducible refine bs_nfalse ?_ | refine vops_p tyOk rfl (by (try simp only [inR]); omega) ?_ | refine vw_cond rfl ?_ | refine vw_skip ?_ | refine vw_block ?_ | refine vw_ret ?_ | refine vw_exit ?_ | (with_reducible refine bs_dec (fun _ => ?_) (fun _ => ?_)) <;> try (exfalso; omega) | (with_reducible refine bs_ndec (fun _ => ?_) (fun _ => ?_)) <;> try (exfalso; omega) | with_reducible refine bs_nany (fun _ => ?_) (fun _ => ?_) | with_reducible refine bs_any (fun _ => ?_) (fun _ => ?_))
  all_goals (refine rv_bool rfl rfl ?_; simp; omega)
/-- A list of all numbers below its length, which fits. -/
def IsWhole (l : List Int) : Prop := 1 ≤ l.length ∧ l.length ≤ 14 ∧ IsPerm l.length l
/-- The zigzag's number at the place k. -/
def zigC (n k : Nat) : Int := if k % 2 = 0 then ((k / 2 : Nat) : Int) else (n : Int) - 1 - ((k / 2 : Nat) : Int)
def zigR (n : Int) : List Int × Int := if 1 ≤ n ∧ n ≤ 14 then (lst n.toNat (zigC n.toNat), 0) else ([], 2)
end Go.Proofs.Ytlnohlomanapeaa
