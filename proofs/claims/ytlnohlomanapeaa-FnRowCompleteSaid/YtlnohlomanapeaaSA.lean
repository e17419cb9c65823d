import Derived.Test.YtlnohlomanapeaaTab
import Derived.Test.YtlnohlomanapeaaVLA
import Derived.Test.YtlnohlomanapeaaVLBA
import Derived.Test.YtlnohlomanapeaaVLBC
import Derived.Test.YtlnohlomanapeaaVLBB
import Derived.Test.YtlnohlomanapeaaVLAlloc
import Derived.Test.YtlnohlomanapeaaVLRows
/- Parts of the proof, one after another. No conditions of their own. -/
/- A part of the proof: A. No conditions of its own. -/
namespace Go.Proofs.Ytlnohlomanapeaa
open Go.VL
attribute [local irreducible] VWr VOps

theorem c_l01In (n low high : Int) (w : World) : Calls Try.prog 124 [Value.int .i64 n, .int .i64 low, .int .i64 high].toArray w (Res w (Is (.bool (decide (low ≤ n ∧ n ≤ high))))) := by
  refine calls_of_vw Try.func124 rfl Try.ntmps124 (by simp) ?_
  repeat' (first | refine vops_q tyOk rfl ?_ | refine vops_nil ?_ | refine vw_seq ?_ | refine vw_region (by kernel_rfl) ?_ | refine vops_guardT rfl rfl ?_ | refine vops_guardF rfl rfl ?_ | refine vops_guardU rfl rfl ?_ | with_reducible refine bs_nbeq rfl ?_ | with_reducible refine bs_true ?_ | with_reducible refine bs_false ?_ | with_reducible refine bs_ntrue ?_ | with_reducible refine bs_nfalse ?_ | refine vops_p tyOk rfl (by (try simp only [inR]); omega) ?_ | refine vw_cond rfl ?_ | refine vw_skip ?_ | refine vw_block ?_ | refine vw_ret ?_ | refine vw_exit ?_ | (with_reducible refine bs_dec (fun _ => ?_) (fun _ => ?_)) <;> try (exfalso; omega) | (with_reducible refine bs_ndec (fun _ => ?_) (fun _ => ?_)) <;> try (exfalso; omega) | with_reducible refine bs_nany (fun _ => ?_) (fun _ => ?_) | with_reducible refine bs_any (fun _ => ?_) (fun _ => ?_))
  all_goals (refine rv_bool rfl rfl ?_; simp; omega)
theorem c_isBelow (a n : Int) (w : World) : Calls Try.prog 164 [Value.int .i64 a, .int .i64 n].toArray w (Res w (Is (.bool (decide (0 ≤ a ∧ a < n))))) := by
  refine calls_of_vw Try.func164 rfl Try.ntmps164 (by simp) ?_
  repeat' (first | refine vops_q tyOk rfl ?_ | refine vops_nil ?_ | refine vw_seq ?_ | refine vw_region (by kernel_rfl) ?_ | refine vops_guardT rfl rfl ?_ | refine vops_guardF rfl rfl ?_ | refine vops_guardU rfl rfl ?_ | with_reducible refine bs_nbeq rfl ?_ | with_reducible refine bs_true ?_ | with_reducible refine bs_false ?_ | with_reducible refine bs_ntrue ?_ | with_reducible refine bs_nfalse ?_ | refine vops_p tyOk rfl (by (try simp only [inR]); omega) ?_ | refine vw_cond rfl ?_ | refine vw_skip ?_ | refine vw_block ?_ | refine vw_ret ?_ | refine vw_exit ?_ | (with_reducible refine bs_dec (fun _ => ?_) (fun _ => ?_)) <;> try (exfalso; omega) | (with_reducible refine bs_ndec (fun _ => ?_) (fun _ => ?_)) <;> try (exfalso; omega) | with_reducible refine bs_nany (fun _ => ?_) (fun _ => ?_) | with_reducible refine bs_any (fun _ => ?_) (fun _ => ?_))
  all_goals (refine rv_bool rfl rfl ?_; simp; omega)
end Go.Proofs.Ytlnohlomanapeaa

/- A part of the proof: C. No conditions of its own. -/
namespace Go.Proofs.Ytlnohlomanapeaa
open Go.VL
attribute [local irreducible] VWr VOps

/-- What a round asks of the place a. -/
def RdAt (n : Int) (r : List Int) (a : Nat) : Prop := (n ≤ a → r.getD a 0 = 0) ∧ ((a : Int) < n → 0 ≤ r.getD a 0 ∧ r.getD a 0 ≤ n - 1 ∧ r.getD (r.getD a 0).toNat 0 = a)
instance (n : Int) (r : List Int) (a : Nat) : Decidable (RdAt n r a) := by unfold RdAt; infer_instance
/-- A round of n teams. -/
def IsRd (n : Int) (r : List Int) : Prop := 2 ≤ n ∧ n ≤ 14 ∧ ∀ a, a < 14 → RdAt n r a
instance (n : Int) (r : List Int) : Decidable (IsRd n r) := by unfold IsRd; infer_instance

end Go.Proofs.Ytlnohlomanapeaa

/- A part of the proof: E. No conditions of its own. -/
namespace Go.Proofs.Ytlnohlomanapeaa
open Go.VL
attribute [local irreducible] VWr VOps

/-- The round in which all of n teams are free, as far as the place k. -/
def freeTo (k : Int) : List Int := (List.range 14).map fun (a : Nat) => if (a : Int) < k then (a : Int) else 0
/-- r as far as the place k, and zeros. -/
def copyTo (r : List Int) (k : Int) : List Int := (List.range 14).map fun (a : Nat) => if (a : Int) < k then r.getD a 0 else 0
end Go.Proofs.Ytlnohlomanapeaa

/- A part of the proof: F. No conditions of its own. -/
namespace Go.Proofs.Ytlnohlomanapeaa
open Go.VL
attribute [local irreducible] VWr VOps VD

/-- What impl.IsRound makes of r: the opponents' opponents, as far as the place k. -/
def backTo (r : List Int) (k : Int) : List Int := (List.range 14).map fun (a : Nat) => if (a : Int) < k then r.getD (r.getD a 0).toNat 0 else r.getD a 0
end Go.Proofs.Ytlnohlomanapeaa

/- A part of the proof: H. No conditions of its own. -/
namespace Go.Proofs.Ytlnohlomanapeaa
open Go.VL
attribute [local irreducible] VWr VOps VD

/-- A schedule of n teams. -/
def IsSch (n : Int) (rs : List (List Int)) : Prop := 2 ≤ n ∧ n ≤ 14 ∧ rs.length ≤ 40 ∧ ∀ (i : Nat) (r : List Int), rs[i]? = some r → IsRd n r
/-- A schedule's value. -/
def Sch (n : Int) (v : Value) : Value := .agg #[.int .i64 n, v]
end Go.Proofs.Ytlnohlomanapeaa

/- A part of the proof: J. No conditions of its own. -/
namespace Go.Proofs.Ytlnohlomanapeaa
open Go.VL
attribute [local irreducible] VWr VOps VD

/-- A new list of rounds. -/
def NewRs (rs : List (List Int)) (v : Value) (new : Own) : Prop := ∃ b, v = .slice (some ⟨b, 0, none⟩) rs.length rs.length ∧ new = [(b, ⟨ints rs.flatten, 90, rs.length * 14, none⟩)]
/-- A new schedule. -/
def NewSch (n : Int) (rs : List (List Int)) (v : Value) (new : Own) : Prop := ∃ b, v = .agg #[.int .i64 n, .slice (some ⟨b, 0, none⟩) rs.length rs.length] ∧ new = [(b, ⟨ints rs.flatten, 90, rs.length * 14, none⟩)]
end Go.Proofs.Ytlnohlomanapeaa

/- A part of the proof: K. No conditions of its own. -/
namespace Go.Proofs.Ytlnohlomanapeaa
open Go.VL
attribute [local irreducible] VWr VOps VD

/-- A map that tells how often each round is there. -/
def NewTally (rs : List (List Int)) (v : Value) (new : Own) : Prop := ∃ b, v = .map (some b) ∧ new = [(b, ⟨[], 0, 0, some (mapObj (tally rs))⟩)]
end Go.Proofs.Ytlnohlomanapeaa

/- A part of the proof: L. No conditions of its own. -/
namespace Go.Proofs.Ytlnohlomanapeaa
open Go.VL
attribute [local irreducible] VWr VOps VD

end Go.Proofs.Ytlnohlomanapeaa

/- A part of the proof: M. No conditions of its own. -/
namespace Go.Proofs.Ytlnohlomanapeaa
open Go.VL
attribute [local irreducible] VWr VOps VD

end Go.Proofs.Ytlnohlomanapeaa

/- A part of the proof: P1. No conditions of its own. -/
namespace Go.Proofs.Ytlnohlomanapeaa
open Go.VL
attribute [local irreducible] VWr VOps VD

/-- What marking leaves. -/
def Marked (e k n : Nat) (k0 : Int) (v : Value) (u : Value) (new : Own) : Prop := u = .int .i64 (k0 + (n * k : Nat)) ∧ NewF e k n (iota k0 (n * k)) v new
end Go.Proofs.Ytlnohlomanapeaa

/- A part of the proof: P2. No conditions of its own. -/
namespace Go.Proofs.Ytlnohlomanapeaa
open Go.VL
attribute [local irreducible] VWr VOps VD

end Go.Proofs.Ytlnohlomanapeaa

/- A part of the proof: LW. No conditions of its own. -/
namespace Go.Proofs.Ytlnohlomanapeaa
open Go.VL
attribute [local irreducible] VWr VOps VD Calls

theorem okS {own0 own1 : Own} {Γ : Ctx} {w : World} (hg : Go.VL.Good Γ (own0 ++ own1) w) : OwnOk own0 w :=
  hg.ok.sub (by have := hg.ok.nodup; rw [ids, List.map_append] at this; exact (List.nodup_append.1 this).1) sub_hereL
abbrev SchR (n : Int) (rs : List (List Int)) (u : Value) (new : Own) : Prop := SchG 90 n rs u new
end Go.Proofs.Ytlnohlomanapeaa

/- A part of the proof: P16. No conditions of its own. -/
namespace Go.Proofs.Ytlnohlomanapeaa
open Go.VL
attribute [local irreducible] VWr VOps VD Calls

end Go.Proofs.Ytlnohlomanapeaa

/- A part of the proof: P17. No conditions of its own. -/
namespace Go.Proofs.Ytlnohlomanapeaa
open Go.VL
attribute [local irreducible] VWr VOps VD Calls

/-- What is left of a bound when the sizes have been taken off it. -/
def Left (ls : List (List Int)) (left : Int) (v : Value) (new : Own) : Prop := new = [] ∧ ∃ r : Int, v = .int .i64 r ∧ (r = -1 ∨ (0 ≤ r ∧ r ≤ left ∧ (ls.length : Int) ≤ left ∧ ∀ l ∈ ls, (l.length : Int) ≤ left))
end Go.Proofs.Ytlnohlomanapeaa

