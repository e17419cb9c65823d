import Derived.Test.YtabccmngdhgdfaaA
import Derived.Test.YtabccmngdhgdfaaVLArr
/- A part of the proof: C. No conditions of its own. -/
namespace Go.Proofs.Ytabccmngdhgdfaa
open Go.VL
attribute [local irreducible] VWr VOps

/-- What a round asks of the place a. -/
def RdAt (n : Int) (r : List Int) (a : Nat) : Prop := (n ≤ a → r.getD a 0 = 0) ∧ ((a : Int) < n → 0 ≤ r.getD a 0 ∧ r.getD a 0 ≤ n - 1 ∧ r.getD (r.getD a 0).toNat 0 = a)
instance (n : Int) (r : List Int) (a : Nat) : Decidable (RdAt n r a) := by unfold RdAt; infer_instance
/-- A round of n teams. -/
def IsRd (n : Int) (r : List Int) : Prop := 2 ≤ n ∧ n ≤ 14 ∧ ∀ a, a < 14 → RdAt n r a
instance (n : Int) (r : List Int) : Decidable (IsRd n r) := by unfold IsRd; infer_instance

set_option maxRecDepth 100000 in
theorem c_l01Round (n : Int) (r : List Int) (hr : r.length = 14) (w : World) : Calls Try.prog 122 [Value.int .i64 n, .agg (ints r).toArray].toArray w (Res w (Is (.bool (decide (IsRd n r))))) := by
  refine calls_of_vw Try.func122 rfl Try.ntmps122 (by simp) ?_
  refine vw_seq (vw_region (by kernel_rfl) ?_)
  refine vops_box (ints r) rfl (fun b hb => ?_)
  repeat (first | refine vops_q tyOk rfl ?_ | refine vops_nil ?_ | refine vw_seq ?_ | refine vw_region (by kernel_rfl) ?_ | refine vops_guardT rfl rfl ?_ | refine vops_guardF rfl rfl ?_ | refine vops_guardU rfl rfl ?_ | with_reducible refine bs_true ?_ | with_reducible refine bs_false ?_ | with_reducible refine bs_ntrue ?_ | with_reducible refine bs_nfalse ?_ | refine vops_p tyOk rfl (by (try simp only [inR]); omega) ?_ | refine vw_cond rfl ?_ | refine vw_skip ?_ | refine vw_block ?_ | refine vw_ret ?_ | refine vw_exit ?_)
  refine vops_callp ent89 rfl (fun w _ => c_l01In n 2 14 w) ?_
  repeat (first | refine vops_q tyOk rfl ?_ | refine vops_nil ?_ | refine vw_seq ?_ | refine vw_region (by kernel_rfl) ?_ | refine vops_guardT rfl rfl ?_ | refine vops_guardF rfl rfl ?_ | refine vops_guardU rfl rfl ?_ | with_reducible refine bs_true ?_ | with_reducible refine bs_false ?_ | with_reducible refine bs_ntrue ?_ | with_reducible refine bs_nfalse ?_ | refine vops_p tyOk rfl (by (try simp only [inR]); omega) ?_ | refine vw_cond rfl ?_ | refine vw_skip ?_ | refine vw_block ?_ | refine vw_ret ?_ | refine vw_exit ?_)
  refine bs_ndec2 (fun h => ?_) (fun h => ?_)
  · repeat (first | refine vops_q tyOk rfl ?_ | refine vops_nil ?_ | refine vw_seq ?_ | refine vw_region (by kernel_rfl) ?_ | refine vops_guardT rfl rfl ?_ | refine vops_guardF rfl rfl ?_ | refine vops_guardU rfl rfl ?_ | with_reducible refine bs_true ?_ | with_reducible refine bs_false ?_ | with_reducible refine bs_ntrue ?_ | with_reducible refine bs_nfalse ?_ | refine vops_p tyOk rfl (by (try simp only [inR]); omega) ?_ | refine vw_cond rfl ?_ | refine vw_skip ?_ | refine vw_block ?_ | refine vw_ret ?_ | refine vw_exit ?_)
    refine rv_bool rfl rfl ?_
    exact (decide_eq_false fun h' => h ⟨h'.1, h'.2.1⟩).symm
  repeat (first | refine vops_q tyOk rfl ?_ | refine vops_nil ?_ | refine vw_seq ?_ | refine vw_region (by kernel_rfl) ?_ | refine vops_guardT rfl rfl ?_ | refine vops_guardF rfl rfl ?_ | refine vops_guardU rfl rfl ?_ | with_reducible refine bs_true ?_ | with_reducible refine bs_false ?_ | with_reducible refine bs_ntrue ?_ | with_reducible refine bs_nfalse ?_ | refine vops_p tyOk rfl (by (try simp only [inR]); omega) ?_ | refine vw_cond rfl ?_ | refine vw_skip ?_ | refine vw_block ?_ | refine vw_ret ?_ | refine vw_exit ?_)
  refine vw_loop (fun m f own => ∃ a : Int, 0 ≤ a ∧ a ≤ 14 ∧ m = (14 - a).toNat ∧ f 5 = .int .i64 a ∧ f 0 = .int .i64 n ∧ f 3 = .pointer (some ⟨b, 0, none⟩) ∧ own = [(b, ⟨ints r, 25, 14, none⟩)] ∧ ∀ j : Nat, (j : Int) < a → RdAt n r j) 14
    ⟨0, by omega, by omega, by omega, rfl, rfl, rfl, by rw [ints_length, hr], fun j hj => by omega⟩ ?_
  rintro m f own ⟨a, ha0, ha1, rfl, h5, h0, h3, rfl, hall⟩
  rw [upd_of h0, upd_of h3, upd_of h5]
  repeat (first | refine vops_q tyOk rfl ?_ | refine vops_nil ?_ | refine vw_seq ?_ | refine vw_region (by kernel_rfl) ?_ | refine vops_guardT rfl rfl ?_ | refine vops_guardF rfl rfl ?_ | refine vops_guardU rfl rfl ?_ | with_reducible refine bs_true ?_ | with_reducible refine bs_false ?_ | with_reducible refine bs_ntrue ?_ | with_reducible refine bs_nfalse ?_ | refine vops_p tyOk rfl (by (try simp only [inR]); omega) ?_ | refine vw_cond rfl ?_ | refine vw_skip ?_ | refine vw_block ?_ | refine vw_ret ?_ | refine vw_exit ?_)
  refine bs_dec (fun hlt => ?_) (fun hge => ?_)
  · repeat' (first | refine vops_q tyOk rfl ?_ | refine vops_nil ?_ | refine vw_seq ?_ | refine vw_region (by kernel_rfl) ?_ | refine vops_guardT rfl rfl ?_ | refine vops_guardF rfl rfl ?_ | refine vops_guardU rfl rfl ?_ | with_reducible refine bs_true ?_ | with_reducible refine bs_false ?_ | with_reducible refine bs_ntrue ?_ | with_reducible refine bs_nfalse ?_ | refine vops_p tyOk rfl (by (try simp only [inR]); omega) ?_ | refine vw_cond rfl ?_ | refine vw_skip ?_ | refine vw_block ?_ | refine vw_ret ?_ | refine vw_exit ?_ | (with_reducible refine bs_dec (fun _ => ?_) (fun _ => ?_)) <;> try (exfalso; omega) | (with_reducible refine bs_ndec (fun _ => ?_) (fun _ => ?_)) <;> try (exfalso; omega) | with_reducible refine bs_nany (fun _ => ?_) (fun _ => ?_) | with_reducible refine bs_any (fun _ => ?_) (fun _ => ?_) | refine vops_load tyOk rfl rfl rfl (sees_at 0 rfl (ints_get0 (by omega))) ?_ | (apply vops_callp ent89 rfl; (intro w _; exact c_l01In _ _ _ w)))
    all_goals first
      | exact ⟨(14 - (a + 1)).toNat, by omega, a + 1, by omega, by omega, rfl, rfl, rfl, rfl, rfl, all_step ha0 hall (by unfold RdAt; omega)⟩
      | (refine rv_bool rfl rfl (decide_eq_false fun h' => ?_).symm
         have h2 := h'.2.2 a.toNat (by omega)
         unfold RdAt at h2
         omega)
  · repeat (first | refine vops_q tyOk rfl ?_ | refine vops_nil ?_ | refine vw_seq ?_ | refine vw_region (by kernel_rfl) ?_ | refine vops_guardT rfl rfl ?_ | refine vops_guardF rfl rfl ?_ | refine vops_guardU rfl rfl ?_ | with_reducible refine bs_true ?_ | with_reducible refine bs_false ?_ | with_reducible refine bs_ntrue ?_ | with_reducible refine bs_nfalse ?_ | refine vops_p tyOk rfl (by (try simp only [inR]); omega) ?_ | refine vw_cond rfl ?_ | refine vw_skip ?_ | refine vw_block ?_ | refine vw_ret ?_ | refine vw_exit ?_)
    refine rv_bool rfl rfl (decide_eq_true ⟨h.1, h.2, fun j hj => hall j (by omega)⟩).symm
end Go.Proofs.Ytabccmngdhgdfaa
