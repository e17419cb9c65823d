import Derived.Test.YtegbfeaclmcgbaaM
import Derived.Test.YtegbfeaclmcgbaaRows
import Derived.Test.YtegbfeaclmcgbaaHead
import Derived.Test.YtegbfeaclmcgbaaVLArr
/- Proved: whatever schedule it is given, a number of teams and a list of lists of fourteen numbers, of whatever length, the law of IsSchedule answers true, that is, the program's own answer is the document's and the schedule that it was given is unchanged; no conditions on the argument, nothing that the caller holds is changed. -/
namespace Go.Proofs.Ytegbfeaclmcgbaa
open Go.VL Go.ChangeShapes Go.WideShapes Go.ChangeAt Go.RowKit
attribute [local irreducible] VW VOps VD

open Classical in
set_option maxHeartbeats 400000 in
set_option maxRecDepth 100000 in
theorem c_FnExactIsSchedule (n : Int) (v : Value) (rs : List (List Int)) (hr : ∀ r ∈ rs, r.length = 14) (hl : rs.length ≤ maxLen) (w : World) (hv : RdS w v rs) :
    Calls Try.prog 4 [.agg #[.int .i64 n, v]].toArray w (Res w (Is (.bool true))) := by
  obtain ⟨a, cap, hv'⟩ := hv.len
  refine calls_of_vw Try.func4 rfl Try.ntmps4 (by simp) ?_
  refine vw_seq (vw_region (by kernel_rfl) (vops_box [.int .i64 n, v] rfl (fun b0 hb0 => ?_)))
  repeat (first | refine vops_q tyOk rfl ?_ | refine vops_nil ?_ | refine vw_seq ?_ | refine vw_region (by kernel_rfl) ?_ | refine vops_guardT rfl rfl ?_ | refine vops_guardF rfl rfl ?_ | refine vops_guardU rfl rfl ?_ | with_reducible refine bs_true ?_ | with_reducible refine bs_false ?_ | with_reducible refine bs_ntrue ?_ | with_reducible refine bs_nfalse ?_ | refine vops_p tyOk rfl (by (try simp only [inR]); omega) ?_ | refine vw_cond rfl ?_ | refine vw_skip ?_ | refine vw_block ?_ | refine vw_ret ?_ | refine vw_exit ?_ | refine vops_loadN tyOk [.int .i64 n, v] rfl rfl rfl rfl (seesL_at 0 rfl rfl) ?_)
  obtain ⟨left, hleft⟩ : ∃ left : Int, left = (if (1048576 : Int) - (rs.length : Int) < 0 then -1 else (1048576 : Int) - (rs.length : Int)) := ⟨_, rfl⟩
  refine vops_callp (v := .int .i64 left) ent22 rfl (fun w' _ => by rw [hleft]; exact c_szSchedule n v a rs.length cap 1048576 hv' hl (by omega) (by omega) w') ?_
  repeat (first | refine vops_q tyOk rfl ?_ | refine vops_nil ?_ | refine vw_seq ?_ | refine vw_region (by kernel_rfl) ?_ | refine vops_guardT rfl rfl ?_ | refine vops_guardF rfl rfl ?_ | refine vops_guardU rfl rfl ?_ | with_reducible refine bs_true ?_ | with_reducible refine bs_false ?_ | with_reducible refine bs_ntrue ?_ | with_reducible refine bs_nfalse ?_ | refine vops_p tyOk rfl (by (try simp only [inR]); omega) ?_ | refine vw_cond rfl ?_ | refine vw_skip ?_ | refine vw_block ?_ | refine vw_ret ?_ | refine vw_exit ?_)
  refine bs_dec (fun h => ?_) (fun h => ?_)
  · repeat (first | refine vops_q tyOk rfl ?_ | refine vops_nil ?_ | refine vw_seq ?_ | refine vw_region (by kernel_rfl) ?_ | refine vops_guardT rfl rfl ?_ | refine vops_guardF rfl rfl ?_ | refine vops_guardU rfl rfl ?_ | with_reducible refine bs_true ?_ | with_reducible refine bs_false ?_ | with_reducible refine bs_ntrue ?_ | with_reducible refine bs_nfalse ?_ | refine vops_p tyOk rfl (by (try simp only [inR]); omega) ?_ | refine vw_cond rfl ?_ | refine vw_skip ?_ | refine vw_block ?_ | refine vw_ret ?_ | refine vw_exit ?_)
    exact rv_bool rfl rfl rfl
  have hl' : rs.length ≤ 1048576 := by
    by_cases hc : (1048576 : Int) - (rs.length : Int) < 0
    · rw [if_pos hc] at hleft; omega
    · omega
  repeat (first | refine vops_q tyOk rfl ?_ | refine vops_nil ?_ | refine vw_seq ?_ | refine vw_region (by kernel_rfl) ?_ | refine vops_guardT rfl rfl ?_ | refine vops_guardF rfl rfl ?_ | refine vops_guardU rfl rfl ?_ | with_reducible refine bs_true ?_ | with_reducible refine bs_false ?_ | with_reducible refine bs_ntrue ?_ | with_reducible refine bs_nfalse ?_ | refine vops_p tyOk rfl (by (try simp only [inR]); omega) ?_ | refine vw_cond rfl ?_ | refine vw_skip ?_ | refine vw_block ?_ | refine vw_ret ?_ | refine vw_exit ?_ | refine vops_loadN tyOk [.int .i64 n, v] rfl rfl rfl rfl (seesL_at 0 rfl rfl) ?_)
  refine vops_call ent24 rfl (fun w' hg => c_toSchedule n v rs w' (hv.same hg.fr) hr hl') ?_
  rintro _ _ ⟨b1, rfl, rfl⟩
  refine vops_callp ent23 rfl (fun w' hg => c_spec_IsSchedule n _ rs w' (rds_own hg 0 rfl) hr hl) ?_
  repeat (first | refine vops_q tyOk rfl ?_ | refine vops_nil ?_ | refine vw_seq ?_ | refine vw_region (by kernel_rfl) ?_ | refine vops_guardT rfl rfl ?_ | refine vops_guardF rfl rfl ?_ | refine vops_guardU rfl rfl ?_ | with_reducible refine bs_true ?_ | with_reducible refine bs_false ?_ | with_reducible refine bs_ntrue ?_ | with_reducible refine bs_nfalse ?_ | refine vops_p tyOk rfl (by (try simp only [inR]); omega) ?_ | refine vw_cond rfl ?_ | refine vw_skip ?_ | refine vw_block ?_ | refine vw_ret ?_ | refine vw_exit ?_ | refine vops_loadN tyOk [.int .i64 n, v] rfl rfl rfl rfl (seesL_at 1 rfl rfl) ?_)
  refine vops_call ent24 rfl (fun w' hg => c_toSchedule n v rs w' (hv.same hg.fr) hr hl') ?_
  rintro _ _ ⟨b2, rfl, rfl⟩
  refine vops_allocZ [.int .i64 0, .slice none 0 0] tyOk rfl rfl (by simp) (fun b3 hb3 => ?_)
  repeat (first | refine vops_q tyOk rfl ?_ | refine vops_nil ?_ | refine vw_seq ?_ | refine vw_region (by kernel_rfl) ?_ | refine vops_guardT rfl rfl ?_ | refine vops_guardF rfl rfl ?_ | refine vops_guardU rfl rfl ?_ | with_reducible refine bs_true ?_ | with_reducible refine bs_false ?_ | with_reducible refine bs_ntrue ?_ | with_reducible refine bs_nfalse ?_ | refine vops_p tyOk rfl (by (try simp only [inR]); omega) ?_ | refine vw_cond rfl ?_ | refine vw_skip ?_ | refine vw_block ?_ | refine vw_ret ?_ | refine vw_exit ?_ | refine vops_storeA (cs := [.int .i64 n, .slice (some ⟨b2, 0, none⟩) rs.length rs.length]) tyOk 0 rfl rfl rfl rfl (by simp [Value.oneCell']) rfl rfl ?_ | refine vops_loadN tyOk [.int .i64 n, .slice (some ⟨b2, 0, none⟩) rs.length rs.length] rfl rfl rfl rfl (seesL_at 0 rfl rfl) ?_)
  refine vops_callp ent25 rfl (fun w' hg => c_IsSchedule n _ rs w' (rds_own hg 1 rfl) hr hl') ?_
  repeat (first | refine vops_q tyOk rfl ?_ | refine vops_nil ?_ | refine vw_seq ?_ | refine vw_region (by kernel_rfl) ?_ | refine vops_guardT rfl rfl ?_ | refine vops_guardF rfl rfl ?_ | refine vops_guardU rfl rfl ?_ | with_reducible refine bs_true ?_ | with_reducible refine bs_false ?_ | with_reducible refine bs_ntrue ?_ | with_reducible refine bs_nfalse ?_ | refine vops_p tyOk rfl (by (try simp only [inR]); omega) ?_ | refine vw_cond rfl ?_ | refine vw_skip ?_ | refine vw_block ?_ | refine vw_ret ?_ | refine vw_exit ?_)
  refine bs_nbeq rfl ?_
  repeat (first | refine vops_q tyOk rfl ?_ | refine vops_nil ?_ | refine vw_seq ?_ | refine vw_region (by kernel_rfl) ?_ | refine vops_guardT rfl rfl ?_ | refine vops_guardF rfl rfl ?_ | refine vops_guardU rfl rfl ?_ | with_reducible refine bs_true ?_ | with_reducible refine bs_false ?_ | with_reducible refine bs_ntrue ?_ | with_reducible refine bs_nfalse ?_ | refine vops_p tyOk rfl (by (try simp only [inR]); omega) ?_ | refine vw_cond rfl ?_ | refine vw_skip ?_ | refine vw_block ?_ | refine vw_ret ?_ | refine vw_exit ?_)
  refine vw_draw [0, 1, 2, 3, 4] (by kernel_rfl) (by kernel_rfl) (by kernel_rfl) rfl ?_
  refine vd_loadN tyOk [.int .i64 n, .slice (some ⟨b2, 0, none⟩) rs.length rs.length] rfl (by first | trivial | rfl) rfl rfl rfl rfl (by kernel_rfl) (by kernel_rfl) (by kernel_rfl) (seesL_at 0 rfl rfl) sub_refl ?_
  refine vd_loadN tyOk [.int .i64 n, v] rfl (by first | trivial | rfl) rfl rfl rfl rfl (by kernel_rfl) (by kernel_rfl) (by kernel_rfl) (seesL_at 3 rfl rfl) sub_refl ?_
  refine vd_one rfl (by kernel_rfl) (by kernel_rfl) rfl ?_
  refine vops_call ent24 rfl (fun w' hg => c_toSchedule n v rs w' (hv.same hg.fr) hr hl') ?_
  rintro _ _ ⟨b4, rfl, rfl⟩
  refine vops_nil ⟨fun _ h => sub_app h, ?_⟩
  refine vd_one rfl (by kernel_rfl) (by kernel_rfl) rfl ?_
  refine vops_callp ent26 rfl (fun w' hg => c_eqSchedule n n _ _ rs rs w' (rds_own hg 2 rfl) (rds_own hg 0 rfl) hr hr hl') ?_
  refine vops_nil ⟨fun _ h => h, ?_⟩
  repeat' (first | refine vd_q tyOk rfl (by first | trivial | rfl) rfl (by kernel_rfl) (by kernel_rfl) ?_ | refine vd_p tyOk rfl (by first | trivial | rfl) rfl (by kernel_rfl) (by kernel_rfl) (by (try simp only [inR]); omega) ?_ | refine vd_skip rfl rfl (by decide) (by kernel_rfl) (by kernel_rfl) ?_ | refine vops_nil ?_ | refine vd_nil (by kernel_rfl) ?_ | refine ⟨fun _ h => h, ?_⟩ | refine ⟨fun _ h => sub_cons h, ?_⟩ | refine ⟨fun _ h => sub_app h, ?_⟩ | refine vops_q tyOk rfl ?_ | (refine vd_gsplit rfl rfl rfl ?_; with_reducible refine bs_dec (fun _ => ?_) (fun _ => ?_)) <;> try (exfalso; omega) | (refine vd_gsplit rfl rfl rfl ?_; with_reducible refine bs_ndec (fun _ => ?_) (fun _ => ?_)) <;> try (exfalso; omega) | (refine vd_gsplit rfl rfl rfl ?_; with_reducible refine bs_nany (fun _ => ?_) (fun _ => ?_)) <;> try (exfalso; omega) | (refine vd_gsplit rfl rfl rfl ?_; with_reducible refine bs_any (fun _ => ?_) (fun _ => ?_)) <;> try (exfalso; omega) | refine vd_one rfl (by kernel_rfl) (by kernel_rfl) rfl ?_ | refine vd_oneG rfl (by kernel_rfl) (by kernel_rfl) rfl ?_)
  repeat (first | refine vops_q tyOk rfl ?_ | refine vops_nil ?_ | refine vw_seq ?_ | refine vw_region (by kernel_rfl) ?_ | refine vops_guardT rfl rfl ?_ | refine vops_guardF rfl rfl ?_ | refine vops_guardU rfl rfl ?_ | with_reducible refine bs_true ?_ | with_reducible refine bs_false ?_ | with_reducible refine bs_ntrue ?_ | with_reducible refine bs_nfalse ?_ | refine vops_p tyOk rfl (by (try simp only [inR]); omega) ?_ | refine vw_cond rfl ?_ | refine vw_skip ?_ | refine vw_block ?_ | refine vw_ret ?_ | refine vw_exit ?_)
  refine bs_ndec2 (fun h => absurd ⟨rfl, rfl⟩ h) (fun _ => ?_)
  repeat (first | refine vops_q tyOk rfl ?_ | refine vops_nil ?_ | refine vw_seq ?_ | refine vw_region (by kernel_rfl) ?_ | refine vops_guardT rfl rfl ?_ | refine vops_guardF rfl rfl ?_ | refine vops_guardU rfl rfl ?_ | with_reducible refine bs_true ?_ | with_reducible refine bs_false ?_ | with_reducible refine bs_ntrue ?_ | with_reducible refine bs_nfalse ?_ | refine vops_p tyOk rfl (by (try simp only [inR]); omega) ?_ | refine vw_cond rfl ?_ | refine vw_skip ?_ | refine vw_block ?_ | refine vw_ret ?_ | refine vw_exit ?_)
  exact rv_bool rfl rfl rfl

set_option maxHeartbeats 1000000 in
theorem fnExactIsSchedule_closed : joinedFacts Try.pinned.checked.prog 4 Try.f4 Rows.fnExactIsScheduleSpec Rows.fnExactIsScheduleRow = true :=
  andT (andT (andT (andT (andT (andT (andT (andT (andT (andT (andT (andT (andT (andT (andT (andT (andT (andT (andT (andT (andT (andT (andT (andT (andT (andT (andT (andT (andT (andT (andT ((by as_aux_lemma => kernel_rfl)) laidOut) mapsRow) (by as_aux_lemma => kernel_rfl)) (by as_aux_lemma => kernel_rfl)) (by as_aux_lemma => kernel_rfl)) (by as_aux_lemma => kernel_rfl)) (by as_aux_lemma => kernel_rfl)) (by as_aux_lemma => kernel_rfl)) (by as_aux_lemma => kernel_rfl)) (by as_aux_lemma => kernel_rfl)) (by as_aux_lemma => kernel_rfl)) (by as_aux_lemma => kernel_rfl)) (by as_aux_lemma => kernel_rfl)) (by as_aux_lemma => kernel_rfl)) (by as_aux_lemma => kernel_rfl)) (by as_aux_lemma => kernel_rfl)) (by as_aux_lemma => kernel_rfl)) (by as_aux_lemma => kernel_rfl)) (by as_aux_lemma => kernel_rfl)) (by as_aux_lemma => kernel_rfl)) (by as_aux_lemma => kernel_rfl)) (by as_aux_lemma => kernel_rfl)) (by as_aux_lemma => kernel_rfl)) heard) enters) (beqT lifts.symm)) (beqT made)) (by as_aux_lemma => kernel_rfl)) (by as_aux_lemma => kernel_rfl)) (by as_aux_lemma => kernel_rfl)) (by as_aux_lemma => kernel_rfl)


/-! ### the statement -/
set_option maxRecDepth 100000 in
theorem fnExactIsSchedule_lifted (os : Os) (started : os.Started) (H : Type) (enc : TypeId × Value → H) :
    ReturnsInHanded {} Try.checked os 4 .any (Rows.fnExactIsScheduleSpec.pre6 enc Try.prog Try.f4 Rows.fnExactIsScheduleRow.domain false) (Rows.fnExactIsScheduleSpec.post enc Try.prog Try.f4 false true false false) := by
  refine returnsInHanded_of_change (C := Try.checked) own started (by kernel_rfl) Try.func4
    (ChangeSpec.witness6 (enc := enc) (C := Try.checked) false ⟨#[], #[.agg #[.int .i64 0, .slice none 0 0]], []⟩ 8 (by kernel_rfl) (by kernel_rfl) (by kernel_rfl) (by kernel_rfl)) ?_
  intro W base args ds gs before hval0 hW hcnd _
  have hval : ∀ (j : Nat) t v, Try.f4.params[j]? = some t → args[j]? = some v → Value.okWide Try.prog W .any base t v := hval0
  have hW' := hW
  obtain ⟨p, q, hA0, hV, rfl, hfz, hnd⟩ := hW
  have hA : DataW.TrodAll enc Try.prog W 0 (fun _ => true) true Try.f4.params.toList args.toList ds p := hA0
  rw [Try.params4] at hA hval
  obtain ⟨v0, vs0, d0, ds0, p0, q0, hargs, rfl, rfl, h0, r0⟩ := trodAll_cons hA
  obtain ⟨rfl, rfl, rfl⟩ := trodAll_nil r0
  obtain rfl : args = #[v0] := by cases args; simp_all
  obtain ⟨rfl, rfl⟩ := trodVars_none hV
  have lt0 := trod_lt h0
  have k0 := h0
  obtain ⟨a0, sl0, rs0, rfl, rd0, lm0, l0⟩ := o_sched tyOk (t := 29) rfl rfl rfl rfl rfl rfl (by omega) rfl (hval 0 29 v0 rfl rfl) h0
  clear hA0 hval0
  refine (below_of_res (c_FnExactIsSchedule a0 sl0 rs0 l0 lm0 W rd0)).mono fun e W' ⟨he, bel⟩ => ?_
  subst he
  exact ⟨_, rfl, _, _, _, [], _, [], hW', trodAll_mk1 (shut_bool Try.underlying4 _), (trodAll_cons_mk (Below.trod laidOut (by kernel_rfl) (of_decide_eq_true (by kernel_rfl)) k0 bel lt0) trodAll_mk0), rfl, bel.frame _, fun h => by cases h⟩

theorem fnExactIsSchedule_over : Rows.fnExactIsScheduleRow.holds Try.pinned (OpenSpec.ofChange Rows.fnExactIsScheduleSpec) :=
  OpenClaim.holds_of_wide 4 Try.f4 rfl rfl rfl rfl rfl rfl rfl ⟨rfl, rfl, rfl, rfl, rfl⟩ rfl rfl rfl rfl rfl (by as_aux_lemma => kernel_rfl) Try.func4 fnExactIsSchedule_closed
    (of_decide_eq_true (by kernel_rfl)) (by unfold Func.isWrapper; first | (rw [if_pos (by decide +kernel)]; kernel_rfl) | (rw [if_neg (by decide +kernel)]; exact ⟨rfl, rfl⟩))
    (fun os started H enc _ => fnExactIsSchedule_lifted os started H enc)

theorem fnExactIsSchedule_holds : Rows.FnExactIsScheduleSaid := fnExactIsSchedule_over

end Go.Proofs.Ytegbfeaclmcgbaa
