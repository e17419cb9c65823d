import Derived.Test.YtabccmngdhgdfaaK
import Derived.Test.YtabccmngdhgdfaaVLRange
import Derived.Test.YtabccmngdhgdfaaVLArr
/- A part of the proof: L. No conditions of its own. -/
namespace Go.Proofs.Ytabccmngdhgdfaa
open Go.VL
attribute [local irreducible] VWr VOps VD

open Classical in
set_option maxRecDepth 100000 in
theorem c_IsSchedule (n : Int) (v : Value) (rs : List (List Int)) (w : World) (hv : RdS w v rs) (hr : ∀ r ∈ rs, r.length = 14) (hl : rs.length ≤ 1048576) :
    Calls Try.prog 93 [.agg #[.int .i64 n, v]].toArray w (Res w (Is (.bool (decide (IsSch n rs))))) := by
  obtain ⟨a, cap, rfl⟩ := hv.len
  refine calls_of_vw Try.func93 rfl Try.ntmps93 (by simp) ?_
  refine vw_seq (vw_region (by kernel_rfl) (vops_box [.int .i64 n, .slice a rs.length cap] rfl (fun b0 hb0 => ?_)))
  repeat (first | refine vops_q tyOk rfl ?_ | refine vops_nil ?_ | refine vw_seq ?_ | refine vw_region (by kernel_rfl) ?_ | refine vops_guardT rfl rfl ?_ | refine vops_guardF rfl rfl ?_ | refine vops_guardU rfl rfl ?_ | with_reducible refine bs_true ?_ | with_reducible refine bs_false ?_ | with_reducible refine bs_ntrue ?_ | with_reducible refine bs_nfalse ?_ | refine vops_p tyOk rfl (by (try simp only [inR]); omega) ?_ | refine vw_cond rfl ?_ | refine vw_skip ?_ | refine vw_block ?_ | refine vw_ret ?_ | refine vw_exit ?_ | refine vops_load tyOk rfl rfl rfl (sees_at 0 rfl rfl) ?_ | (apply vops_callp ent119 rfl; (intro w _; exact c_isTeamCount _ w)))
  refine bs_ndec2 (fun h => ?_) (fun h => ?_)
  · repeat (first | refine vops_q tyOk rfl ?_ | refine vops_nil ?_ | refine vw_seq ?_ | refine vw_region (by kernel_rfl) ?_ | refine vops_guardT rfl rfl ?_ | refine vops_guardF rfl rfl ?_ | refine vops_guardU rfl rfl ?_ | with_reducible refine bs_true ?_ | with_reducible refine bs_false ?_ | with_reducible refine bs_ntrue ?_ | with_reducible refine bs_nfalse ?_ | refine vops_p tyOk rfl (by (try simp only [inR]); omega) ?_ | refine vw_cond rfl ?_ | refine vw_skip ?_ | refine vw_block ?_ | refine vw_ret ?_ | refine vw_exit ?_)
    refine rv_bool rfl rfl ?_
    exact (decide_eq_false fun h' => h ⟨h'.1, h'.2.1⟩).symm
  repeat (first | refine vops_q tyOk rfl ?_ | refine vops_nil ?_ | refine vw_seq ?_ | refine vw_region (by kernel_rfl) ?_ | refine vops_guardT rfl rfl ?_ | refine vops_guardF rfl rfl ?_ | refine vops_guardU rfl rfl ?_ | with_reducible refine bs_true ?_ | with_reducible refine bs_false ?_ | with_reducible refine bs_ntrue ?_ | with_reducible refine bs_nfalse ?_ | refine vops_p tyOk rfl (by (try simp only [inR]); omega) ?_ | refine vw_cond rfl ?_ | refine vw_skip ?_ | refine vw_block ?_ | refine vw_ret ?_ | refine vw_exit ?_ | refine vops_load tyOk rfl rfl rfl (sees_at 0 rfl rfl) ?_)
  refine bs_dec (fun h2 => ?_) (fun h2 => ?_)
  · repeat (first | refine vops_q tyOk rfl ?_ | refine vops_nil ?_ | refine vw_seq ?_ | refine vw_region (by kernel_rfl) ?_ | refine vops_guardT rfl rfl ?_ | refine vops_guardF rfl rfl ?_ | refine vops_guardU rfl rfl ?_ | with_reducible refine bs_true ?_ | with_reducible refine bs_false ?_ | with_reducible refine bs_ntrue ?_ | with_reducible refine bs_nfalse ?_ | refine vops_p tyOk rfl (by (try simp only [inR]); omega) ?_ | refine vw_cond rfl ?_ | refine vw_skip ?_ | refine vw_block ?_ | refine vw_ret ?_ | refine vw_exit ?_)
    refine rv_bool rfl rfl ?_
    exact (decide_eq_false fun h' => by have := h'.2.2.1; omega).symm
  repeat (first | refine vops_q tyOk rfl ?_ | refine vops_nil ?_ | refine vw_seq ?_ | refine vw_region (by kernel_rfl) ?_ | refine vops_guardT rfl rfl ?_ | refine vops_guardF rfl rfl ?_ | refine vops_guardU rfl rfl ?_ | with_reducible refine bs_true ?_ | with_reducible refine bs_false ?_ | with_reducible refine bs_ntrue ?_ | with_reducible refine bs_nfalse ?_ | refine vops_p tyOk rfl (by (try simp only [inR]); omega) ?_ | refine vw_cond rfl ?_ | refine vw_skip ?_ | refine vw_block ?_ | refine vw_ret ?_ | refine vw_exit ?_ | refine vops_load tyOk rfl rfl rfl (sees_at 0 rfl rfl) ?_)
  refine vops_call ent142 rfl (fun w' hg => c_timesOfRounds _ rs w' (hv.same hg.fr) hr hl) ?_
  rintro _ _ ⟨bm, rfl, rfl⟩
  refine vops_range 0 mapT rfl rfl (fun bi hbi => ?_)
  repeat (first | refine vops_q tyOk rfl ?_ | refine vops_nil ?_ | refine vw_seq ?_ | refine vw_region (by kernel_rfl) ?_ | refine vops_guardT rfl rfl ?_ | refine vops_guardF rfl rfl ?_ | refine vops_guardU rfl rfl ?_ | with_reducible refine bs_true ?_ | with_reducible refine bs_false ?_ | with_reducible refine bs_ntrue ?_ | with_reducible refine bs_nfalse ?_ | refine vops_p tyOk rfl (by (try simp only [inR]); omega) ?_ | refine vw_cond rfl ?_ | refine vw_skip ?_ | refine vw_block ?_ | refine vw_ret ?_ | refine vw_exit ?_)
  refine vw_loop (fun m f own => ∃ seen : Array Nat, m = ((List.range (tally rs).length).filter (fun j => !seen.contains j)).length ∧ f 17 = .pointer (some ⟨bi, 0, none⟩) ∧ f 1 = .pointer (some ⟨b0, 0, none⟩) ∧
      own = [(bi, ⟨[], 0, 0, some (itObj bm (tally rs) seen)⟩), (bm, ⟨[], 0, 0, some (mapObj (tally rs))⟩), (b0, ⟨[.int .i64 n, .slice a rs.length cap], 39, 2, none⟩)] ∧
      ∀ (j : Nat) (k : List Int) (c : Int), (tally rs)[j]? = some (k, c) → seen.contains j = true → IsRd n k) _
    ⟨#[], rfl, rfl, rfl, rfl, fun j k c _ hc => by simp at hc⟩ ?_
  rintro m f own ⟨seen, rfl, h17, h1, rfl, hall⟩
  rw [upd_of h1, upd_of h17]
  refine vw_seq (vw_region (by kernel_rfl) (vops_next 1 0 rfl rfl rfl (fun hseen => ?_) (fun j k c hj hjs => ?_)))
  · repeat (first | refine vops_q tyOk rfl ?_ | refine vops_nil ?_ | refine vw_seq ?_ | refine vw_region (by kernel_rfl) ?_ | refine vops_guardT rfl rfl ?_ | refine vops_guardF rfl rfl ?_ | refine vops_guardU rfl rfl ?_ | with_reducible refine bs_true ?_ | with_reducible refine bs_false ?_ | with_reducible refine bs_ntrue ?_ | with_reducible refine bs_nfalse ?_ | refine vops_p tyOk rfl (by (try simp only [inR]); omega) ?_ | refine vw_cond rfl ?_ | refine vw_skip ?_ | refine vw_block ?_ | refine vw_ret ?_ | refine vw_exit ?_)
    refine rv_bool rfl rfl ?_
    refine (decide_eq_true ?_).symm
    refine ⟨h.1, h.2, by omega, fun i r hi => ?_⟩
    obtain ⟨c, hc⟩ := tally_has (List.mem_of_getElem? hi)
    obtain ⟨j, hj⟩ := List.mem_iff_getElem?.1 hc
    exact hall j r c hj (hseen j (List.getElem?_eq_some_iff.1 hj).1)
  · have hkm := (tally_keys (List.mem_of_getElem? hj)).1
    have hkl := hr k hkm
    repeat (first | refine vops_q tyOk rfl ?_ | refine vops_nil ?_ | refine vw_seq ?_ | refine vw_region (by kernel_rfl) ?_ | refine vops_guardT rfl rfl ?_ | refine vops_guardF rfl rfl ?_ | refine vops_guardU rfl rfl ?_ | with_reducible refine bs_true ?_ | with_reducible refine bs_false ?_ | with_reducible refine bs_ntrue ?_ | with_reducible refine bs_nfalse ?_ | refine vops_p tyOk rfl (by (try simp only [inR]); omega) ?_ | refine vw_cond rfl ?_ | refine vw_skip ?_ | refine vw_block ?_ | refine vw_ret ?_ | refine vw_exit ?_ | refine vops_entry 1 0 rfl rfl rfl hj ?_)
    refine vops_allocZ (ints (List.replicate 14 0)) tyOk rfl rfl (by simp [ints]) (fun b5 hb5 => ?_)
    repeat (first | refine vops_q tyOk rfl ?_ | refine vops_nil ?_ | refine vw_seq ?_ | refine vw_region (by kernel_rfl) ?_ | refine vops_guardT rfl rfl ?_ | refine vops_guardF rfl rfl ?_ | refine vops_guardU rfl rfl ?_ | with_reducible refine bs_true ?_ | with_reducible refine bs_false ?_ | with_reducible refine bs_ntrue ?_ | with_reducible refine bs_nfalse ?_ | refine vops_p tyOk rfl (by (try simp only [inR]); omega) ?_ | refine vw_cond rfl ?_ | refine vw_skip ?_ | refine vw_block ?_ | refine vw_ret ?_ | refine vw_exit ?_ | refine vops_storeA (cs := ints k) tyOk 0 rfl (by rw [ints_length, hkl]) rfl rfl ints_one rfl (by simp [ints, hkl]) ?_ | refine vops_load tyOk rfl rfl rfl (sees_at 3 rfl rfl) ?_ | refine vops_loadN tyOk (ints k) rfl rfl rfl (by rw [ints_length, hkl]) (sees_ints 0 rfl) ?_ | (apply vops_callp ent81 rfl; (intro w _; exact c_IsRound _ _ hkl w)))
    refine bs_ndec2 (fun h5 => ?_) (fun h5 => ?_)
    · repeat (first | refine vops_q tyOk rfl ?_ | refine vops_nil ?_ | refine vw_seq ?_ | refine vw_region (by kernel_rfl) ?_ | refine vops_guardT rfl rfl ?_ | refine vops_guardF rfl rfl ?_ | refine vops_guardU rfl rfl ?_ | with_reducible refine bs_true ?_ | with_reducible refine bs_false ?_ | with_reducible refine bs_ntrue ?_ | with_reducible refine bs_nfalse ?_ | refine vops_p tyOk rfl (by (try simp only [inR]); omega) ?_ | refine vw_cond rfl ?_ | refine vw_skip ?_ | refine vw_block ?_ | refine vw_ret ?_ | refine vw_exit ?_)
      refine rv_bool rfl rfl ?_
      obtain ⟨i, hi⟩ := List.mem_iff_getElem?.1 hkm
      exact (decide_eq_false fun h' => h5 (h'.2.2.2 i k hi)).symm
    refine vw_drop (own' := [(bi, ⟨[], 0, 0, some (itObj bm (tally rs) (seen.push j))⟩), (bm, ⟨[], 0, 0, some (mapObj (tally rs))⟩), (b0, ⟨[.int .i64 n, .slice a rs.length cap], 39, 2, none⟩)]) (List.Sublist.cons _ (List.Sublist.refl _)) ?_
    repeat (first | refine vops_q tyOk rfl ?_ | refine vops_nil ?_ | refine vw_seq ?_ | refine vw_region (by kernel_rfl) ?_ | refine vops_guardT rfl rfl ?_ | refine vops_guardF rfl rfl ?_ | refine vops_guardU rfl rfl ?_ | with_reducible refine bs_true ?_ | with_reducible refine bs_false ?_ | with_reducible refine bs_ntrue ?_ | with_reducible refine bs_nfalse ?_ | refine vops_p tyOk rfl (by (try simp only [inR]); omega) ?_ | refine vw_cond rfl ?_ | refine vw_skip ?_ | refine vw_block ?_ | refine vw_ret ?_ | refine vw_exit ?_)
    refine ⟨_, ?_, seen.push j, rfl, rfl, rfl, rfl, fun i q c' hi hc => ?_⟩
    · refine filter_lt _ _ (fun x hx => ?_) j (by show (!seen.contains j) = true; rw [hjs]; rfl) (by show (!(seen.push j).contains j) = false; rw [contains_push]; simp) _ (List.mem_range.2 (List.getElem?_eq_some_iff.1 hj).1)
      simp only [contains_push, Bool.not_or, Bool.and_eq_true] at hx
      exact hx.1
    · rw [contains_push] at hc
      by_cases hij : i = j
      · subst hij
        have := Option.some.inj (hi.symm.trans hj)
        cases this
        exact h5
      · refine hall i q c' hi ?_
        simpa [hij] using hc
end Go.Proofs.Ytabccmngdhgdfaa
