import Derived.Test.YtabccmngdhgdfaaJ
import Derived.Test.YtabccmngdhgdfaaVLTally
import Derived.Test.YtabccmngdhgdfaaVLArr
/- A part of the proof: K. No conditions of its own. -/
namespace Go.Proofs.Ytabccmngdhgdfaa
open Go.VL
attribute [local irreducible] VWr VOps VD

theorem zero2 : (Try.prog.info? 2).bind (·.zero) = some (.int .i64 0) := by kernel_rfl
theorem mapT : Try.prog.underlying 137 = some (.map 25 2) := by kernel_rfl
/-- A map that tells how often each round is there. -/
def NewTally (rs : List (List Int)) (v : Value) (new : Own) : Prop := ∃ b, v = .map (some b) ∧ new = [(b, ⟨[], 0, 0, some (mapObj (tally rs))⟩)]
set_option maxRecDepth 100000 in
theorem c_timesOfRounds (v : Value) (rs : List (List Int)) (w : World) (hv : RdS w v rs) (hr : ∀ r ∈ rs, r.length = 14) (hl : rs.length ≤ 1048576) :
    Calls Try.prog 142 [v].toArray w (Res w (NewTally rs)) := by
  obtain ⟨a, cap, rfl⟩ := hv.len
  refine calls_of_vw Try.func142 rfl Try.ntmps142 (by simp) ?_
  repeat (first | refine vops_q tyOk rfl ?_ | refine vops_nil ?_ | refine vw_seq ?_ | refine vw_region (by kernel_rfl) ?_ | refine vops_guardT rfl rfl ?_ | refine vops_guardF rfl rfl ?_ | refine vops_guardU rfl rfl ?_ | with_reducible refine bs_true ?_ | with_reducible refine bs_false ?_ | with_reducible refine bs_ntrue ?_ | with_reducible refine bs_nfalse ?_ | refine vops_p tyOk rfl (by (try simp only [inR]); omega) ?_ | refine vw_cond rfl ?_ | refine vw_skip ?_ | refine vw_block ?_ | refine vw_ret ?_ | refine vw_exit ?_)
  refine vops_makeMap (fun bm hbm => ?_)
  repeat (first | refine vops_q tyOk rfl ?_ | refine vops_nil ?_ | refine vw_seq ?_ | refine vw_region (by kernel_rfl) ?_ | refine vops_guardT rfl rfl ?_ | refine vops_guardF rfl rfl ?_ | refine vops_guardU rfl rfl ?_ | with_reducible refine bs_true ?_ | with_reducible refine bs_false ?_ | with_reducible refine bs_ntrue ?_ | with_reducible refine bs_nfalse ?_ | refine vops_p tyOk rfl (by (try simp only [inR]); omega) ?_ | refine vw_cond rfl ?_ | refine vw_skip ?_ | refine vw_block ?_ | refine vw_ret ?_ | refine vw_exit ?_)
  refine vw_loop (fun m f own => ∃ i : Nat, i ≤ rs.length ∧ m = rs.length - i ∧ f 9 = .int .i64 i ∧ f 7 = .slice a rs.length cap ∧ f 8 = .int .i64 rs.length ∧ f 3 = .map (some bm) ∧ own = [(bm, ⟨[], 0, 0, some (mapObj (tally (rs.take i)))⟩)]) rs.length
    ⟨0, by omega, by omega, rfl, rfl, rfl, rfl, rfl⟩ ?_
  rintro m f own ⟨i, hi, rfl, h9, h7, h8, h3, rfl⟩
  rw [upd_of h3, upd_of h7, upd_of h8, upd_of h9]
  repeat (first | refine vops_q tyOk rfl ?_ | refine vops_nil ?_ | refine vw_seq ?_ | refine vw_region (by kernel_rfl) ?_ | refine vops_guardT rfl rfl ?_ | refine vops_guardF rfl rfl ?_ | refine vops_guardU rfl rfl ?_ | with_reducible refine bs_true ?_ | with_reducible refine bs_false ?_ | with_reducible refine bs_ntrue ?_ | with_reducible refine bs_nfalse ?_ | refine vops_p tyOk rfl (by (try simp only [inR]); omega) ?_ | refine vw_cond rfl ?_ | refine vw_skip ?_ | refine vw_block ?_ | refine vw_ret ?_ | refine vw_exit ?_)
  refine bs_dec (fun h5 => ?_) (fun h5 => ?_)
  · obtain ⟨r, hri⟩ : ∃ r, rs[i]? = some r := ⟨_, List.getElem?_eq_getElem (by omega)⟩
    have hrl := hr r (List.mem_of_getElem? hri)
    obtain ⟨b', o, cap', he, hrow⟩ := hv.row hr hri
    cases he
    repeat (first | refine vops_q tyOk rfl ?_ | refine vops_nil ?_ | refine vw_seq ?_ | refine vw_region (by kernel_rfl) ?_ | refine vops_guardT rfl rfl ?_ | refine vops_guardF rfl rfl ?_ | refine vops_guardU rfl rfl ?_ | with_reducible refine bs_true ?_ | with_reducible refine bs_false ?_ | with_reducible refine bs_ntrue ?_ | with_reducible refine bs_nfalse ?_ | refine vops_p tyOk rfl (by (try simp only [inR]); omega) ?_ | refine vw_cond rfl ?_ | refine vw_skip ?_ | refine vw_block ?_ | refine vw_ret ?_ | refine vw_exit ?_ | refine vops_loadN tyOk (ints r) rfl rfl rfl (by rw [ints_length, hrl]) (fun j x hx => sees_old (hrow j x hx) (by simp)) ?_)
    refine vops_allocZ (ints (List.replicate 14 0)) tyOk rfl rfl (by simp [ints]) (fun b5 hb5 => ?_)
    repeat (first | refine vops_q tyOk rfl ?_ | refine vops_nil ?_ | refine vw_seq ?_ | refine vw_region (by kernel_rfl) ?_ | refine vops_guardT rfl rfl ?_ | refine vops_guardF rfl rfl ?_ | refine vops_guardU rfl rfl ?_ | with_reducible refine bs_true ?_ | with_reducible refine bs_false ?_ | with_reducible refine bs_ntrue ?_ | with_reducible refine bs_nfalse ?_ | refine vops_p tyOk rfl (by (try simp only [inR]); omega) ?_ | refine vw_cond rfl ?_ | refine vw_skip ?_ | refine vw_block ?_ | refine vw_ret ?_ | refine vw_exit ?_ | refine vops_storeA (cs := ints r) tyOk 0 rfl (by rw [ints_length, hrl]) rfl rfl ints_one rfl (by simp [ints, hrl]) ?_)
    have hk : ∀ p ∈ tally (rs.take i), p.1.length = 14 := fun p hp => hr _ (List.mem_of_mem_take (tally_keys hp).1)
    have hk2 : ∀ p ∈ (tally (rs.take i)).laid r, p.1.length = 14 := fun p hp => by
      rcases mem_laid hp with h | h
      · exact hk p h
      · rw [h]; exact hrl
    have hg : 0 ≤ (tally (rs.take i)).get r ∧ (tally (rs.take i)).get r ≤ 1048576 := by
      rcases get_mem (es := tally (rs.take i)) (k := r) with h | h
      · omega
      · have h1 := tally_keys h
        have h2 : (rs.take i).length ≤ rs.length := by rw [List.length_take]; omega
        simp only at h1; omega
    have htk : tally (rs.take (i + 1)) = incr (tally (rs.take i)) r := by rw [List.take_add_one, hri]; exact tally_snoc _ _
    have hg2 : 0 ≤ ((tally (rs.take i)).laid r).get r ∧ ((tally (rs.take i)).laid r).get r ≤ 1048576 := by rw [laid_get]; exact hg
    refine vw_draw [0, 1, 2, 3, 4, 5, 6] (by kernel_rfl) (by kernel_rfl) (by kernel_rfl) rfl ?_
    refine vd_q tyOk rfl (by first | trivial | rfl) rfl (by kernel_rfl) (by kernel_rfl) ?_
    refine vd_loadN tyOk (ints (r)) rfl (by first | trivial | rfl) rfl rfl rfl (by simp [ints_length, *]) (by kernel_rfl) (by kernel_rfl) (by kernel_rfl) (sees_ints 0 rfl) (by first | exact sub_refl | exact sub_cons sub_refl | exact sub_app sub_refl) ?_
    refine vd_two (j := 4) [3, 4, 5, 6] [5, 2, 3, 6] rfl rfl (by kernel_rfl) rfl rfl rfl rfl ?_ ?_
    · refine vops_lookup 1 tyOk mapT rfl rfl zero2 rfl rfl hrl hk rfl ?_
      repeat' (first | refine vd_q tyOk rfl (by first | trivial | rfl) rfl (by kernel_rfl) (by kernel_rfl) ?_ | refine vd_p tyOk rfl (by first | trivial | rfl) rfl (by kernel_rfl) (by kernel_rfl) (by (try simp only [inR]); omega) ?_ | refine vd_skipT rfl rfl (by kernel_rfl) (by kernel_rfl) ?_ | refine vd_skipF rfl rfl (by kernel_rfl) (by kernel_rfl) ?_ | refine vd_skipU rfl rfl (by kernel_rfl) (by kernel_rfl) ?_ | refine vops_nil ?_ | refine vd_nil (by kernel_rfl) ?_ | refine ⟨fun _ _ _ h => h, ?_⟩ | refine ⟨fun _ _ _ h => List.mem_cons_of_mem _ h, ?_⟩ | refine ⟨fun _ _ _ h => List.mem_append_right _ h, ?_⟩ | refine vops_q tyOk rfl ?_ | refine vops_mapEntry 1 tyOk mapT rfl rfl zero2 rfl rfl hrl hk rfl ?_ | refine vops_entryStore (k := r) 1 rfl rfl rfl (laid_at _ _) rfl ?_ | refine ⟨fun h => Bool.noConfusion (show false = true from h), ?_⟩ | refine vd_one rfl (by kernel_rfl) (by kernel_rfl) rfl ?_ | refine vd_oneG rfl (by kernel_rfl) (by kernel_rfl) rfl ?_ | (refine vd_gsplit rfl rfl rfl ?_; fail_if_success with_reducible (first | refine bs_true ?_ | refine bs_false ?_); with_reducible refine bs_dec (fun _ => ?_) (fun _ => ?_)) <;> try (exfalso; omega) | (refine vd_gsplit rfl rfl rfl ?_; fail_if_success with_reducible (first | refine bs_true ?_ | refine bs_false ?_); with_reducible refine bs_ndec (fun _ => ?_) (fun _ => ?_)) <;> try (exfalso; omega) | (refine vd_gsplit rfl rfl rfl ?_; fail_if_success with_reducible (first | refine bs_true ?_ | refine bs_false ?_); with_reducible refine bs_nany (fun _ => ?_) (fun _ => ?_)) <;> try (exfalso; omega) | (refine vd_gsplit rfl rfl rfl ?_; fail_if_success with_reducible (first | refine bs_true ?_ | refine bs_false ?_); with_reducible refine bs_any (fun _ => ?_) (fun _ => ?_)) <;> try (exfalso; omega))
      refine vw_drop (own' := [(bm, ⟨[], 0, 0, some (mapObj (incr (tally (rs.take i)) r))⟩)]) (List.Sublist.cons _ (List.Sublist.refl _)) ?_
      repeat (first | refine vops_q tyOk rfl ?_ | refine vops_nil ?_ | refine vw_seq ?_ | refine vw_region (by kernel_rfl) ?_ | refine vops_guardT rfl rfl ?_ | refine vops_guardF rfl rfl ?_ | refine vops_guardU rfl rfl ?_ | with_reducible refine bs_true ?_ | with_reducible refine bs_false ?_ | with_reducible refine bs_ntrue ?_ | with_reducible refine bs_nfalse ?_ | refine vops_p tyOk rfl (by (try simp only [inR]); omega) ?_ | refine vw_cond rfl ?_ | refine vw_skip ?_ | refine vw_block ?_ | refine vw_ret ?_ | refine vw_exit ?_)
      refine ⟨rs.length - (i + 1), by omega, i + 1, by omega, rfl, rfl, rfl, rfl, rfl, ?_⟩
      rw [htk]
    · refine vops_mapEntry 1 tyOk mapT rfl rfl zero2 rfl rfl hrl hk rfl ?_
      repeat' (first | refine vd_q tyOk rfl (by first | trivial | rfl) rfl (by kernel_rfl) (by kernel_rfl) ?_ | refine vd_p tyOk rfl (by first | trivial | rfl) rfl (by kernel_rfl) (by kernel_rfl) (by (try simp only [inR]); omega) ?_ | refine vd_skipT rfl rfl (by kernel_rfl) (by kernel_rfl) ?_ | refine vd_skipF rfl rfl (by kernel_rfl) (by kernel_rfl) ?_ | refine vd_skipU rfl rfl (by kernel_rfl) (by kernel_rfl) ?_ | refine vops_nil ?_ | refine vd_nil (by kernel_rfl) ?_ | refine ⟨fun _ _ _ h => h, ?_⟩ | refine ⟨fun _ _ _ h => List.mem_cons_of_mem _ h, ?_⟩ | refine ⟨fun _ _ _ h => List.mem_append_right _ h, ?_⟩ | refine vops_q tyOk rfl ?_ | refine vops_lookup 1 tyOk mapT rfl rfl zero2 rfl rfl hrl hk2 rfl ?_ | refine vops_entryStore (k := r) 1 rfl rfl rfl (laid_at _ _) rfl ?_ | refine ⟨fun h => Bool.noConfusion (show false = true from h), ?_⟩ | refine vd_one rfl (by kernel_rfl) (by kernel_rfl) rfl ?_ | refine vd_oneG rfl (by kernel_rfl) (by kernel_rfl) rfl ?_ | (refine vd_gsplit rfl rfl rfl ?_; fail_if_success with_reducible (first | refine bs_true ?_ | refine bs_false ?_); with_reducible refine bs_dec (fun _ => ?_) (fun _ => ?_)) <;> try (exfalso; omega) | (refine vd_gsplit rfl rfl rfl ?_; fail_if_success with_reducible (first | refine bs_true ?_ | refine bs_false ?_); with_reducible refine bs_ndec (fun _ => ?_) (fun _ => ?_)) <;> try (exfalso; omega) | (refine vd_gsplit rfl rfl rfl ?_; fail_if_success with_reducible (first | refine bs_true ?_ | refine bs_false ?_); with_reducible refine bs_nany (fun _ => ?_) (fun _ => ?_)) <;> try (exfalso; omega) | (refine vd_gsplit rfl rfl rfl ?_; fail_if_success with_reducible (first | refine bs_true ?_ | refine bs_false ?_); with_reducible refine bs_any (fun _ => ?_) (fun _ => ?_)) <;> try (exfalso; omega))
      rw [laid_get]
      refine vw_drop (own' := [(bm, ⟨[], 0, 0, some (mapObj (incr (tally (rs.take i)) r))⟩)]) (List.Sublist.cons _ (List.Sublist.refl _)) ?_
      repeat (first | refine vops_q tyOk rfl ?_ | refine vops_nil ?_ | refine vw_seq ?_ | refine vw_region (by kernel_rfl) ?_ | refine vops_guardT rfl rfl ?_ | refine vops_guardF rfl rfl ?_ | refine vops_guardU rfl rfl ?_ | with_reducible refine bs_true ?_ | with_reducible refine bs_false ?_ | with_reducible refine bs_ntrue ?_ | with_reducible refine bs_nfalse ?_ | refine vops_p tyOk rfl (by (try simp only [inR]); omega) ?_ | refine vw_cond rfl ?_ | refine vw_skip ?_ | refine vw_block ?_ | refine vw_ret ?_ | refine vw_exit ?_)
      refine ⟨rs.length - (i + 1), by omega, i + 1, by omega, rfl, rfl, rfl, rfl, rfl, ?_⟩
      rw [htk]
  · obtain rfl : i = rs.length := by omega
    repeat (first | refine vops_q tyOk rfl ?_ | refine vops_nil ?_ | refine vw_seq ?_ | refine vw_region (by kernel_rfl) ?_ | refine vops_guardT rfl rfl ?_ | refine vops_guardF rfl rfl ?_ | refine vops_guardU rfl rfl ?_ | with_reducible refine bs_true ?_ | with_reducible refine bs_false ?_ | with_reducible refine bs_ntrue ?_ | with_reducible refine bs_nfalse ?_ | refine vops_p tyOk rfl (by (try simp only [inR]); omega) ?_ | refine vw_cond rfl ?_ | refine vw_skip ?_ | refine vw_block ?_ | refine vw_ret ?_ | refine vw_exit ?_)
    refine ⟨_, [(bm, ⟨[], 0, 0, some (mapObj (tally rs))⟩)], rv_tmp rfl rfl, by simp [ids], ?_, bm, rfl, rfl⟩
    rw [List.take_length]; exact fun p hp => hp
end Go.Proofs.Ytabccmngdhgdfaa
