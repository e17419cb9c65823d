import Derived.Test.YtabccmngdhgdfaaE
import Derived.Test.YtabccmngdhgdfaaVLDraw
import Derived.Test.YtabccmngdhgdfaaVLArr
/- A part of the proof: F. No conditions of its own. -/
namespace Go.Proofs.Ytabccmngdhgdfaa
open Go.VL
attribute [local irreducible] VWr VOps VD

/-- What impl.IsRound makes of r: the opponents' opponents, as far as the place k. -/
def backTo (r : List Int) (k : Int) : List Int := (List.range 14).map fun (a : Nat) => if (a : Int) < k then r.getD (r.getD a 0).toNat 0 else r.getD a 0
theorem backTo_length (r : List Int) (k : Int) : (backTo r k).length = 14 := by simp [backTo]
theorem backTo_get (r : List Int) (k : Int) (j : Nat) (h : j < 14) : (backTo r k).getD j 0 = if (j : Int) < k then r.getD (r.getD j 0).toNat 0 else r.getD j 0 := by
  simp [backTo, h]
theorem backTo_set {r : List Int} {k : Int} (h0 : 0 ≤ k) (h1 : k < 14) : (backTo r k).set k.toNat (r.getD (r.getD k.toNat 0).toNat 0) = backTo r (k + 1) := by
  apply List.ext_getElem (by simp [backTo])
  intro j h2 h3
  have hj : j < 14 := by simpa [backTo] using h3
  rw [List.getElem_set]
  simp only [backTo, List.getElem_map, List.getElem_range]
  split
  · rename_i hh; subst hh; rw [if_pos (by omega)]
  · rename_i hh
    by_cases hk : (j : Int) < k
    · rw [if_pos hk, if_pos (by omega)]
    · rw [if_neg hk, if_neg (by omega)]
theorem backTo_zero {r : List Int} (hr : r.length = 14) : backTo r 0 = r := by
  apply List.ext_getElem (by simp [backTo, hr])
  intro j h2 h3
  simp only [backTo, List.getElem_map, List.getElem_range]
  rw [if_neg (by omega)]
  simp [h3]
theorem list_eq14 {r q : List Int} (hr : r.length = 14) (hq : q.length = 14) : r = q ↔ ∀ j, j < 14 → r.getD j 0 = q.getD j 0 := by
  constructor
  · rintro rfl j _; rfl
  · intro h
    apply List.ext_getElem (by omega)
    intro i h1 h2
    have := h i (by omega)
    simpa [List.getD_eq_getElem?_getD, h1, h2] using this
theorem back_free {n : Int} {r : List Int} (h2 : 2 ≤ n) (h14 : n ≤ 14) (hin : ∀ j : Nat, (j : Int) < n → 0 ≤ r.getD j 0 ∧ r.getD j 0 < n) : (backTo r n = freeTo n) ↔ IsRd n r := by
  rw [list_eq14 (backTo_length r n) (freeTo_length n)]
  constructor
  · intro h
    refine ⟨h2, h14, fun a ha => ?_⟩
    have := h a ha
    rw [backTo_get r n a ha, freeTo_get n a ha] at this
    refine ⟨fun hna => ?_, fun hna => ?_⟩
    · rw [if_neg (by omega), if_neg (by omega)] at this; exact this
    · rw [if_pos hna, if_pos hna] at this
      have := hin a hna
      exact ⟨by omega, by omega, by assumption⟩
  · intro h j hj
    rw [backTo_get r n j hj, freeTo_get n j hj]
    have h3 := h.2.2 j hj
    unfold RdAt at h3
    split
    · rename_i hlt; exact (h3.2 hlt).2.2
    · rename_i hlt; exact h3.1 (by omega)

set_option maxRecDepth 100000 in
theorem c_IsRound (n : Int) (r : List Int) (hr : r.length = 14) (w : World) : Calls Try.prog 81 [Value.int .i64 n, .agg (ints r).toArray].toArray w (Res w (Is (.bool (decide (IsRd n r))))) := by
  refine calls_of_vw Try.func81 rfl Try.ntmps81 (by simp) ?_
  refine vw_seq (vw_region (by kernel_rfl) (vops_box (ints r) rfl (fun b0 hb0 => ?_)))
  repeat (first | refine vops_q tyOk rfl ?_ | refine vops_nil ?_ | refine vw_seq ?_ | refine vw_region (by kernel_rfl) ?_ | refine vops_guardT rfl rfl ?_ | refine vops_guardF rfl rfl ?_ | refine vops_guardU rfl rfl ?_ | with_reducible refine bs_true ?_ | with_reducible refine bs_false ?_ | with_reducible refine bs_ntrue ?_ | with_reducible refine bs_nfalse ?_ | refine vops_p tyOk rfl (by (try simp only [inR]); omega) ?_ | refine vw_cond rfl ?_ | refine vw_skip ?_ | refine vw_block ?_ | refine vw_ret ?_ | refine vw_exit ?_ | (apply vops_callp ent119 rfl; (intro w _; exact c_isTeamCount _ w)))
  refine bs_ndec2 (fun h => ?_) (fun h => ?_)
  · repeat (first | refine vops_q tyOk rfl ?_ | refine vops_nil ?_ | refine vw_seq ?_ | refine vw_region (by kernel_rfl) ?_ | refine vops_guardT rfl rfl ?_ | refine vops_guardF rfl rfl ?_ | refine vops_guardU rfl rfl ?_ | with_reducible refine bs_true ?_ | with_reducible refine bs_false ?_ | with_reducible refine bs_ntrue ?_ | with_reducible refine bs_nfalse ?_ | refine vops_p tyOk rfl (by (try simp only [inR]); omega) ?_ | refine vw_cond rfl ?_ | refine vw_skip ?_ | refine vw_block ?_ | refine vw_ret ?_ | refine vw_exit ?_)
    exact rv_bool rfl rfl (decide_eq_false fun h' => h ⟨h'.1, h'.2.1⟩).symm
  repeat (first | refine vops_q tyOk rfl ?_ | refine vops_nil ?_ | refine vw_seq ?_ | refine vw_region (by kernel_rfl) ?_ | refine vops_guardT rfl rfl ?_ | refine vops_guardF rfl rfl ?_ | refine vops_guardU rfl rfl ?_ | with_reducible refine bs_true ?_ | with_reducible refine bs_false ?_ | with_reducible refine bs_ntrue ?_ | with_reducible refine bs_nfalse ?_ | refine vops_p tyOk rfl (by (try simp only [inR]); omega) ?_ | refine vw_cond rfl ?_ | refine vw_skip ?_ | refine vw_block ?_ | refine vw_ret ?_ | refine vw_exit ?_)
  refine vw_loop (fun m f own => ∃ a : Int, 0 ≤ a ∧ a ≤ n ∧ m = (n - a).toNat ∧ f 11 = .int .i64 n ∧ f 12 = .int .i64 a ∧ f 0 = .int .i64 n ∧ f 3 = .pointer (some ⟨b0, 0, none⟩) ∧ own = [(b0, ⟨ints r, 25, 14, none⟩)] ∧ ∀ j : Nat, (j : Int) < a → 0 ≤ r.getD j 0 ∧ r.getD j 0 < n) n.toNat
    ⟨0, by omega, by omega, by omega, rfl, rfl, rfl, rfl, by rw [ints_length r, hr], fun j hj => by omega⟩ ?_
  rintro m f own ⟨a, ha0, ha1, rfl, h5, h6, h7, h8, rfl, hall⟩
  rw [upd_of h5, upd_of h6, upd_of h7, upd_of h8]
  repeat (first | refine vops_q tyOk rfl ?_ | refine vops_nil ?_ | refine vw_seq ?_ | refine vw_region (by kernel_rfl) ?_ | refine vops_guardT rfl rfl ?_ | refine vops_guardF rfl rfl ?_ | refine vops_guardU rfl rfl ?_ | with_reducible refine bs_true ?_ | with_reducible refine bs_false ?_ | with_reducible refine bs_ntrue ?_ | with_reducible refine bs_nfalse ?_ | refine vops_p tyOk rfl (by (try simp only [inR]); omega) ?_ | refine vw_cond rfl ?_ | refine vw_skip ?_ | refine vw_block ?_ | refine vw_ret ?_ | refine vw_exit ?_)
  refine bs_dec (fun hlt => ?_) (fun hge => ?_)
  · repeat (first | refine vops_q tyOk rfl ?_ | refine vops_nil ?_ | refine vw_seq ?_ | refine vw_region (by kernel_rfl) ?_ | refine vops_guardT rfl rfl ?_ | refine vops_guardF rfl rfl ?_ | refine vops_guardU rfl rfl ?_ | with_reducible refine bs_true ?_ | with_reducible refine bs_false ?_ | with_reducible refine bs_ntrue ?_ | with_reducible refine bs_nfalse ?_ | refine vops_p tyOk rfl (by (try simp only [inR]); omega) ?_ | refine vw_cond rfl ?_ | refine vw_skip ?_ | refine vw_block ?_ | refine vw_ret ?_ | refine vw_exit ?_ | refine vops_load tyOk rfl rfl rfl (sees_at 0 rfl (ints_get0 (by omega))) ?_ | (apply vops_callp ent87 rfl; (intro w _; exact c_isBelow _ _ w)))
    refine bs_ndec2 (fun h => ?_) (fun h => ?_)
    · repeat (first | refine vops_q tyOk rfl ?_ | refine vops_nil ?_ | refine vw_seq ?_ | refine vw_region (by kernel_rfl) ?_ | refine vops_guardT rfl rfl ?_ | refine vops_guardF rfl rfl ?_ | refine vops_guardU rfl rfl ?_ | with_reducible refine bs_true ?_ | with_reducible refine bs_false ?_ | with_reducible refine bs_ntrue ?_ | with_reducible refine bs_nfalse ?_ | refine vops_p tyOk rfl (by (try simp only [inR]); omega) ?_ | refine vw_cond rfl ?_ | refine vw_skip ?_ | refine vw_block ?_ | refine vw_ret ?_ | refine vw_exit ?_)
      refine rv_bool rfl rfl (decide_eq_false fun h' => ?_).symm
      have h2 := h'.2.2 a.toNat (by omega)
      unfold RdAt at h2
      omega
    · repeat (first | refine vops_q tyOk rfl ?_ | refine vops_nil ?_ | refine vw_seq ?_ | refine vw_region (by kernel_rfl) ?_ | refine vops_guardT rfl rfl ?_ | refine vops_guardF rfl rfl ?_ | refine vops_guardU rfl rfl ?_ | with_reducible refine bs_true ?_ | with_reducible refine bs_false ?_ | with_reducible refine bs_ntrue ?_ | with_reducible refine bs_nfalse ?_ | refine vops_p tyOk rfl (by (try simp only [inR]); omega) ?_ | refine vw_cond rfl ?_ | refine vw_skip ?_ | refine vw_block ?_ | refine vw_ret ?_ | refine vw_exit ?_)
      exact ⟨(n - (a + 1)).toNat, by omega, a + 1, by omega, by omega, rfl, rfl, rfl, rfl, rfl, rfl, all_step ha0 hall (by omega)⟩
  · obtain rfl : a = n := by omega
    repeat (first | refine vops_q tyOk rfl ?_ | refine vops_nil ?_ | refine vw_seq ?_ | refine vw_region (by kernel_rfl) ?_ | refine vops_guardT rfl rfl ?_ | refine vops_guardF rfl rfl ?_ | refine vops_guardU rfl rfl ?_ | with_reducible refine bs_true ?_ | with_reducible refine bs_false ?_ | with_reducible refine bs_ntrue ?_ | with_reducible refine bs_nfalse ?_ | refine vops_p tyOk rfl (by (try simp only [inR]); omega) ?_ | refine vw_cond rfl ?_ | refine vw_skip ?_ | refine vw_block ?_ | refine vw_ret ?_ | refine vw_exit ?_ | refine vops_loadN tyOk (ints r) rfl rfl rfl (by rw [ints_length, hr]) (sees_ints 0 rfl) ?_)
    refine vops_allocZ (ints (List.replicate 14 0)) tyOk rfl rfl (by simp [ints]) (fun b1 hb1 => ?_)
    repeat (first | refine vops_q tyOk rfl ?_ | refine vops_nil ?_ | refine vw_seq ?_ | refine vw_region (by kernel_rfl) ?_ | refine vops_guardT rfl rfl ?_ | refine vops_guardF rfl rfl ?_ | refine vops_guardU rfl rfl ?_ | with_reducible refine bs_true ?_ | with_reducible refine bs_false ?_ | with_reducible refine bs_ntrue ?_ | with_reducible refine bs_nfalse ?_ | refine vops_p tyOk rfl (by (try simp only [inR]); omega) ?_ | refine vw_cond rfl ?_ | refine vw_skip ?_ | refine vw_block ?_ | refine vw_ret ?_ | refine vw_exit ?_ | refine vops_storeA tyOk 0 rfl (by rw [ints_length, hr]) rfl rfl ints_one rfl (by rw [ints_length r, hr]; rfl) ?_)
    refine vw_loop (fun m f own => ∃ k : Int, 0 ≤ k ∧ k ≤ a ∧ m = (a - k).toNat ∧ f 23 = .int .i64 a ∧ f 24 = .int .i64 k ∧ f 0 = .int .i64 a ∧ f 3 = .pointer (some ⟨b0, 0, none⟩) ∧ f 6 = .pointer (some ⟨b1, 0, none⟩) ∧ own = [(b1, ⟨ints (backTo r k), 25, 14, none⟩), (b0, ⟨ints r, 25, 14, none⟩)]) a.toNat
      ⟨0, by omega, by omega, by omega, rfl, rfl, rfl, rfl, rfl, by rw [backTo_zero hr]; rfl⟩ ?_
    rintro m f own ⟨k, hk0, hk1, rfl, h5, h6, h7, h8, h9, rfl⟩
    rw [upd_of h5, upd_of h6, upd_of h7, upd_of h8, upd_of h9]
    repeat (first | refine vops_q tyOk rfl ?_ | refine vops_nil ?_ | refine vw_seq ?_ | refine vw_region (by kernel_rfl) ?_ | refine vops_guardT rfl rfl ?_ | refine vops_guardF rfl rfl ?_ | refine vops_guardU rfl rfl ?_ | with_reducible refine bs_true ?_ | with_reducible refine bs_false ?_ | with_reducible refine bs_ntrue ?_ | with_reducible refine bs_nfalse ?_ | refine vops_p tyOk rfl (by (try simp only [inR]); omega) ?_ | refine vw_cond rfl ?_ | refine vw_skip ?_ | refine vw_block ?_ | refine vw_ret ?_ | refine vw_exit ?_)
    refine bs_dec (fun hlt => ?_) (fun hge => ?_)
    · have hl := backTo_length r k
      have hb := hall k.toNat (by omega)
      repeat (first | refine vops_q tyOk rfl ?_ | refine vops_nil ?_ | refine vw_seq ?_ | refine vw_region (by kernel_rfl) ?_ | refine vops_guardT rfl rfl ?_ | refine vops_guardF rfl rfl ?_ | refine vops_guardU rfl rfl ?_ | with_reducible refine bs_true ?_ | with_reducible refine bs_false ?_ | with_reducible refine bs_ntrue ?_ | with_reducible refine bs_nfalse ?_ | refine vops_p tyOk rfl (by (try simp only [inR]); omega) ?_ | refine vw_cond rfl ?_ | refine vw_skip ?_ | refine vw_block ?_ | refine vw_ret ?_ | refine vw_exit ?_ | refine vops_load tyOk rfl rfl rfl (sees_at 1 rfl (ints_get0 (by omega))) ?_ | refine vops_storeI 0 tyOk rfl rfl rfl rfl rfl (by omega) ?_)
      exact ⟨(a - (k + 1)).toNat, by omega, k + 1, by omega, by omega, rfl, rfl, rfl, rfl, rfl, rfl, by rw [← backTo_set hk0 (by omega)]; rfl⟩
    · obtain rfl : k = a := by omega
      have hl := backTo_length r k
      have hl2 := freeTo_length k
      repeat (first | refine vops_q tyOk rfl ?_ | refine vops_nil ?_ | refine vw_seq ?_ | refine vw_region (by kernel_rfl) ?_ | refine vops_guardT rfl rfl ?_ | refine vops_guardF rfl rfl ?_ | refine vops_guardU rfl rfl ?_ | with_reducible refine bs_true ?_ | with_reducible refine bs_false ?_ | with_reducible refine bs_ntrue ?_ | with_reducible refine bs_nfalse ?_ | refine vops_p tyOk rfl (by (try simp only [inR]); omega) ?_ | refine vw_cond rfl ?_ | refine vw_skip ?_ | refine vw_block ?_ | refine vw_ret ?_ | refine vw_exit ?_)
      refine vw_draw [0, 1, 2, 3, 4] (by kernel_rfl) (by kernel_rfl) (by kernel_rfl) rfl ?_
      repeat' (first | refine vd_q tyOk rfl (by first | trivial | rfl) rfl (by kernel_rfl) (by kernel_rfl) ?_ | refine vd_p tyOk rfl (by first | trivial | rfl) rfl (by kernel_rfl) (by kernel_rfl) (by (try simp only [inR]); omega) ?_ | refine vd_skipT rfl rfl (by kernel_rfl) (by kernel_rfl) ?_ | refine vd_skipF rfl rfl (by kernel_rfl) (by kernel_rfl) ?_ | refine vd_skipU rfl rfl (by kernel_rfl) (by kernel_rfl) ?_ | refine vops_nil ?_ | refine vd_nil (by kernel_rfl) ?_ | refine ⟨fun _ _ _ h => h, ?_⟩ | refine ⟨fun _ _ _ h => List.mem_cons_of_mem _ h, ?_⟩ | refine ⟨fun _ _ _ h => List.mem_append_right _ h, ?_⟩ | refine vops_q tyOk rfl ?_ | refine vd_loadN tyOk (ints (backTo r k)) rfl (by first | trivial | rfl) rfl rfl rfl (by simp [ints_length, *]) (by kernel_rfl) (by kernel_rfl) (by kernel_rfl) (sees_ints 0 rfl) (by first | exact sub_refl | exact sub_cons sub_refl | exact sub_app sub_refl) ?_ | (apply vops_callp ent121 rfl; (intro w _; exact c_freeRound _ (by omega) (by omega) w)) | refine vd_eqA tyOk rfl (by first | trivial | rfl) rfl rfl rfl rfl rfl (by kernel_rfl) (by omega) (by omega) (by kernel_rfl) (by kernel_rfl) ?_ | refine vd_one rfl (by kernel_rfl) (by kernel_rfl) rfl ?_ | refine vd_oneG rfl (by kernel_rfl) (by kernel_rfl) rfl ?_ | (refine vd_gsplit rfl rfl rfl ?_; fail_if_success with_reducible (first | refine bs_true ?_ | refine bs_false ?_); with_reducible refine bs_dec (fun _ => ?_) (fun _ => ?_)) <;> try (exfalso; omega) | (refine vd_gsplit rfl rfl rfl ?_; fail_if_success with_reducible (first | refine bs_true ?_ | refine bs_false ?_); with_reducible refine bs_ndec (fun _ => ?_) (fun _ => ?_)) <;> try (exfalso; omega) | (refine vd_gsplit rfl rfl rfl ?_; fail_if_success with_reducible (first | refine bs_true ?_ | refine bs_false ?_); with_reducible refine bs_nany (fun _ => ?_) (fun _ => ?_)) <;> try (exfalso; omega) | (refine vd_gsplit rfl rfl rfl ?_; fail_if_success with_reducible (first | refine bs_true ?_ | refine bs_false ?_); with_reducible refine bs_any (fun _ => ?_) (fun _ => ?_)) <;> try (exfalso; omega))
      repeat (first | refine vops_q tyOk rfl ?_ | refine vops_nil ?_ | refine vw_seq ?_ | refine vw_region (by kernel_rfl) ?_ | refine vops_guardT rfl rfl ?_ | refine vops_guardF rfl rfl ?_ | refine vops_guardU rfl rfl ?_ | with_reducible refine bs_true ?_ | with_reducible refine bs_false ?_ | with_reducible refine bs_ntrue ?_ | with_reducible refine bs_nfalse ?_ | refine vops_p tyOk rfl (by (try simp only [inR]); omega) ?_ | refine vw_cond rfl ?_ | refine vw_skip ?_ | refine vw_block ?_ | refine vw_ret ?_ | refine vw_exit ?_)
      exact rv_bool rfl rfl (decide_eq_decide.2 (back_free h.1 h.2 hall))
end Go.Proofs.Ytabccmngdhgdfaa
