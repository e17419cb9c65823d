import Derived.Test.YtlfflmoegfibgaaTab
import Derived.Test.YtlfflmoegfibgaaVLA
import Derived.Test.YtlfflmoegfibgaaVLBA
import Derived.Test.YtlfflmoegfibgaaVLBC
import Derived.Test.YtlfflmoegfibgaaVLBB
import Derived.Test.YtlfflmoegfibgaaVLAlloc
import Derived.Test.YtlfflmoegfibgaaVLRows
/- Parts of the proof, one after another. No conditions of their own. -/
/- A part of the proof: A. No conditions of its own. -/
namespace Go.Proofs.Ytlfflmoegfibgaa
open Go.VL
attribute [local irreducible] VWr VOps

theorem c_l01In (n low high : Int) (w : World) : Calls Try.prog 134 [Value.int .i64 n, .int .i64 low, .int .i64 high].toArray w (Res w (Is (.bool (decide (low ≤ n ∧ n ≤ high))))) := by
  refine calls_of_vw Try.func134 rfl Try.ntmps134 (by simp) ?_
  repeat' (first | refine vops_q tyOk rfl ?_ | refine vops_nil ?_ | refine vw_seq ?_ | refine vw_region (by kernel_rfl) ?_ | refine vops_guardT rfl rfl ?_ | with_reducible refine bs_true ?_ | with_reducible refine bs_false ?_ | refine vw_ret ?_ | (with_reducible refine bs_dec (fun _ => ?_) (fun _ => ?_)) <;> try (exfalso; omega))
  all_goals (refine rv_bool rfl rfl ?_; simp; omega)
theorem c_isTeamCount (n : Int) (w : World) : Calls Try.prog 137 [Value.int .i64 n].toArray w (Res w (Is (.bool (decide (2 ≤ n ∧ n ≤ 14))))) := by
  refine calls_of_vw Try.func137 rfl Try.ntmps137 (by simp) ?_
  repeat' (first | refine vops_q tyOk rfl ?_ | refine vops_nil ?_ | refine vw_seq ?_ | refine vw_region (by kernel_rfl) ?_ | refine vops_guardT rfl rfl ?_ | with_reducible refine bs_true ?_ | with_reducible refine bs_false ?_ | refine vw_ret ?_ | (with_reducible refine bs_dec (fun _ => ?_) (fun _ => ?_)) <;> try (exfalso; omega))
  all_goals (refine rv_bool rfl rfl ?_; simp; omega)
theorem c_isBelow (a n : Int) (w : World) : Calls Try.prog 91 [Value.int .i64 a, .int .i64 n].toArray w (Res w (Is (.bool (decide (0 ≤ a ∧ a < n))))) := by
  refine calls_of_vw Try.func91 rfl Try.ntmps91 (by simp) ?_
  repeat' (first | refine vops_q tyOk rfl ?_ | refine vops_nil ?_ | refine vw_seq ?_ | refine vw_region (by kernel_rfl) ?_ | refine vops_guardT rfl rfl ?_ | with_reducible refine bs_true ?_ | with_reducible refine bs_false ?_ | refine vw_ret ?_ | (with_reducible refine bs_dec (fun _ => ?_) (fun _ => ?_)) <;> try (exfalso; omega))
  all_goals (refine rv_bool rfl rfl ?_; simp; omega)
end Go.Proofs.Ytlfflmoegfibgaa

/- A part of the proof: C. No conditions of its own. -/
namespace Go.Proofs.Ytlfflmoegfibgaa
open Go.VL
attribute [local irreducible] VWr VOps

/-- What a round asks of the place a. -/
def RdAt (n : Int) (r : List Int) (a : Nat) : Prop := (n ≤ a → r.getD a 0 = 0) ∧ ((a : Int) < n → 0 ≤ r.getD a 0 ∧ r.getD a 0 ≤ n - 1 ∧ r.getD (r.getD a 0).toNat 0 = a)
instance (n : Int) (r : List Int) (a : Nat) : Decidable (RdAt n r a) := by unfold RdAt; infer_instance
/-- A round of n teams. -/
def IsRd (n : Int) (r : List Int) : Prop := 2 ≤ n ∧ n ≤ 14 ∧ ∀ a, a < 14 → RdAt n r a
instance (n : Int) (r : List Int) : Decidable (IsRd n r) := by unfold IsRd; infer_instance

set_option maxRecDepth 100000 in
theorem c_l01Round (n : Int) (r : List Int) (hr : r.length = 14) (w : World) : Calls Try.prog 135 [Value.int .i64 n, .agg (ints r).toArray].toArray w (Res w (Is (.bool (decide (IsRd n r))))) := by
  refine calls_of_vw Try.func135 rfl Try.ntmps135 (by simp) ?_
  refine vw_seq (vw_region (by kernel_rfl) ?_)
  refine vops_box (ints r) rfl (fun b hb => ?_)
  repeat (first | refine vops_q tyOk rfl ?_ | refine vops_nil ?_ | refine vw_seq ?_ | refine vw_region (by kernel_rfl) ?_)
  refine vops_callp ent134 rfl (fun w _ => c_l01In n 2 14 w) ?_
  repeat (first | refine vops_q tyOk rfl ?_ | refine vops_nil ?_ | refine vw_cond rfl ?_)
  refine bs_ndec2 (fun h => ?_) (fun h => ?_)
  · repeat (first | refine vops_q tyOk rfl ?_ | refine vops_nil ?_ | refine vw_seq ?_ | refine vw_region (by kernel_rfl) ?_ | refine vw_ret ?_)
    refine rv_bool rfl rfl ?_
    exact (decide_eq_false fun h' => h ⟨h'.1, h'.2.1⟩).symm
  repeat (first | refine vops_q tyOk rfl ?_ | refine vops_nil ?_ | refine vw_seq ?_ | refine vw_region (by kernel_rfl) ?_ | refine vw_skip ?_ | refine vw_block ?_)
  refine vw_loop (fun m f own => ∃ a : Int, 0 ≤ a ∧ a ≤ 14 ∧ m = (14 - a).toNat ∧ f 5 = .int .i64 a ∧ f 0 = .int .i64 n ∧ f 3 = .pointer (some ⟨b, 0, none⟩) ∧ own = [(b, ⟨ints r, 50, 14, none⟩)] ∧ ∀ j : Nat, (j : Int) < a → RdAt n r j) 14
    ⟨0, by omega, by omega, by omega, rfl, rfl, rfl, by rw [ints_length, hr], fun j hj => by omega⟩ ?_
  rintro m f own ⟨a, ha0, ha1, rfl, h5, h0, h3, rfl, hall⟩
  rw [upd_of h0, upd_of h3, upd_of h5]
  repeat (first | refine vops_q tyOk rfl ?_ | refine vops_nil ?_ | refine vw_seq ?_ | refine vw_region (by kernel_rfl) ?_ | refine vw_cond rfl ?_)
  refine bs_dec (fun hlt => ?_) (fun hge => ?_)
  · repeat' (first | refine vops_q tyOk rfl ?_ | refine vops_nil ?_ | refine vw_seq ?_ | refine vw_region (by kernel_rfl) ?_ | refine vops_guardT rfl rfl ?_ | refine vops_guardF rfl rfl ?_ | refine vops_guardU rfl rfl ?_ | with_reducible refine bs_true ?_ | with_reducible refine bs_false ?_ | refine vops_p tyOk rfl (by (try simp only [inR]); omega) ?_ | refine vw_cond rfl ?_ | refine vw_skip ?_ | refine vw_block ?_ | refine vw_ret ?_ | (with_reducible refine bs_dec (fun _ => ?_) (fun _ => ?_)) <;> try (exfalso; omega) | (with_reducible refine bs_ndec (fun _ => ?_) (fun _ => ?_)) <;> try (exfalso; omega) | refine vops_load tyOk rfl rfl rfl (sees_at 0 rfl (ints_get0 (by omega))) ?_ | (apply vops_callp ent134 rfl; (intro w _; exact c_l01In _ _ _ w)))
    all_goals first
      | exact ⟨(14 - (a + 1)).toNat, by omega, a + 1, by omega, by omega, rfl, rfl, rfl, rfl, rfl, all_step ha0 hall (by unfold RdAt; omega)⟩
      | (refine rv_bool rfl rfl (decide_eq_false fun h' => ?_).symm
         have h2 := h'.2.2 a.toNat (by omega)
         unfold RdAt at h2
         omega)
  · repeat (first | refine vops_q tyOk rfl ?_ | refine vops_nil ?_ | refine vw_seq ?_ | refine vw_region (by kernel_rfl) ?_ | refine vw_ret ?_ | refine vw_exit ?_)
    refine rv_bool rfl rfl (decide_eq_true ⟨h.1, h.2, fun j hj => hall j (by omega)⟩).symm
end Go.Proofs.Ytlfflmoegfibgaa

/- A part of the proof: E. No conditions of its own. -/
namespace Go.Proofs.Ytlfflmoegfibgaa
open Go.VL
attribute [local irreducible] VWr VOps

/-- The round in which all of n teams are free, as far as the place k. -/
def freeTo (k : Int) : List Int := (List.range 14).map fun (a : Nat) => if (a : Int) < k then (a : Int) else 0
theorem freeTo_length (k : Int) : (freeTo k).length = 14 := by simp [freeTo]
theorem freeTo_get (k : Int) (j : Nat) (h : j < 14) : (freeTo k).getD j 0 = if (j : Int) < k then (j : Int) else 0 := by
  simp [freeTo, h]
theorem freeTo_set {k : Int} (h0 : 0 ≤ k) (h1 : k < 14) : (freeTo k).set k.toNat k = freeTo (k + 1) := by
  apply List.ext_getElem (by simp [freeTo])
  intro j h2 h3
  have hj : j < 14 := by simpa [freeTo] using h3
  rw [List.getElem_set]
  simp only [freeTo, List.getElem_map, List.getElem_range]
  split
  · rename_i hh; subst hh; rw [if_pos (by omega)]; omega
  · rename_i hh
    by_cases hk : (j : Int) < k
    · rw [if_pos hk, if_pos (by omega)]
    · rw [if_neg hk, if_neg (by omega)]

set_option maxRecDepth 100000 in
theorem c_freeRound (n : Int) (h2 : 0 ≤ n) (h14 : n ≤ 14) (w : World) : Calls Try.prog 97 [Value.int .i64 n].toArray w (Res w (Is (.agg (ints (freeTo n)).toArray))) := by
  refine calls_of_vw Try.func97 rfl Try.ntmps97 (by simp) ?_
  refine vw_seq (vw_region (by kernel_rfl) (vops_allocZ (ints (freeTo 0)) tyOk rfl rfl (by simp [ints, freeTo]) (fun b1 hb1 => ?_)))
  repeat (first | refine vops_nil ?_ | refine vw_seq ?_ | refine vw_region (by kernel_rfl) ?_)
  refine vops_allocZ (ints (freeTo 0)) tyOk rfl rfl (by simp [ints, freeTo]) (fun b2 hb2 => ?_)
  repeat (first | refine vops_q tyOk rfl ?_ | refine vops_nil ?_ | refine vw_seq ?_ | refine vw_region (by kernel_rfl) ?_ | refine vw_block ?_)
  refine vw_loop (fun m f own => ∃ a : Int, 0 ≤ a ∧ a ≤ n ∧ m = (n - a).toNat ∧ f 5 = .int .i64 n ∧ f 6 = .int .i64 a ∧ f 2 = .pointer (some ⟨b1, 0, none⟩) ∧ f 3 = .pointer (some ⟨b2, 0, none⟩) ∧ own = [(b2, ⟨ints (freeTo a), 50, 14, none⟩), (b1, ⟨ints (freeTo 0), 50, 14, none⟩)]) n.toNat
    ⟨0, by omega, by omega, by omega, rfl, rfl, rfl, rfl, rfl⟩ ?_
  rintro m f own ⟨a, ha0, ha1, rfl, h5, h6, h2', h3, rfl⟩
  rw [upd_of h5, upd_of h6, upd_of h2', upd_of h3]
  repeat (first | refine vops_q tyOk rfl ?_ | refine vops_nil ?_ | refine vw_seq ?_ | refine vw_region (by kernel_rfl) ?_ | refine vw_cond rfl ?_)
  refine bs_dec (fun hlt => ?_) (fun hge => ?_)
  · have hl := freeTo_length a
    repeat (first | refine vops_q tyOk rfl ?_ | refine vops_nil ?_ | refine vw_seq ?_ | refine vw_region (by kernel_rfl) ?_ | refine vops_p tyOk rfl (by (try simp only [inR]); omega) ?_ | refine vw_skip ?_ | refine vw_block ?_ | refine vops_storeI 0 tyOk rfl rfl rfl rfl rfl (by omega) ?_)
    exact ⟨(n - (a + 1)).toNat, by omega, a + 1, by omega, by omega, rfl, rfl, rfl, rfl, rfl, by rw [← freeTo_set ha0 (by omega)]; rfl⟩
  · obtain rfl : a = n := by omega
    repeat (first | refine vops_nil ?_ | refine vw_seq ?_ | refine vw_region (by kernel_rfl) ?_ | refine vw_ret ?_ | refine vw_exit ?_ | refine vops_loadN tyOk (ints (freeTo a)) rfl rfl rfl rfl (sees_ints 0 rfl) ?_ | refine vops_storeA tyOk 1 rfl rfl rfl rfl ints_one rfl rfl ?_)
    exact rvc_ints 1 tyOk rfl rfl rfl rfl rfl rfl rfl

/-- r as far as the place k, and zeros. -/
def copyTo (r : List Int) (k : Int) : List Int := (List.range 14).map fun (a : Nat) => if (a : Int) < k then r.getD a 0 else 0
end Go.Proofs.Ytlfflmoegfibgaa

/- A part of the proof: F. No conditions of its own. -/
namespace Go.Proofs.Ytlfflmoegfibgaa
open Go.VL
attribute [local irreducible] VWr VOps VD

/-- What impl.IsRound makes of r: the opponents' opponents, as far as the place k. -/
def backTo (r : List Int) (k : Int) : List Int := (List.range 14).map fun (a : Nat) => if (a : Int) < k then r.getD (r.getD a 0).toNat 0 else r.getD a 0
theorem backTo_length (r : List Int) (k : Int) : (backTo r k).length = 14 := by simp [backTo]
theorem backTo_get (r : List Int) (k : Int) (j : Nat) (h : j < 14) : (backTo r k).getD j 0 = if (j : Int) < k then r.getD (r.getD j 0).toNat 0 else r.getD j 0 := by
  simp [backTo, h]
theorem backTo_set {r : List Int} {k : Int} (h0 : 0 ≤ k) (h1 : k < 14) : (backTo r k).set k.toNat (r.getD (r.getD k.toNat 0).toNat 0) = backTo r (k + 1) := by
  apply List.ext_getElem (by simp [backTo])
  intro j h2 h3
  have hj : j < 14 := by simpa [backTo] using h3
  rw [List.getElem_set]
  simp only [backTo, List.getElem_map, List.getElem_range]
  split
  · rename_i hh; subst hh; rw [if_pos (by omega)]
  · rename_i hh
    by_cases hk : (j : Int) < k
    · rw [if_pos hk, if_pos (by omega)]
    · rw [if_neg hk, if_neg (by omega)]
theorem backTo_zero {r : List Int} (hr : r.length = 14) : backTo r 0 = r := by
  apply List.ext_getElem (by simp [backTo, hr])
  intro j h2 h3
  simp only [backTo, List.getElem_map, List.getElem_range]
  rw [if_neg (by omega)]
  simp [h3]
theorem list_eq14 {r q : List Int} (hr : r.length = 14) (hq : q.length = 14) : r = q ↔ ∀ j, j < 14 → r.getD j 0 = q.getD j 0 := by
  constructor
  · rintro rfl j _; rfl
  · intro h
    apply List.ext_getElem (by omega)
    intro i h1 h2
    have := h i (by omega)
    simpa [List.getD_eq_getElem?_getD, h1, h2] using this
theorem back_free {n : Int} {r : List Int} (h2 : 2 ≤ n) (h14 : n ≤ 14) (hin : ∀ j : Nat, (j : Int) < n → 0 ≤ r.getD j 0 ∧ r.getD j 0 < n) : (backTo r n = freeTo n) ↔ IsRd n r := by
  rw [list_eq14 (backTo_length r n) (freeTo_length n)]
  constructor
  · intro h
    refine ⟨h2, h14, fun a ha => ?_⟩
    have := h a ha
    rw [backTo_get r n a ha, freeTo_get n a ha] at this
    refine ⟨fun hna => ?_, fun hna => ?_⟩
    · rw [if_neg (by omega), if_neg (by omega)] at this; exact this
    · rw [if_pos hna, if_pos hna] at this
      have := hin a hna
      exact ⟨by omega, by omega, by assumption⟩
  · intro h j hj
    rw [backTo_get r n j hj, freeTo_get n j hj]
    have h3 := h.2.2 j hj
    unfold RdAt at h3
    split
    · rename_i hlt; exact (h3.2 hlt).2.2
    · rename_i hlt; exact h3.1 (by omega)

set_option maxRecDepth 100000 in
theorem c_IsRound (n : Int) (r : List Int) (hr : r.length = 14) (w : World) : Calls Try.prog 139 [Value.int .i64 n, .agg (ints r).toArray].toArray w (Res w (Is (.bool (decide (IsRd n r))))) := by
  refine calls_of_vw Try.func139 rfl Try.ntmps139 (by simp) ?_
  refine vw_seq (vw_region (by kernel_rfl) (vops_box (ints r) rfl (fun b0 hb0 => ?_)))
  repeat (first | refine vops_q tyOk rfl ?_ | refine vops_nil ?_ | refine vw_seq ?_ | refine vw_region (by kernel_rfl) ?_ | refine vw_cond rfl ?_ | (apply vops_callp ent137 rfl; (intro w _; exact c_isTeamCount _ w)))
  refine bs_ndec2 (fun h => ?_) (fun h => ?_)
  · repeat (first | refine vops_q tyOk rfl ?_ | refine vops_nil ?_ | refine vw_seq ?_ | refine vw_region (by kernel_rfl) ?_ | refine vw_ret ?_)
    exact rv_bool rfl rfl (decide_eq_false fun h' => h ⟨h'.1, h'.2.1⟩).symm
  repeat (first | refine vops_q tyOk rfl ?_ | refine vops_nil ?_ | refine vw_seq ?_ | refine vw_region (by kernel_rfl) ?_ | refine vw_skip ?_ | refine vw_block ?_)
  refine vw_loop (fun m f own => ∃ a : Int, 0 ≤ a ∧ a ≤ n ∧ m = (n - a).toNat ∧ f 11 = .int .i64 n ∧ f 12 = .int .i64 a ∧ f 0 = .int .i64 n ∧ f 3 = .pointer (some ⟨b0, 0, none⟩) ∧ own = [(b0, ⟨ints r, 50, 14, none⟩)] ∧ ∀ j : Nat, (j : Int) < a → 0 ≤ r.getD j 0 ∧ r.getD j 0 < n) n.toNat
    ⟨0, by omega, by omega, by omega, rfl, rfl, rfl, rfl, by rw [ints_length r, hr], fun j hj => by omega⟩ ?_
  rintro m f own ⟨a, ha0, ha1, rfl, h5, h6, h7, h8, rfl, hall⟩
  rw [upd_of h5, upd_of h6, upd_of h7, upd_of h8]
  repeat (first | refine vops_q tyOk rfl ?_ | refine vops_nil ?_ | refine vw_seq ?_ | refine vw_region (by kernel_rfl) ?_ | refine vw_cond rfl ?_)
  refine bs_dec (fun hlt => ?_) (fun hge => ?_)
  · repeat (first | refine vops_q tyOk rfl ?_ | refine vops_nil ?_ | refine vw_seq ?_ | refine vw_region (by kernel_rfl) ?_ | refine vops_p tyOk rfl (by (try simp only [inR]); omega) ?_ | refine vw_cond rfl ?_ | refine vw_skip ?_ | refine vw_block ?_ | refine vops_load tyOk rfl rfl rfl (sees_at 0 rfl (ints_get0 (by omega))) ?_ | (apply vops_callp ent91 rfl; (intro w _; exact c_isBelow _ _ w)))
    refine bs_ndec2 (fun h => ?_) (fun h => ?_)
    · repeat (first | refine vops_q tyOk rfl ?_ | refine vops_nil ?_ | refine vw_seq ?_ | refine vw_region (by kernel_rfl) ?_ | refine vw_ret ?_)
      refine rv_bool rfl rfl (decide_eq_false fun h' => ?_).symm
      have h2 := h'.2.2 a.toNat (by omega)
      unfold RdAt at h2
      omega
    · repeat (first | refine vops_q tyOk rfl ?_ | refine vops_nil ?_ | refine vw_region (by kernel_rfl) ?_ | refine vops_p tyOk rfl (by (try simp only [inR]); omega) ?_ | refine vw_skip ?_)
      exact ⟨(n - (a + 1)).toNat, by omega, a + 1, by omega, by omega, rfl, rfl, rfl, rfl, rfl, rfl, all_step ha0 hall (by omega)⟩
  · obtain rfl : a = n := by omega
    repeat (first | refine vw_seq ?_ | refine vw_region (by kernel_rfl) ?_ | refine vw_exit ?_ | refine vops_loadN tyOk (ints r) rfl rfl rfl (by rw [ints_length, hr]) (sees_ints 0 rfl) ?_)
    refine vops_allocZ (ints (List.replicate 14 0)) tyOk rfl rfl (by simp [ints]) (fun b1 hb1 => ?_)
    repeat (first | refine vops_q tyOk rfl ?_ | refine vops_nil ?_ | refine vw_seq ?_ | refine vw_region (by kernel_rfl) ?_ | refine vw_block ?_ | refine vops_storeA tyOk 0 rfl (by rw [ints_length, hr]) rfl rfl ints_one rfl (by rw [ints_length r, hr]; rfl) ?_)
    refine vw_loop (fun m f own => ∃ k : Int, 0 ≤ k ∧ k ≤ a ∧ m = (a - k).toNat ∧ f 23 = .int .i64 a ∧ f 24 = .int .i64 k ∧ f 0 = .int .i64 a ∧ f 3 = .pointer (some ⟨b0, 0, none⟩) ∧ f 6 = .pointer (some ⟨b1, 0, none⟩) ∧ own = [(b1, ⟨ints (backTo r k), 50, 14, none⟩), (b0, ⟨ints r, 50, 14, none⟩)]) a.toNat
      ⟨0, by omega, by omega, by omega, rfl, rfl, rfl, rfl, rfl, by rw [backTo_zero hr]; rfl⟩ ?_
    rintro m f own ⟨k, hk0, hk1, rfl, h5, h6, h7, h8, h9, rfl⟩
    rw [upd_of h5, upd_of h6, upd_of h7, upd_of h8, upd_of h9]
    repeat (first | refine vops_q tyOk rfl ?_ | refine vops_nil ?_ | refine vw_seq ?_ | refine vw_region (by kernel_rfl) ?_ | refine vw_cond rfl ?_)
    refine bs_dec (fun hlt => ?_) (fun hge => ?_)
    · have hl := backTo_length r k
      have hb := hall k.toNat (by omega)
      repeat (first | refine vops_q tyOk rfl ?_ | refine vops_nil ?_ | refine vw_seq ?_ | refine vw_region (by kernel_rfl) ?_ | refine vops_p tyOk rfl (by (try simp only [inR]); omega) ?_ | refine vw_skip ?_ | refine vw_block ?_ | refine vops_load tyOk rfl rfl rfl (sees_at 1 rfl (ints_get0 (by omega))) ?_ | refine vops_storeI 0 tyOk rfl rfl rfl rfl rfl (by omega) ?_)
      exact ⟨(a - (k + 1)).toNat, by omega, k + 1, by omega, by omega, rfl, rfl, rfl, rfl, rfl, rfl, by rw [← backTo_set hk0 (by omega)]; rfl⟩
    · obtain rfl : k = a := by omega
      have hl := backTo_length r k
      have hl2 := freeTo_length k
      repeat (first | refine vw_seq ?_ | refine vw_exit ?_)
      refine vw_draw [0, 1, 2, 3, 4] (by kernel_rfl) (by kernel_rfl) (by kernel_rfl) rfl ?_
      repeat' (first | refine vd_q tyOk rfl (by first | trivial | rfl) rfl (by kernel_rfl) (by kernel_rfl) ?_ | refine vops_nil ?_ | refine vd_nil (by kernel_rfl) ?_ | refine ⟨fun _ _ _ h => h, ?_⟩ | refine vd_loadN tyOk (ints (backTo r k)) rfl (by first | trivial | rfl) rfl rfl rfl (by simp [ints_length, *]) (by kernel_rfl) (by kernel_rfl) (by kernel_rfl) (sees_ints 0 rfl) (by first | exact sub_refl | exact sub_cons sub_refl | exact sub_app sub_refl) ?_ | (apply vops_callp ent97 rfl; (intro w _; exact c_freeRound _ (by omega) (by omega) w)) | refine vd_eqA tyOk rfl (by first | trivial | rfl) rfl rfl rfl rfl rfl (by kernel_rfl) (by omega) (by omega) (by kernel_rfl) (by kernel_rfl) ?_ | refine vd_one rfl (by kernel_rfl) (by kernel_rfl) rfl ?_)
      repeat (first | refine vw_ret ?_)
      exact rv_bool rfl rfl (decide_eq_decide.2 (back_free h.1 h.2 hall))
end Go.Proofs.Ytlfflmoegfibgaa

/- A part of the proof: H. No conditions of its own. -/
namespace Go.Proofs.Ytlfflmoegfibgaa
open Go.VL
attribute [local irreducible] VWr VOps VD

/-- A schedule of n teams. -/
def IsSch (n : Int) (rs : List (List Int)) : Prop := 2 ≤ n ∧ n ≤ 14 ∧ rs.length ≤ 40 ∧ ∀ (i : Nat) (r : List Int), rs[i]? = some r → IsRd n r
open Classical in
set_option maxRecDepth 100000 in
theorem c_l01Is (n : Int) (v : Value) (rs : List (List Int)) (w : World) (hv : RdS w v rs) (hr : ∀ r ∈ rs, r.length = 14) (hl : rs.length ≤ maxLen) :
    Calls Try.prog 71 [.agg #[.int .i64 n, v]].toArray w (Res w (Is (.bool (decide (IsSch n rs))))) := by
  have hl' : (rs.length : Int) ≤ 9223372036854775807 := by simp only [maxLen] at hl; omega
  obtain ⟨a, cap, rfl⟩ := hv.len
  refine calls_of_vw Try.func71 rfl Try.ntmps71 (by simp) ?_
  refine vw_seq (vw_region (by kernel_rfl) (vops_box [.int .i64 n, .slice a rs.length cap] rfl (fun b0 hb0 => ?_)))
  repeat (first | refine vops_q tyOk rfl ?_ | refine vops_nil ?_ | refine vw_seq ?_ | refine vw_region (by kernel_rfl) ?_ | refine vops_guardF rfl rfl ?_ | refine vops_load tyOk rfl rfl rfl (sees_at 0 rfl rfl) ?_ | (apply vops_callp ent134 rfl; (intro w _; exact c_l01In _ _ _ w)))
  refine bs_ndec2 (fun h => ?_) (fun h => ?_)
  · repeat (first | refine vops_q tyOk rfl ?_ | refine vops_nil ?_ | refine vw_seq ?_ | refine vw_region (by kernel_rfl) ?_ | refine vops_guardF rfl rfl ?_ | with_reducible refine bs_true ?_ | refine vw_cond rfl ?_ | refine vw_ret ?_)
    refine rv_bool rfl rfl ?_
    exact (decide_eq_false fun h' => h ⟨h'.1, h'.2.1⟩).symm
  repeat (first | refine vops_q tyOk rfl ?_ | refine vops_nil ?_ | refine vops_guardF rfl rfl ?_ | with_reducible refine bs_false ?_ | refine vw_cond rfl ?_ | refine vops_load tyOk rfl rfl rfl (sees_at 0 rfl rfl) ?_)
  refine bs_dec (fun h2 => ?_) (fun h2 => ?_)
  · repeat (first | refine vops_q tyOk rfl ?_ | refine vops_nil ?_ | refine vw_seq ?_ | refine vw_region (by kernel_rfl) ?_ | refine vw_ret ?_)
    refine rv_bool rfl rfl ?_
    exact (decide_eq_false fun h' => by have := h'.2.2.1; omega).symm
  repeat (first | refine vops_q tyOk rfl ?_ | refine vops_nil ?_ | refine vw_seq ?_ | refine vw_region (by kernel_rfl) ?_ | refine vw_skip ?_ | refine vw_block ?_)
  refine vw_loop (fun m f own => ∃ i : Nat, i ≤ rs.length ∧ m = rs.length - i ∧ f 3 = .int .i64 i ∧ f 1 = .pointer (some ⟨b0, 0, none⟩) ∧ own = [(b0, ⟨[.int .i64 n, .slice a rs.length cap], 32, 2, none⟩)] ∧ ∀ (j : Nat) (r : List Int), j < i → rs[j]? = some r → IsRd n r) rs.length
    ⟨0, by omega, by omega, rfl, rfl, rfl, fun j r hj => by omega⟩ ?_
  rintro m f own ⟨i, hi, rfl, h3, h1, rfl, hall⟩
  rw [upd_of h1, upd_of h3]
  repeat (first | refine vops_q tyOk rfl ?_ | refine vops_nil ?_ | refine vw_seq ?_ | refine vw_region (by kernel_rfl) ?_ | refine vw_cond rfl ?_ | refine vops_load tyOk rfl rfl rfl (sees_at 0 rfl rfl) ?_)
  refine bs_dec (fun h4 => ?_) (fun h4 => ?_)
  · obtain ⟨r, hri⟩ : ∃ r, rs[i]? = some r := ⟨_, List.getElem?_eq_getElem (by omega)⟩
    have hrl := hr r (List.mem_of_getElem? hri)
    obtain ⟨b, o, cap', he, hrow⟩ := hv.row hr hri
    cases he
    repeat (first | refine vw_seq ?_ | refine vw_skip ?_ | refine vw_block ?_)
    refine vw_draw [0, 1, 2, 3, 4, 5, 6, 7, 8] (by kernel_rfl) (by kernel_rfl) (by kernel_rfl) rfl ?_
    repeat' (first | refine vd_q tyOk rfl (by first | trivial | rfl) rfl (by kernel_rfl) (by kernel_rfl) ?_ | refine vd_p tyOk rfl (by first | trivial | rfl) rfl (by kernel_rfl) (by kernel_rfl) (by (try simp only [inR]); omega) ?_ | refine vops_nil ?_ | refine vd_nil (by kernel_rfl) ?_ | refine ⟨fun _ _ _ h => h, ?_⟩ | refine vd_load tyOk rfl (by first | trivial | rfl) rfl rfl rfl (by kernel_rfl) (by kernel_rfl) (by kernel_rfl) (sees_at 0 rfl rfl) (by first | exact sub_refl | exact sub_cons sub_refl | exact sub_app sub_refl) ?_ | refine vd_loadN tyOk (ints (r)) rfl (by first | trivial | rfl) rfl rfl rfl (by simp [ints_length, *]) (by kernel_rfl) (by kernel_rfl) (by kernel_rfl) (fun j x hx => sees_old (hrow j x hx) (by simp)) (by first | exact sub_refl | exact sub_cons sub_refl | exact sub_app sub_refl) ?_ | (apply vops_callp ent135 rfl; (intro w _; exact c_l01Round _ _ hrl w)) | refine vd_one rfl (by kernel_rfl) (by kernel_rfl) rfl ?_)
    repeat (first | refine vw_cond rfl ?_)
    refine bs_ndec2 (fun h5 => ?_) (fun h5 => ?_)
    · repeat (first | refine vops_q tyOk rfl ?_ | refine vops_nil ?_ | refine vw_seq ?_ | refine vw_region (by kernel_rfl) ?_ | refine vw_ret ?_)
      refine rv_bool rfl rfl ?_
      exact (decide_eq_false fun h' => h5 (h'.2.2.2 i r hri)).symm
    repeat (first | refine vops_q tyOk rfl ?_ | refine vops_nil ?_ | refine vw_region (by kernel_rfl) ?_ | refine vops_p tyOk rfl (by (try simp only [inR]); omega) ?_ | refine vw_skip ?_)
    refine ⟨rs.length - (i + 1), by omega, i + 1, by omega, rfl, rfl, rfl, rfl, fun j q hj hq => ?_⟩
    by_cases hji : j = i
    · subst hji
      have : r = q := Option.some.inj (hri.symm.trans hq)
      rw [← this]; exact h5
    · exact hall j q (by omega) hq
  · repeat (first | refine vops_q tyOk rfl ?_ | refine vops_nil ?_ | refine vw_seq ?_ | refine vw_region (by kernel_rfl) ?_ | refine vw_ret ?_ | refine vw_exit ?_)
    refine rv_bool rfl rfl ?_
    refine (decide_eq_true ?_).symm
    exact ⟨h.1, h.2, by omega, fun j r hj => hall j r (by have := (List.getElem?_eq_some_iff.1 hj).1; omega) hj⟩

/-- A schedule's value. -/
def Sch (n : Int) (v : Value) : Value := .agg #[.int .i64 n, v]
end Go.Proofs.Ytlfflmoegfibgaa

/- A part of the proof: J. No conditions of its own. -/
namespace Go.Proofs.Ytlfflmoegfibgaa
open Go.VL
attribute [local irreducible] VWr VOps VD

/-- A new list of rounds. -/
def NewRs (rs : List (List Int)) (v : Value) (new : Own) : Prop := ∃ b, v = .slice (some ⟨b, 0, none⟩) rs.length rs.length ∧ new = [(b, ⟨ints rs.flatten, 50, rs.length * 14, none⟩)]
/-- A new schedule. -/
def NewSch (n : Int) (rs : List (List Int)) (v : Value) (new : Own) : Prop := ∃ b, v = .agg #[.int .i64 n, .slice (some ⟨b, 0, none⟩) rs.length rs.length] ∧ new = [(b, ⟨ints rs.flatten, 50, rs.length * 14, none⟩)]
end Go.Proofs.Ytlfflmoegfibgaa

/- A part of the proof: K. No conditions of its own. -/
namespace Go.Proofs.Ytlfflmoegfibgaa
open Go.VL
attribute [local irreducible] VWr VOps VD

theorem zero2 : (Try.prog.info? 2).bind (·.zero) = some (.int .i64 0) := by kernel_rfl
theorem mapT : Try.prog.underlying 142 = some (.map 50 2) := by kernel_rfl
/-- A map that tells how often each round is there. -/
def NewTally (rs : List (List Int)) (v : Value) (new : Own) : Prop := ∃ b, v = .map (some b) ∧ new = [(b, ⟨[], 0, 0, some (mapObj (tally rs))⟩)]
set_option maxRecDepth 100000 in
theorem c_timesOfRounds (v : Value) (rs : List (List Int)) (w : World) (hv : RdS w v rs) (hr : ∀ r ∈ rs, r.length = 14) (hl : rs.length ≤ 1048576) :
    Calls Try.prog 138 [v].toArray w (Res w (NewTally rs)) := by
  obtain ⟨a, cap, rfl⟩ := hv.len
  refine calls_of_vw Try.func138 rfl Try.ntmps138 (by simp) ?_
  repeat (first | refine vops_q tyOk rfl ?_ | refine vops_nil ?_ | refine vw_seq ?_ | refine vw_region (by kernel_rfl) ?_)
  refine vops_makeMap (fun bm hbm => ?_)
  repeat (first | refine vops_q tyOk rfl ?_ | refine vops_nil ?_ | refine vw_seq ?_ | refine vw_region (by kernel_rfl) ?_ | refine vw_block ?_)
  refine vw_loop (fun m f own => ∃ i : Nat, i ≤ rs.length ∧ m = rs.length - i ∧ f 9 = .int .i64 i ∧ f 7 = .slice a rs.length cap ∧ f 8 = .int .i64 rs.length ∧ f 3 = .map (some bm) ∧ own = [(bm, ⟨[], 0, 0, some (mapObj (tally (rs.take i)))⟩)]) rs.length
    ⟨0, by omega, by omega, rfl, rfl, rfl, rfl, rfl⟩ ?_
  rintro m f own ⟨i, hi, rfl, h9, h7, h8, h3, rfl⟩
  rw [upd_of h3, upd_of h7, upd_of h8, upd_of h9]
  repeat (first | refine vops_q tyOk rfl ?_ | refine vops_nil ?_ | refine vw_seq ?_ | refine vw_region (by kernel_rfl) ?_ | refine vw_cond rfl ?_)
  refine bs_dec (fun h5 => ?_) (fun h5 => ?_)
  · obtain ⟨r, hri⟩ : ∃ r, rs[i]? = some r := ⟨_, List.getElem?_eq_getElem (by omega)⟩
    have hrl := hr r (List.mem_of_getElem? hri)
    obtain ⟨b', o, cap', he, hrow⟩ := hv.row hr hri
    cases he
    repeat (first | refine vw_seq ?_ | refine vw_region (by kernel_rfl) ?_ | refine vops_p tyOk rfl (by (try simp only [inR]); omega) ?_ | refine vw_skip ?_ | refine vw_block ?_ | refine vops_loadN tyOk (ints r) rfl rfl rfl (by rw [ints_length, hrl]) (fun j x hx => sees_old (hrow j x hx) (by simp)) ?_)
    refine vops_allocZ (ints (List.replicate 14 0)) tyOk rfl rfl (by simp [ints]) (fun b5 hb5 => ?_)
    repeat (first | refine vops_nil ?_ | refine vops_storeA (cs := ints r) tyOk 0 rfl (by rw [ints_length, hrl]) rfl rfl ints_one rfl (by simp [ints, hrl]) ?_)
    have hk : ∀ p ∈ tally (rs.take i), p.1.length = 14 := fun p hp => hr _ (List.mem_of_mem_take (tally_keys hp).1)
    have hk2 : ∀ p ∈ (tally (rs.take i)).laid r, p.1.length = 14 := fun p hp => by
      rcases mem_laid hp with h | h
      · exact hk p h
      · rw [h]; exact hrl
    have hg : 0 ≤ (tally (rs.take i)).get r ∧ (tally (rs.take i)).get r ≤ 1048576 := by
      rcases get_mem (es := tally (rs.take i)) (k := r) with h | h
      · omega
      · have h1 := tally_keys h
        have h2 : (rs.take i).length ≤ rs.length := by rw [List.length_take]; omega
        simp only at h1; omega
    have htk : tally (rs.take (i + 1)) = incr (tally (rs.take i)) r := by rw [List.take_add_one, hri]; exact tally_snoc _ _
    have hg2 : 0 ≤ ((tally (rs.take i)).laid r).get r ∧ ((tally (rs.take i)).laid r).get r ≤ 1048576 := by rw [laid_get]; exact hg
    refine vw_draw [0, 1, 2, 3, 4, 5, 6] (by kernel_rfl) (by kernel_rfl) (by kernel_rfl) rfl ?_
    refine vd_q tyOk rfl (by first | trivial | rfl) rfl (by kernel_rfl) (by kernel_rfl) ?_
    refine vd_loadN tyOk (ints (r)) rfl (by first | trivial | rfl) rfl rfl rfl (by simp [ints_length, *]) (by kernel_rfl) (by kernel_rfl) (by kernel_rfl) (sees_ints 0 rfl) (by first | exact sub_refl | exact sub_cons sub_refl | exact sub_app sub_refl) ?_
    refine vd_two (j := 4) [3, 4, 5, 6] [5, 2, 3, 6] rfl rfl (by kernel_rfl) rfl rfl rfl rfl ?_ ?_
    · refine vops_lookup 1 tyOk mapT rfl rfl zero2 rfl rfl hrl hk rfl ?_
      repeat' (first | refine vd_q tyOk rfl (by first | trivial | rfl) rfl (by kernel_rfl) (by kernel_rfl) ?_ | refine vd_p tyOk rfl (by first | trivial | rfl) rfl (by kernel_rfl) (by kernel_rfl) (by (try simp only [inR]); omega) ?_ | refine vops_nil ?_ | refine vd_nil (by kernel_rfl) ?_ | refine ⟨fun _ _ _ h => h, ?_⟩ | refine vops_mapEntry 1 tyOk mapT rfl rfl zero2 rfl rfl hrl hk rfl ?_ | refine vops_entryStore (k := r) 1 rfl rfl rfl (laid_at _ _) rfl ?_ | refine ⟨fun h => Bool.noConfusion (show false = true from h), ?_⟩ | refine vd_one rfl (by kernel_rfl) (by kernel_rfl) rfl ?_)
      refine vw_drop (own' := [(bm, ⟨[], 0, 0, some (mapObj (incr (tally (rs.take i)) r))⟩)]) (List.Sublist.cons _ (List.Sublist.refl _)) ?_
      repeat (first | refine vops_q tyOk rfl ?_ | refine vops_nil ?_ | refine vw_region (by kernel_rfl) ?_ | refine vops_p tyOk rfl (by (try simp only [inR]); omega) ?_)
      refine ⟨rs.length - (i + 1), by omega, i + 1, by omega, rfl, rfl, rfl, rfl, rfl, ?_⟩
      rw [htk]
    · refine vops_mapEntry 1 tyOk mapT rfl rfl zero2 rfl rfl hrl hk rfl ?_
      repeat' (first | refine vd_q tyOk rfl (by first | trivial | rfl) rfl (by kernel_rfl) (by kernel_rfl) ?_ | refine vd_p tyOk rfl (by first | trivial | rfl) rfl (by kernel_rfl) (by kernel_rfl) (by (try simp only [inR]); omega) ?_ | refine vops_nil ?_ | refine vd_nil (by kernel_rfl) ?_ | refine ⟨fun _ _ _ h => h, ?_⟩ | refine vops_lookup 1 tyOk mapT rfl rfl zero2 rfl rfl hrl hk2 rfl ?_ | refine vops_entryStore (k := r) 1 rfl rfl rfl (laid_at _ _) rfl ?_ | refine ⟨fun h => Bool.noConfusion (show false = true from h), ?_⟩ | refine vd_one rfl (by kernel_rfl) (by kernel_rfl) rfl ?_)
      rw [laid_get]
      refine vw_drop (own' := [(bm, ⟨[], 0, 0, some (mapObj (incr (tally (rs.take i)) r))⟩)]) (List.Sublist.cons _ (List.Sublist.refl _)) ?_
      repeat (first | refine vops_q tyOk rfl ?_ | refine vops_nil ?_ | refine vw_region (by kernel_rfl) ?_ | refine vops_p tyOk rfl (by (try simp only [inR]); omega) ?_)
      refine ⟨rs.length - (i + 1), by omega, i + 1, by omega, rfl, rfl, rfl, rfl, rfl, ?_⟩
      rw [htk]
  · obtain rfl : i = rs.length := by omega
    repeat (first | refine vops_q tyOk rfl ?_ | refine vops_nil ?_ | refine vw_seq ?_ | refine vw_region (by kernel_rfl) ?_ | refine vw_ret ?_ | refine vw_exit ?_)
    refine ⟨_, [(bm, ⟨[], 0, 0, some (mapObj (tally rs))⟩)], rv_tmp rfl rfl, by simp [ids], ?_, bm, rfl, rfl⟩
    rw [List.take_length]; exact fun p hp => hp
end Go.Proofs.Ytlfflmoegfibgaa

/- A part of the proof: L. No conditions of its own. -/
namespace Go.Proofs.Ytlfflmoegfibgaa
open Go.VL
attribute [local irreducible] VWr VOps VD

open Classical in
set_option maxRecDepth 100000 in
theorem c_IsSchedule (n : Int) (v : Value) (rs : List (List Int)) (w : World) (hv : RdS w v rs) (hr : ∀ r ∈ rs, r.length = 14) (hl : rs.length ≤ 1048576) :
    Calls Try.prog 75 [.agg #[.int .i64 n, v]].toArray w (Res w (Is (.bool (decide (IsSch n rs))))) := by
  obtain ⟨a, cap, rfl⟩ := hv.len
  refine calls_of_vw Try.func75 rfl Try.ntmps75 (by simp) ?_
  refine vw_seq (vw_region (by kernel_rfl) (vops_box [.int .i64 n, .slice a rs.length cap] rfl (fun b0 hb0 => ?_)))
  repeat (first | refine vops_q tyOk rfl ?_ | refine vops_nil ?_ | refine vw_seq ?_ | refine vw_region (by kernel_rfl) ?_ | refine vops_guardF rfl rfl ?_ | refine vops_load tyOk rfl rfl rfl (sees_at 0 rfl rfl) ?_ | (apply vops_callp ent137 rfl; (intro w _; exact c_isTeamCount _ w)))
  refine bs_ndec2 (fun h => ?_) (fun h => ?_)
  · repeat (first | refine vops_q tyOk rfl ?_ | refine vops_nil ?_ | refine vw_seq ?_ | refine vw_region (by kernel_rfl) ?_ | refine vops_guardF rfl rfl ?_ | with_reducible refine bs_true ?_ | refine vw_cond rfl ?_ | refine vw_ret ?_)
    refine rv_bool rfl rfl ?_
    exact (decide_eq_false fun h' => h ⟨h'.1, h'.2.1⟩).symm
  repeat (first | refine vops_q tyOk rfl ?_ | refine vops_nil ?_ | refine vops_guardF rfl rfl ?_ | with_reducible refine bs_false ?_ | refine vw_cond rfl ?_ | refine vops_load tyOk rfl rfl rfl (sees_at 0 rfl rfl) ?_)
  refine bs_dec (fun h2 => ?_) (fun h2 => ?_)
  · repeat (first | refine vops_q tyOk rfl ?_ | refine vops_nil ?_ | refine vw_seq ?_ | refine vw_region (by kernel_rfl) ?_ | refine vw_ret ?_)
    refine rv_bool rfl rfl ?_
    exact (decide_eq_false fun h' => by have := h'.2.2.1; omega).symm
  repeat (first | refine vops_q tyOk rfl ?_ | refine vw_seq ?_ | refine vw_region (by kernel_rfl) ?_ | refine vw_skip ?_ | refine vops_load tyOk rfl rfl rfl (sees_at 0 rfl rfl) ?_)
  refine vops_call ent138 rfl (fun w' hg => c_timesOfRounds _ rs w' (hv.same hg.fr) hr hl) ?_
  rintro _ _ ⟨bm, rfl, rfl⟩
  refine vops_range 0 mapT rfl rfl (fun bi hbi => ?_)
  repeat (first | refine vops_nil ?_ | refine vw_block ?_)
  refine vw_loop (fun m f own => ∃ seen : Array Nat, m = ((List.range (tally rs).length).filter (fun j => !seen.contains j)).length ∧ f 17 = .pointer (some ⟨bi, 0, none⟩) ∧ f 1 = .pointer (some ⟨b0, 0, none⟩) ∧
      own = [(bi, ⟨[], 0, 0, some (itObj bm (tally rs) seen)⟩), (bm, ⟨[], 0, 0, some (mapObj (tally rs))⟩), (b0, ⟨[.int .i64 n, .slice a rs.length cap], 32, 2, none⟩)] ∧
      ∀ (j : Nat) (k : List Int) (c : Int), (tally rs)[j]? = some (k, c) → seen.contains j = true → IsRd n k) _
    ⟨#[], rfl, rfl, rfl, rfl, fun j k c _ hc => by simp at hc⟩ ?_
  rintro m f own ⟨seen, rfl, h17, h1, rfl, hall⟩
  rw [upd_of h1, upd_of h17]
  refine vw_seq (vw_region (by kernel_rfl) (vops_next 1 0 rfl rfl rfl (fun hseen => ?_) (fun j k c hj hjs => ?_)))
  · repeat (first | refine vops_q tyOk rfl ?_ | refine vops_nil ?_ | refine vw_seq ?_ | refine vw_region (by kernel_rfl) ?_ | with_reducible refine bs_false ?_ | refine vw_cond rfl ?_ | refine vw_ret ?_ | refine vw_exit ?_)
    refine rv_bool rfl rfl ?_
    refine (decide_eq_true ?_).symm
    refine ⟨h.1, h.2, by omega, fun i r hi => ?_⟩
    obtain ⟨c, hc⟩ := tally_has (List.mem_of_getElem? hi)
    obtain ⟨j, hj⟩ := List.mem_iff_getElem?.1 hc
    exact hall j r c hj (hseen j (List.getElem?_eq_some_iff.1 hj).1)
  · have hkm := (tally_keys (List.mem_of_getElem? hj)).1
    have hkl := hr k hkm
    repeat (first | refine vops_q tyOk rfl ?_ | refine vops_nil ?_ | refine vw_seq ?_ | refine vw_region (by kernel_rfl) ?_ | with_reducible refine bs_true ?_ | refine vw_cond rfl ?_ | refine vw_skip ?_ | refine vw_block ?_ | refine vops_entry 1 0 rfl rfl rfl hj ?_)
    refine vops_allocZ (ints (List.replicate 14 0)) tyOk rfl rfl (by simp [ints]) (fun b5 hb5 => ?_)
    repeat (first | refine vops_q tyOk rfl ?_ | refine vops_nil ?_ | refine vw_seq ?_ | refine vw_region (by kernel_rfl) ?_ | refine vw_cond rfl ?_ | refine vops_storeA (cs := ints k) tyOk 0 rfl (by rw [ints_length, hkl]) rfl rfl ints_one rfl (by simp [ints, hkl]) ?_ | refine vops_load tyOk rfl rfl rfl (sees_at 3 rfl rfl) ?_ | refine vops_loadN tyOk (ints k) rfl rfl rfl (by rw [ints_length, hkl]) (sees_ints 0 rfl) ?_ | (apply vops_callp ent139 rfl; (intro w _; exact c_IsRound _ _ hkl w)))
    refine bs_ndec2 (fun h5 => ?_) (fun h5 => ?_)
    · repeat (first | refine vops_q tyOk rfl ?_ | refine vops_nil ?_ | refine vw_seq ?_ | refine vw_region (by kernel_rfl) ?_ | refine vw_ret ?_)
      refine rv_bool rfl rfl ?_
      obtain ⟨i, hi⟩ := List.mem_iff_getElem?.1 hkm
      exact (decide_eq_false fun h' => h5 (h'.2.2.2 i k hi)).symm
    refine vw_drop (own' := [(bi, ⟨[], 0, 0, some (itObj bm (tally rs) (seen.push j))⟩), (bm, ⟨[], 0, 0, some (mapObj (tally rs))⟩), (b0, ⟨[.int .i64 n, .slice a rs.length cap], 32, 2, none⟩)]) (List.Sublist.cons _ (List.Sublist.refl _)) ?_
    repeat (first | refine vw_skip ?_)
    refine ⟨_, ?_, seen.push j, rfl, rfl, rfl, rfl, fun i q c' hi hc => ?_⟩
    · refine filter_lt _ _ (fun x hx => ?_) j (by show (!seen.contains j) = true; rw [hjs]; rfl) (by show (!(seen.push j).contains j) = false; rw [contains_push]; simp) _ (List.mem_range.2 (List.getElem?_eq_some_iff.1 hj).1)
      simp only [contains_push, Bool.not_or, Bool.and_eq_true] at hx
      exact hx.1
    · rw [contains_push] at hc
      by_cases hij : i = j
      · subst hij
        have := Option.some.inj (hi.symm.trans hj)
        cases this
        exact h5
      · refine hall i q c' hi ?_
        simpa [hij] using hc
end Go.Proofs.Ytlfflmoegfibgaa

/- A part of the proof: M. No conditions of its own. -/
namespace Go.Proofs.Ytlfflmoegfibgaa
open Go.VL
attribute [local irreducible] VWr VOps VD

end Go.Proofs.Ytlfflmoegfibgaa

/- A part of the proof: P1. No conditions of its own. -/
namespace Go.Proofs.Ytlfflmoegfibgaa
open Go.VL
attribute [local irreducible] VWr VOps VD

/-- What marking leaves. -/
def Marked (e k n : Nat) (k0 : Int) (v : Value) (u : Value) (new : Own) : Prop := u = .int .i64 (k0 + (n * k : Nat)) ∧ NewF e k n (iota k0 (n * k)) v new
end Go.Proofs.Ytlfflmoegfibgaa

/- A part of the proof: P2. No conditions of its own. -/
namespace Go.Proofs.Ytlfflmoegfibgaa
open Go.VL
attribute [local irreducible] VWr VOps VD

end Go.Proofs.Ytlfflmoegfibgaa

/- A part of the proof: LW. No conditions of its own. -/
namespace Go.Proofs.Ytlfflmoegfibgaa
open Go.VL
attribute [local irreducible] VWr VOps VD Calls

theorem okS {own0 own1 : Own} {Γ : Ctx} {w : World} (hg : Go.VL.Good Γ (own0 ++ own1) w) : OwnOk own0 w :=
  hg.ok.sub (by have := hg.ok.nodup; rw [ids, List.map_append] at this; exact (List.nodup_append.1 this).1) sub_hereL
abbrev SchR (n : Int) (rs : List (List Int)) (u : Value) (new : Own) : Prop := SchG 50 n rs u new
end Go.Proofs.Ytlfflmoegfibgaa

/- A part of the proof: P16. No conditions of its own. -/
namespace Go.Proofs.Ytlfflmoegfibgaa
open Go.VL
attribute [local irreducible] VWr VOps VD Calls

end Go.Proofs.Ytlfflmoegfibgaa

/- A part of the proof: P17. No conditions of its own. -/
namespace Go.Proofs.Ytlfflmoegfibgaa
open Go.VL
attribute [local irreducible] VWr VOps VD Calls

/-- What is left of a bound when the sizes have been taken off it. -/
def Left (ls : List (List Int)) (left : Int) (v : Value) (new : Own) : Prop := new = [] ∧ ∃ r : Int, v = .int .i64 r ∧ (r = -1 ∨ (0 ≤ r ∧ r ≤ left ∧ (ls.length : Int) ≤ left ∧ ∀ l ∈ ls, (l.length : Int) ≤ left))
end Go.Proofs.Ytlfflmoegfibgaa

