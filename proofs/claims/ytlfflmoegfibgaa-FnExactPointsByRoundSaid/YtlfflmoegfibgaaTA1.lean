import Derived.Test.YtlfflmoegfibgaaP5
import Derived.Test.YtlfflmoegfibgaaSY
import Derived.Test.YtlfflmoegfibgaaTA
import Derived.Test.YtlfflmoegfibgaaVLA
/- A part of the proof: TA1. No conditions of its own. -/
namespace Go.Proofs.Ytlfflmoegfibgaa
open Go.VL
attribute [local irreducible] VWr VOps VD Calls

/-- A row of a list of lists of one's own, wherever it lies. -/
theorem newLL_row {eo ei : Nat} {ls : List (List Int)} {v : Value} {new : Own} (h : NewLL eo ei ls v new) {i : Nat} {l : List Int} (hi : ls[i]? = some l) (h0 : 0 < l.length) :
    ∃ b cap br cr, v = .slice (some ⟨b, 0, none⟩) ls.length cap ∧ (∀ {Γ : Ctx} {own : Own}, Sub new own → Sees Γ own b (0 + i) (.slice (some ⟨br, 0, none⟩) l.length cr)) ∧ ∀ {Γ : Ctx} {own : Own}, Sub new own → ∀ j, j < l.length → Sees Γ own br (0 + j) (.int .i64 (l.getD j 0)) := by
  obtain ⟨vs, ns, outer, hR, hO, rfl⟩ := h
  obtain ⟨p, cap, rfl⟩ := hO.form
  have hlt := (List.getElem?_eq_some_iff.1 hi).1
  obtain ⟨bo, rfl, rfl⟩ := outer_blk hO (by omega)
  obtain ⟨u, hu⟩ : ∃ u, vs[i]? = some u := ⟨_, List.getElem?_eq_getElem (by rw [hR.len.1]; exact hlt)⟩
  obtain ⟨n, hn, hsn⟩ := hR.get hu hi
  obtain ⟨p2, cr, rfl⟩ := SlAt.form hn
  obtain ⟨br, rfl, rfl, h1, h2, h3⟩ := NewF.blk (NewI.f hn) h0
  refine ⟨bo, cap, br, cr, rfl, fun hs => sees_mem (hs _ (List.mem_append_left _ List.mem_cons_self)) (by rw [Nat.zero_add]; exact hu), fun hs j hj => sees_mem (hs _ (List.mem_append_right _ (hsn _ List.mem_cons_self))) (by rw [Nat.zero_add]; exact ints_get hj)⟩

/-- A list of numbers is the results of a round. -/
def RowR (n : Int) (r l : List Int) : Prop := l.length = (pairsTo r n.toNat).length ∧ ∀ x ∈ l, 0 ≤ x ∧ x ≤ 2
/-- Lists are results of rounds. -/
def IsRs (n : Int) (rs xs : List (List Int)) : Prop := xs.length ≤ rs.length ∧ ∀ (i : Nat) (r l : List Int), rs[i]? = some r → xs[i]? = some l → RowR n r l
open Classical in
noncomputable def areRs (n : Int) (rs xs : List (List Int)) : Bool × Int := if IsSch n rs then (decide (IsRs n rs xs), 0) else (false, 1)
noncomputable def rsC (n : Int) (rs xs : List (List Int)) (told : Prop) : Int := by
  classical exact if IsSch n rs then (if told ∧ IsRs n rs xs then 0 else 2) else 1
theorem rsC_no {n : Int} {rs xs : List (List Int)} {told : Prop} (h : ¬ IsSch n rs) : rsC n rs xs told = 1 := by unfold rsC; rw [if_neg h]
theorem rsC_two {n : Int} {rs xs : List (List Int)} {told : Prop} (h : IsSch n rs) (h2 : ¬ (told ∧ IsRs n rs xs)) : rsC n rs xs told = 2 := by unfold rsC; rw [if_pos h, if_neg h2]
theorem rsC_ok {n : Int} {rs xs : List (List Int)} {told : Prop} (h : IsSch n rs) (h2 : told) (h3 : IsRs n rs xs) : rsC n rs xs told = 0 := by unfold rsC; rw [if_pos h, if_pos ⟨h2, h3⟩]
theorem rsC_zero {n : Int} {rs xs : List (List Int)} {told : Prop} (h : rsC n rs xs told = 0) : IsSch n rs ∧ told ∧ IsRs n rs xs := by
  by_cases h1 : IsSch n rs
  · by_cases h2 : told ∧ IsRs n rs xs
    · exact ⟨h1, h2.1, h2.2⟩
    · rw [rsC_two h1 h2] at h; omega
  · rw [rsC_no h1] at h; omega
theorem mem_getD' {l : List Int} {x : Int} (h : x ∈ l) : ∃ j, j < l.length ∧ l.getD j 0 = x := by
  obtain ⟨j, hj⟩ := List.mem_iff_getElem?.1 h
  exact ⟨j, (List.getElem?_eq_some_iff.1 hj).1, by rw [List.getD_eq_getElem?_getD, hj]; rfl⟩

open Classical in
set_option maxHeartbeats 2000000 in
set_option maxRecDepth 100000 in
theorem c_l10Is (k : Nat) (v u : Value) (rs xs : List (List Int)) (hS : IsSch k rs) (w : World) (hv : RdS w v rs) (hu : RdII w u xs) (hr : ∀ r ∈ rs, r.length = 14) (hl2 : xs.length ≤ 1048576) (hll : ∀ l ∈ xs, l.length ≤ 1048576) :
    Calls Try.prog 72 [.agg #[.int .i64 k, v], u].toArray w (Res w (Is (.bool (decide (IsRs k rs xs))))) := by
  obtain ⟨a, cap, rfl⟩ := hv.len
  obtain ⟨a2, cap2, rfl⟩ := hu.len
  have hk2 := hS.1
  have hk14 := hS.2.1
  have hl40 := hS.2.2.1
  refine calls_of_vw Try.func72 rfl Try.ntmps72 (by simp) ?_
  refine vw_seq (vw_region (by kernel_rfl) (vops_box [.int .i64 k, .slice a rs.length cap] rfl (fun b0 hb0 => ?_)))
  repeat (first | refine vops_q tyOk rfl ?_ | refine vops_nil ?_ | refine vw_seq ?_ | refine vw_region (by kernel_rfl) ?_ | refine vw_cond rfl ?_ | ((show VOps _ _ _ _ (⟨some _, Go.Op.load _ _, _, _, _, none⟩ :: _) _ _); refine vops_loadM tyOk rfl rfl rfl (by repeat (first | exact mem_here | apply mem_next | apply mem_past)) (by rfl) ?_))
  refine bs_dec (fun hle => ?_) (fun hle => ?_)
  · repeat (first | refine vops_q tyOk rfl ?_ | refine vops_nil ?_ | refine vw_seq ?_ | refine vw_region (by kernel_rfl) ?_ | refine vw_ret ?_)
    exact rv_bool rfl rfl (decide_eq_false fun h => by have := h.1; omega).symm
  repeat (first | refine vops_q tyOk rfl ?_ | refine vops_nil ?_ | refine vw_seq ?_ | refine vw_region (by kernel_rfl) ?_ | refine vw_skip ?_ | refine vw_block ?_)
  refine vw_loopW (fun m f own => ∃ i : Nat, i ≤ xs.length ∧ m = xs.length - i ∧ f 5 = .int .i64 i ∧ f 1 = .slice a2 xs.length cap2 ∧ f 2 = .pointer (some ⟨b0, 0, none⟩) ∧ own = [(b0, ⟨[.int .i64 k, .slice a rs.length cap], 32, 2, none⟩)] ∧ ∀ (j : Nat) (r l : List Int), j < i → rs[j]? = some r → xs[j]? = some l → RowR k r l) xs.length
    ⟨_, ole_refl, 0, by omega, by omega, rfl, rfl, rfl, rfl, fun j r l hj => by omega⟩ ?_
  rintro m f own ⟨i, hi, rfl, h5, h1, h2, rfl, hall⟩
  rw [upd_of h5, upd_of h1, upd_of h2]
  repeat (first | refine vops_q tyOk rfl ?_ | refine vops_nil ?_ | refine vw_seq ?_ | refine vw_region (by kernel_rfl) ?_ | refine vw_cond rfl ?_)
  refine bs_dec (fun hlt => ?_) (fun hlt => ?_)
  · obtain ⟨r, hri⟩ : ∃ r, rs[i]? = some r := ⟨_, List.getElem?_eq_getElem (by omega)⟩
    obtain ⟨l, hli⟩ : ∃ l, xs[i]? = some l := ⟨_, List.getElem?_eq_getElem (by omega)⟩
    have hrl := hr r (List.mem_of_getElem? hri)
    have hl1 := hll l (List.mem_of_getElem? hli)
    obtain ⟨b2, o2, cap3, he, hrow⟩ := hv.row hr hri
    cases he
    obtain ⟨b', o, cap', x, he, hcu, hx⟩ := hu.at hli
    cases he
    obtain ⟨ax, capx, rfl⟩ := hx.len
    have hP := pairsTo_le r k
    repeat (first | refine vw_seq ?_ | refine vw_skip ?_ | refine vw_block ?_)
    refine vw_draw [0, 1, 2, 3, 4, 5, 6, 7, 8, 9, 10, 11, 12, 13, 14] (by kernel_rfl) (by kernel_rfl) (by kernel_rfl) rfl ?_
    repeat' (first | refine vd_q tyOk rfl (by first | trivial | rfl) rfl (by kernel_rfl) (by kernel_rfl) ?_ | refine vd_p tyOk rfl (by first | trivial | rfl) rfl (by kernel_rfl) (by kernel_rfl) (by (try simp only [inR]); omega) ?_ | refine vops_nil ?_ | refine vd_nil (by kernel_rfl) ?_ | refine ⟨fun _ _ _ h => List.mem_append_right _ h, ?_⟩ | refine vd_load tyOk rfl (by first | trivial | rfl) rfl rfl rfl (by kernel_rfl) (by kernel_rfl) (by kernel_rfl) (sees_mem (by repeat (first | exact mem_here | apply mem_next | apply mem_past)) (by rfl)) (by repeat (first | exact sub_hereL | exact sub_refl | apply sub_cons | apply sub_app)) ?_ | refine vd_load tyOk rfl (by first | trivial | rfl) rfl rfl rfl (by kernel_rfl) (by kernel_rfl) (by kernel_rfl) (sees_old hcu (by simp)) (by repeat (first | exact sub_hereL | exact sub_refl | apply sub_cons | apply sub_app)) ?_ | refine vd_loadN tyOk (ints r) rfl (by first | trivial | rfl) rfl rfl rfl (by rw [ints_length, hrl]) (by kernel_rfl) (by kernel_rfl) (by kernel_rfl) (fun j x hx => sees_old (hrow j x hx) (by simp)) (by repeat (first | exact sub_hereL | exact sub_refl | apply sub_cons | apply sub_app)) ?_ | (apply vops_call ent89 rfl; (intro w' hg; exact c_l01Pairs k r (by omega) (by omega) hrl w'); (intro _ newN hN; obtain ⟨_, _, rfl⟩ := NewLL.form hN)) | refine vd_one rfl (by kernel_rfl) (by kernel_rfl) rfl ?_)
    repeat (first | refine vw_cond rfl ?_)
    refine bs_ndec2 (fun h6 => ?_) (fun h6 => ?_)
    · repeat (first | refine vops_q tyOk rfl ?_ | refine vops_nil ?_ | refine vw_seq ?_ | refine vw_region (by kernel_rfl) ?_ | refine vw_ret ?_)
      exact rv_bool rfl rfl (decide_eq_false fun h => h6 (by have := (h.2 i r l hri hli).1; simp only [Int.toNat_natCast] at this ⊢; omega)).symm
    repeat (first | refine vops_q tyOk rfl ?_ | refine vops_nil ?_ | refine vw_seq ?_ | refine vw_region (by kernel_rfl) ?_ | refine vw_skip ?_ | refine vw_block ?_)
    refine vw_loopW (fun m f own => ∃ j : Nat, j ≤ l.length ∧ m = l.length - j ∧ f 6 = .int .i64 j ∧ f 5 = .int .i64 i ∧ f 1 = .slice (some ⟨b', o, none⟩) xs.length cap2 ∧ f 2 = .pointer (some ⟨b0, 0, none⟩) ∧ own = [(b0, ⟨[.int .i64 k, .slice (some ⟨b2, o2, none⟩) rs.length cap], 32, 2, none⟩)] ∧ ∀ j' : Nat, j' < j → 0 ≤ l.getD j' 0 ∧ l.getD j' 0 ≤ 2) l.length
      ⟨[(b0, _)], (by repeat (first | exact ole_nil | exact ole_refl | (apply ole_cons; (repeat (first | exact pm1_here | apply pm1_next | apply pm1_past))) | (apply ole_app; (repeat (first | exact pm_here | exact pm_last | apply pm_next | apply pm_past))))), 0, by omega, by omega, rfl, rfl, rfl, rfl, rfl, fun j hj => by omega⟩ ?_
    rintro m f own ⟨j, hj, rfl, h6', h5, h1, h2, rfl, hall2⟩
    rw [upd_of h6', upd_of h5, upd_of h1, upd_of h2]
    repeat (first | refine vops_q tyOk rfl ?_ | refine vops_nil ?_ | refine vw_seq ?_ | refine vw_region (by kernel_rfl) ?_ | refine vops_p tyOk rfl (by (try simp only [inR]); omega) ?_ | refine vw_cond rfl ?_ | refine vops_load tyOk rfl rfl rfl (sees_old hcu (by simp)) ?_)
    refine bs_dec (fun hlt2 => ?_) (fun hlt2 => ?_)
    · have hjl : j < l.length := by omega
      obtain ⟨b3, o3, cap4, he, hcell⟩ := hx.at (i := j) hjl
      cases he
      have hc := hcell j hjl
      repeat (first | refine vops_q tyOk rfl ?_ | refine vops_nil ?_ | refine vw_seq ?_ | refine vw_region (by kernel_rfl) ?_ | refine vops_p tyOk rfl (by (try simp only [inR]); omega) ?_ | refine vw_cond rfl ?_ | refine vw_skip ?_ | refine vw_block ?_ | refine vops_load tyOk rfl rfl rfl (sees_old hcu (by simp)) ?_ | refine vops_load tyOk rfl rfl rfl (sees_old hc (by simp)) ?_ | (apply vops_callp ent134 rfl; (intro w _; exact c_l01In _ _ _ w)))
      refine bs_ndec2 (fun h7 => ?_) (fun h7 => ?_)
      · repeat (first | refine vops_q tyOk rfl ?_ | refine vops_nil ?_ | refine vw_seq ?_ | refine vw_region (by kernel_rfl) ?_ | refine vw_ret ?_)
        exact rv_bool rfl rfl (decide_eq_false fun h => h7 ((h.2 i r l hri hli).2 _ (mem_getD hjl))).symm
      repeat (first | refine vops_q tyOk rfl ?_ | refine vops_nil ?_ | refine vw_region (by kernel_rfl) ?_ | refine vops_p tyOk rfl (by (try simp only [inR]); omega) ?_ | refine vw_skip ?_)
      refine ⟨l.length - (j + 1), by omega, _, ole_refl, j + 1, by omega, rfl, rfl, rfl, rfl, rfl, rfl, fun j' hj' => ?_⟩
      by_cases hji : j' = j
      · subst hji; exact h7
      · exact hall2 j' (by omega)
    · repeat (first | refine vops_q tyOk rfl ?_ | refine vops_nil ?_ | refine vw_region (by kernel_rfl) ?_ | refine vops_p tyOk rfl (by (try simp only [inR]); omega) ?_ | refine vw_exit ?_)
      refine ⟨xs.length - (i + 1), by omega, _, ole_refl, i + 1, by omega, rfl, rfl, rfl, rfl, rfl, fun j2 r' l' hj2 hj3 hj4 => ?_⟩
      by_cases hji : j2 = i
      · subst hji
        obtain rfl : l = l' := Option.some.inj (hli.symm.trans hj4)
        obtain rfl : r = r' := Option.some.inj (hri.symm.trans hj3)
        refine ⟨by simp only [Int.toNat_natCast] at h6 ⊢; omega, fun x hx => ?_⟩
        obtain ⟨q, hq, rfl⟩ := mem_getD' hx
        exact hall2 q (by omega)
      · exact hall j2 r' l' (by omega) hj3 hj4
  · repeat (first | refine vops_q tyOk rfl ?_ | refine vops_nil ?_ | refine vw_seq ?_ | refine vw_region (by kernel_rfl) ?_ | refine vw_ret ?_ | refine vw_exit ?_)
    exact rv_bool rfl rfl (decide_eq_true ⟨by omega, fun j r l hj hj2 => hall j r l (by have := (List.getElem?_eq_some_iff.1 hj2).1; omega) hj hj2⟩).symm

open Classical in
theorem c_spec_AreResults (n : Int) (v u : Value) (rs xs : List (List Int)) (w : World) (hv : RdS w v rs) (hu : RdII w u xs) (hr : ∀ r ∈ rs, r.length = 14) (hl : rs.length ≤ 1048576) (hl2 : xs.length ≤ 1048576) (hll : ∀ l ∈ xs, l.length ≤ 1048576) :
    Calls Try.prog 16 [.agg #[.int .i64 n, v], u].toArray w (Res w (Is (.tuple #[.bool (areRs n rs xs).1, .int .i64 (areRs n rs xs).2]))) := by
  obtain ⟨a, cap, rfl⟩ := hv.len
  obtain ⟨a2, cap2, rfl⟩ := hu.len
  refine calls_of_vw Try.func16 rfl Try.ntmps16 (by simp) ?_
  refine vw_seq (vw_region (by kernel_rfl) (vops_box [.int .i64 n, .slice a rs.length cap] rfl (fun b0 hb0 => ?_)))
  repeat (first | refine vops_q tyOk rfl ?_ | refine vops_nil ?_ | refine vw_seq ?_ | refine vw_region (by kernel_rfl) ?_ | refine vw_cond rfl ?_ | (apply vops_callp ent71 rfl; (intro w' hg; exact c_l01Is n _ rs w' (hv.same hg.fr) hr (by simp only [maxLen]; omega))) | ((show VOps _ _ _ _ (⟨some _, Go.Op.load _ _, _, _, _, none⟩ :: _) _ _); refine vops_loadNM tyOk rfl rfl rfl (by repeat (first | exact mem_here | apply mem_next | apply mem_past)) (by first | rfl | (rw [ints_length]; first | assumption | omega | (rw [ints_length]; first | assumption | omega | simp [*])) | simp [*]) ?_))
  refine bs_ndec2 (fun h => ?_) (fun h => ?_)
  · repeat (first | refine vops_q tyOk rfl ?_ | refine vops_nil ?_ | refine vw_seq ?_ | refine vw_region (by kernel_rfl) ?_ | refine vw_ret ?_)
    exact out_bv rfl rfl rfl rfl (by rw [areRs, if_neg h])
  have hn := h.1
  obtain ⟨k, rfl⟩ : ∃ k : Nat, n = (k : Int) := ⟨n.toNat, by omega⟩
  repeat (first | refine vops_q tyOk rfl ?_ | refine vops_nil ?_ | refine vw_seq ?_ | refine vw_region (by kernel_rfl) ?_ | refine vw_skip ?_ | refine vw_ret ?_ | (apply vops_callp ent72 rfl; (intro w' hg; exact c_l10Is k _ _ rs xs h w' (hv.same hg.fr) (hu.same hg.fr) hr hl2 hll)) | ((show VOps _ _ _ _ (⟨some _, Go.Op.load _ _, _, _, _, none⟩ :: _) _ _); refine vops_loadNM tyOk rfl rfl rfl (by repeat (first | exact mem_here | apply mem_next | apply mem_past)) (by first | rfl | (rw [ints_length]; first | assumption | omega | (rw [ints_length]; first | assumption | omega | simp [*])) | simp [*]) ?_))
  exact out_bv rfl rfl rfl rfl (by rw [areRs, if_pos h])
end Go.Proofs.Ytlfflmoegfibgaa
