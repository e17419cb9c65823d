import Derived.Test.YtnammdmiljjhjaaGC
import Derived.Test.YtnammdmiljjhjaaGD
import Derived.Test.YtnammdmiljjhjaaUD
import Derived.Test.YtnammdmiljjhjaaVLA
/- A part of the proof: X11. No conditions of its own. -/
namespace Go.Proofs.Ytnammdmiljjhjaa
open Go.VL
attribute [local irreducible] VWr VOps VD Calls

set_option maxRecDepth 100000 in
theorem c_idxP (k : Nat) (v : Value) (l : List Int) (x : Nat) (hx : x < k) (hk : k ≤ 1000) (hl : IsPerm k l) (w : World) (hv : RdI w v l) :
    Calls Try.prog 59 [v, .int .i64 x].toArray w (Res w (Is (.int .i64 (posI l x)))) := by
  obtain ⟨a, cap, rfl⟩ := hv.len
  have hll := hl.1
  have hp := pos_lt hl hx
  refine calls_of_vw Try.func59 rfl Try.ntmps59 (by simp) ?_
  repeat (first | refine vops_q tyOk rfl ?_ | refine vops_nil ?_ | refine vw_seq ?_ | refine vw_region (by kernel_rfl) ?_ | refine vw_block ?_)
  refine vw_loop (fun m' f own => ∃ i : Nat, i ≤ posI l x ∧ m' = l.length - i ∧ f 8 = .int .i64 i ∧ f 7 = .int .i64 l.length ∧ f 0 = .slice a l.length cap ∧ f 1 = .int .i64 x ∧ own = []) l.length
    ⟨0, by omega, by omega, rfl, rfl, rfl, rfl, rfl⟩ ?_
  rintro m' f own ⟨i, hi, rfl, h8, h7, h0, h1, rfl⟩
  rw [upd_of h8, upd_of h7, upd_of h0, upd_of h1]
  repeat (first | refine vops_q tyOk rfl ?_ | refine vops_nil ?_ | refine vw_seq ?_ | refine vw_region (by kernel_rfl) ?_ | refine vw_cond rfl ?_)
  refine bs_dec (fun h4 => ?_) (fun h4 => ?_)
  · have hil : i < l.length := by omega
    obtain ⟨b', o, cap', hee, hcell⟩ := hv.at (i := i) hil
    cases hee
    have hc := hcell i hil
    repeat (first | refine vops_q tyOk rfl ?_ | refine vops_nil ?_ | refine vw_seq ?_ | refine vw_region (by kernel_rfl) ?_ | refine vops_p tyOk rfl (by (try simp only [inR]); omega) ?_ | refine vw_cond rfl ?_ | refine vw_skip ?_ | refine vw_block ?_ | refine vops_load tyOk rfl rfl rfl (sees_old hc (by simp)) ?_)
    refine bs_dec (fun h6 => ?_) (fun h6 => ?_)
    · repeat (first | refine vops_q tyOk rfl ?_ | refine vops_nil ?_ | refine vw_seq ?_ | refine vw_region (by kernel_rfl) ?_ | refine vw_ret ?_)
      exact rv_int rfl rfl (by rw [(getD_iff hl (by omega)).1 h6.symm])
    repeat (first | refine vops_q tyOk rfl ?_ | refine vops_nil ?_ | refine vw_region (by kernel_rfl) ?_ | refine vops_p tyOk rfl (by (try simp only [inR]); omega) ?_ | refine vw_skip ?_)
    refine ⟨l.length - (i + 1), by omega, i + 1, ?_, rfl, rfl, rfl, rfl, rfl, rfl⟩
    have : i ≠ posI l x := fun e => h6 (by rw [e]; exact (pos_get hl hx).symm)
    omega
  · exfalso; omega

open Classical in
noncomputable def groupR (n g : Int) (ls : List (List Int)) (i a : Int) : List Int × Int :=
  if IsGf n g ls then (if (0 ≤ i ∧ i < ls.length) ∧ (0 ≤ a ∧ a < n) then (sortL (grpAt g.toNat (ls.getD i.toNat []) a.toNat), 0) else ([], 2)) else ([], 1)
theorem groupR_len (n g : Int) (ls : List (List Int)) (i a : Int) : (groupR n g ls i a).1.length ≤ 1048576 := by
  unfold groupR
  split
  · rename_i h
    have h25 := h.2.1
    have hg := h.gle
    split
    · show (sortL _).length ≤ _
      rw [sortL_length]
      unfold grpAt
      rw [List.length_take]; omega
    · simp
  · simp
theorem gf_dvd {k d : Nat} {ls : List (List Int)} (h : IsGf k d ls) : k % d = 0 := by have h := h.2.2.2.1; exact_mod_cast h

open Classical in
set_option maxHeartbeats 2000000 in
set_option maxRecDepth 100000 in
theorem c_impl_GroupOf (m g i x : Int) (v : Value) (ls : List (List Int)) (w : World) (hv : RdCC w v ls) (hl : ls.length ≤ 1048576) (hll : ∀ l ∈ ls, l.length ≤ 1048576) :
    Calls Try.prog 17 [.agg #[.int .i64 m, .int .i64 g, v], .int .i64 i, .int .i64 x].toArray w (Res w (PairI 2 (groupR m g ls i x))) := by
  obtain ⟨a, cap, rfl⟩ := hv.len
  refine calls_of_vw Try.func17 rfl Try.ntmps17 (by simp) ?_
  refine vw_seq (vw_region (by kernel_rfl) (vops_box [.int .i64 m, .int .i64 g, .slice a ls.length cap] rfl (fun b2 hb2 => ?_)))
  by_cases hi : 0 ≤ i ∧ i < ls.length
  rotate_left
  · repeat (first | refine vops_q tyOk rfl ?_ | refine vops_nil ?_ | refine vw_seq ?_)
    refine vw_draw [0, 1, 2, 3, 4, 5, 6, 7, 8, 9, 10, 11, 12, 13] (by kernel_rfl) (by kernel_rfl) (by kernel_rfl) rfl ?_
    repeat' (first | refine vd_q tyOk rfl (by first | trivial | rfl) rfl (by kernel_rfl) (by kernel_rfl) ?_ | refine vd_skipF rfl rfl (by kernel_rfl) (by kernel_rfl) ?_ | refine vops_nil ?_ | refine vd_nil (by kernel_rfl) ?_ | refine ⟨fun _ _ _ h => h, ?_⟩ | refine vd_load tyOk rfl (by first | trivial | rfl) rfl rfl rfl (by kernel_rfl) (by kernel_rfl) (by kernel_rfl) (sees_mem (by repeat (first | exact mem_here | apply mem_next | apply mem_past)) (by rfl)) (by repeat (first | exact sub_hereL | exact sub_refl | apply sub_cons | apply sub_app)) ?_ | refine vd_loadNM tyOk rfl (by first | trivial | rfl) rfl rfl rfl (by repeat (first | exact mem_here | apply mem_next | apply mem_past)) (by first | rfl | (rw [ints_length]; first | assumption | omega | (rw [ints_length]; first | assumption | omega | simp [*])) | simp [*]) (by kernel_rfl) (by kernel_rfl) (by kernel_rfl) (by repeat (first | exact sub_hereL | exact sub_refl | apply sub_cons | apply sub_app)) ?_ | (apply vops_callp ent58 rfl; (intro w _; exact c_isBelow _ _ w)) | (apply vops_callp ent57 rfl; (intro w' hg; exact c_codeOfGolf _ _ _ ls _ w' (hv.rd.same hg.fr) hl hll)) | refine vd_one rfl (by kernel_rfl) (by kernel_rfl) rfl ?_ | (refine vd_gsplit rfl rfl rfl ?_; (fail_if_success (with_reducible (first | refine bs_true ?_ | refine bs_false ?_))); with_reducible refine bs_dec (fun _ => ?_) (fun _ => ?_)) <;> try (exfalso; omega))
    all_goals try (exfalso; omega)
    have hcd : codeG m g ls false = if IsGf m g ls then 2 else 1 := by unfold codeG; rw [if_neg Bool.false_ne_true]
    rw [hcd]
    by_cases h : IsGf m g ls
    · rw [if_pos h]
      repeat (first | refine vops_q tyOk rfl ?_ | refine vops_nil ?_ | refine vw_seq ?_ | refine vw_region (by kernel_rfl) ?_ | refine vw_cond rfl ?_)
      refine bs_ndec2 (fun _ => ?_) (fun hh => by omega)
      repeat (first | refine vops_q tyOk rfl ?_ | refine vops_nil ?_ | refine vw_seq ?_ | refine vw_region (by kernel_rfl) ?_ | refine vw_ret ?_)
      exact pairI_err rfl rfl rfl (by rw [groupR, if_pos h, if_neg fun hh => hi hh.1])
    · rw [if_neg h]
      repeat (first | refine vops_q tyOk rfl ?_ | refine vops_nil ?_ | refine vw_seq ?_ | refine vw_region (by kernel_rfl) ?_ | refine vw_cond rfl ?_)
      refine bs_ndec2 (fun _ => ?_) (fun hh => by omega)
      repeat (first | refine vops_q tyOk rfl ?_ | refine vops_nil ?_ | refine vw_seq ?_ | refine vw_region (by kernel_rfl) ?_ | refine vw_ret ?_)
      exact pairI_err rfl rfl rfl (by rw [groupR, if_neg h])
  repeat (first | refine vops_q tyOk rfl ?_ | refine vops_nil ?_ | refine vw_seq ?_)
  refine vw_draw [0, 1, 2, 3, 4, 5, 6, 7, 8, 9, 10, 11, 12, 13] (by kernel_rfl) (by kernel_rfl) (by kernel_rfl) rfl ?_
  repeat' (first | refine vd_q tyOk rfl (by first | trivial | rfl) rfl (by kernel_rfl) (by kernel_rfl) ?_ | refine vops_nil ?_ | refine vd_nil (by kernel_rfl) ?_ | refine ⟨fun _ _ _ h => h, ?_⟩ | refine vd_load tyOk rfl (by first | trivial | rfl) rfl rfl rfl (by kernel_rfl) (by kernel_rfl) (by kernel_rfl) (sees_mem (by repeat (first | exact mem_here | apply mem_next | apply mem_past)) (by rfl)) (by repeat (first | exact sub_hereL | exact sub_refl | apply sub_cons | apply sub_app)) ?_ | refine vd_loadNM tyOk rfl (by first | trivial | rfl) rfl rfl rfl (by repeat (first | exact mem_here | apply mem_next | apply mem_past)) (by first | rfl | (rw [ints_length]; first | assumption | omega | (rw [ints_length]; first | assumption | omega | simp [*])) | simp [*]) (by kernel_rfl) (by kernel_rfl) (by kernel_rfl) (by repeat (first | exact sub_hereL | exact sub_refl | apply sub_cons | apply sub_app)) ?_ | (apply vops_callp ent58 rfl; (intro w _; exact c_isBelow _ _ w)) | (apply vops_callp ent57 rfl; (intro w' hg; exact c_codeOfGolf _ _ _ ls _ w' (hv.rd.same hg.fr) hl hll)) | refine vd_one rfl (by kernel_rfl) (by kernel_rfl) rfl ?_ | refine vd_oneG rfl (by kernel_rfl) (by kernel_rfl) rfl ?_ | (refine vd_gsplit rfl rfl rfl ?_; (fail_if_success (with_reducible (first | refine bs_true ?_ | refine bs_false ?_))); with_reducible refine bs_dec (fun _ => ?_) (fun _ => ?_)) <;> try (exfalso; omega))
  all_goals try (exfalso; omega)
  have hcd := codeG_dec (n := m) (g := g) (ls := ls) (p := 0 ≤ x ∧ x < m) rfl
  rw [hcd]
  by_cases h : IsGf m g ls
  rotate_left
  · rw [if_neg h]
    repeat (first | refine vops_q tyOk rfl ?_ | refine vops_nil ?_ | refine vw_seq ?_ | refine vw_region (by kernel_rfl) ?_ | refine vw_cond rfl ?_)
    refine bs_ndec2 (fun _ => ?_) (fun hh => by omega)
    repeat (first | refine vops_q tyOk rfl ?_ | refine vops_nil ?_ | refine vw_seq ?_ | refine vw_region (by kernel_rfl) ?_ | refine vw_ret ?_)
    exact pairI_err rfl rfl rfl (by rw [groupR, if_neg h])
  rw [if_pos h]
  by_cases hx : 0 ≤ x ∧ x < m
  rotate_left
  · rw [if_neg hx]
    repeat (first | refine vops_q tyOk rfl ?_ | refine vops_nil ?_ | refine vw_seq ?_ | refine vw_region (by kernel_rfl) ?_ | refine vw_cond rfl ?_)
    refine bs_ndec2 (fun _ => ?_) (fun hh => by omega)
    repeat (first | refine vops_q tyOk rfl ?_ | refine vops_nil ?_ | refine vw_seq ?_ | refine vw_region (by kernel_rfl) ?_ | refine vw_ret ?_)
    exact pairI_err rfl rfl rfl (by rw [groupR, if_pos h, if_neg fun hh => hx hh.2])
  rw [if_pos hx]
  have hm2 := h.1
  have hm25 := h.2.1
  have hg2 := h.2.2.1
  have hgle := h.gle
  obtain ⟨k, d, rfl, rfl⟩ := h.nat
  obtain ⟨t, rfl⟩ : ∃ t : Nat, i = (t : Int) := ⟨i.toNat, by omega⟩
  obtain ⟨z, rfl⟩ : ∃ z : Nat, x = (z : Int) := ⟨x.toNat, by omega⟩
  have hR : groupR k d ls t z = (sortL (grpAt d (ls.getD t []) z), 0) := by rw [groupR, if_pos h, if_pos ⟨hi, hx⟩, Int.toNat_natCast, Int.toNat_natCast, Int.toNat_natCast]
  rw [hR]
  have htl : t < ls.length := by omega
  obtain ⟨b, o, cap', u, cap2, he, hcu, hu⟩ := hv.row (i := t) htl
  cases he
  have hgt : ls[t]? = some (ls.getD t []) := by rw [List.getD_eq_getElem?_getD, List.getElem?_eq_getElem htl]; rfl
  have hrow := h.row hgt
  generalize ls.getD t [] = r at *
  have hrl : r.length = k := by have := hrow.1; omega
  have hcap2 : r.length ≤ cap2 := hu.2
  rw [hrl] at hcu hu hcap2
  obtain ⟨bu, ou, cu, hue, hcell⟩ := hu.1.at (i := 0) (by omega)
  rw [hrl] at hue
  obtain ⟨rfl, rfl⟩ : u = some ⟨bu, ou, none⟩ ∧ cap2 = cu := by injection hue with e1 e2 e3; exact ⟨e1, e3⟩
  have hp := pos_lt hrow (show z < k by omega)
  have hgb := grp_bound hrow (gf_dvd h) (show z < k by omega)
  obtain ⟨P, hP⟩ : ∃ P, P = posI r z := ⟨_, rfl⟩
  obtain ⟨O, hO⟩ : ∃ O, O = posI r z / d * d := ⟨_, rfl⟩
  rw [← hO] at hgb
  have hmod : (P : Int) - (P : Int) % (d : Int) = (O : Int) := by
    have h1 := Nat.div_add_mod P d
    have h2 : O = d * (P / d) := by rw [hO, hP, Nat.mul_comm]
    have h3 : ((P % d : Nat) : Int) = (P : Int) % (d : Int) := by push_cast; rfl
    omega
  have hm0 : 0 ≤ (P : Int) % (d : Int) := Int.emod_nonneg _ (by omega)
  have hgrp : grpAt d r z = (r.drop O).take d := by rw [hO]; rfl
  rw [hgrp]
  have hlen : ((r.drop O).take d).length = d := by rw [List.length_take, List.length_drop]; omega
  have e1 : ((P : Int) - (P : Int) % (d : Int)).toNat = O := by rw [hmod]; omega
  have e2 : ((P : Int) - (P : Int) % (d : Int) + (d : Int)).toNat = O + d := by rw [hmod]; omega
  have hsl : sliced (some ⟨bu, ou, none⟩) ((P : Int) - (P : Int) % (d : Int)).toNat ((P : Int) - (P : Int) % (d : Int) + (d : Int)).toNat cap2 1 = .slice (some ⟨bu, ou + O, none⟩) d (cap2 - O) := by
    have hco : ¬ cap2 = O := by omega
    rw [e1, e2]
    by_cases h0 : O = 0
    · have hc0 : ¬ cap2 = 0 := by omega
      simp [sliced, Addr.add, h0, hc0]
    · simp [sliced, Addr.add, h0, hco]
  have hslr : ∀ w', Fr [] w w' → RdI w' (sliced (some ⟨bu, ou, none⟩) ((P : Int) - (P : Int) % (d : Int)).toNat ((P : Int) - (P : Int) % (d : Int) + (d : Int)).toNat cap2 1) ((r.drop O).take d) := fun w' hf => by
    rw [hsl]; exact rdI_part (hu.1.same hf) (by omega) _
  repeat (first | refine vops_q tyOk rfl ?_ | refine vops_nil ?_ | refine vw_seq ?_ | refine vw_region (by kernel_rfl) ?_ | refine vw_cond rfl ?_)
  refine bs_ndec2 (fun hh => absurd rfl hh) (fun _ => ?_)
  repeat (first | refine vops_q tyOk rfl ?_ | refine vops_nil ?_ | refine vw_seq ?_ | refine vw_region (by kernel_rfl) ?_ | refine vops_p tyOk rfl (by (try simp only [inR]); omega) ?_ | refine vw_skip ?_ | refine vops_load tyOk rfl rfl rfl (sees_old hcu (by simp)) ?_ | (apply vops_callp ent59 rfl; (intro w' hg; exact c_idxP k _ r z (by omega) (by omega) hrow w' (hu.1.same hg.fr))) | ((show VOps _ _ _ _ (⟨some _, Go.Op.load _ _, _, _, _, none⟩ :: _) _ _); refine vops_loadM tyOk rfl rfl rfl (by repeat (first | exact mem_here | apply mem_next | apply mem_past)) (by rfl) ?_))
  rw [← hP]
  repeat (first | refine vops_q tyOk rfl ?_ | refine vops_nil ?_ | refine vw_seq ?_ | refine vops_p tyOk rfl (by (try simp only [inR]); omega) ?_)
  refine vw_draw [0, 1, 2, 3, 4, 5, 6, 7, 8, 9, 10, 11, 12] (by kernel_rfl) (by kernel_rfl) (by kernel_rfl) rfl ?_
  repeat' (first | refine vd_q tyOk rfl (by first | trivial | rfl) rfl (by kernel_rfl) (by kernel_rfl) ?_ | refine vd_p tyOk rfl (by first | trivial | rfl) rfl (by kernel_rfl) (by kernel_rfl) (by (try simp only [inR]); omega) ?_ | refine vops_nil ?_ | refine vd_nil (by kernel_rfl) ?_ | refine ⟨fun _ _ _ h => List.mem_append_right _ h, ?_⟩ | refine vd_load tyOk rfl (by first | trivial | rfl) rfl rfl rfl (by kernel_rfl) (by kernel_rfl) (by kernel_rfl) (sees_mem (by repeat (first | exact mem_here | apply mem_next | apply mem_past)) (by rfl)) (by repeat (first | exact sub_hereL | exact sub_refl | apply sub_cons | apply sub_app)) ?_ | refine vd_slice tyOk rfl (by first | trivial | rfl) rfl rfl rfl rfl rfl (by kernel_rfl) (by kernel_rfl) (by omega) ?_ | refine vd_load tyOk rfl (by first | trivial | rfl) rfl rfl rfl (by kernel_rfl) (by kernel_rfl) (by kernel_rfl) (sees_old hcu (by simp)) (by repeat (first | exact sub_hereL | exact sub_refl | apply sub_cons | apply sub_app)) ?_ | (apply vops_call ent60 rfl; (intro w' hg; exact c_clone _ ((r.drop O).take d) w' (hslr w' hg.fr) (by omega)); (intro _ newN hN; obtain ⟨pN, cN, rfl⟩ := SlAt.form hN)) | refine vd_one rfl (by kernel_rfl) (by kernel_rfl) rfl ?_)
  obtain ⟨bn, rfl, rfl⟩ : ∃ bn, pN = some ⟨bn, 0, none⟩ ∧ newN = [(bn, ⟨ints ((r.drop O).take d), 2, cN * 1, none⟩)] := by
    rcases hN.2 with ⟨_, h, _⟩ | ⟨bn, c, h1, _, _, h4⟩
    · omega
    · injection h1 with h1 _ h3; subst h3; exact ⟨bn, h1, h4⟩
  have hNc : d ≤ cN ∧ cN ≤ maxLen := by
    rcases hN.2 with ⟨_, h, _⟩ | ⟨bn, c, h1, h2, h3, _⟩
    · omega
    · injection h1 with _ _ h5; subst h5; rw [hlen] at h2; exact ⟨h2, h3⟩
  repeat (first | refine vops_q tyOk rfl ?_ | refine vw_seq ?_ | refine vw_region (by kernel_rfl) ?_)
  refine vops_callM ent61 rfl (own0 := [(bn, ⟨ints ((r.drop O).take d), 2, cN * 1, none⟩)]) (by repeat (first | exact pm_here | exact pm_last | apply pm_next | apply pm_past)) (fun w' hg => c_sortI bn 2 (cN * 1) ((r.drop O).take d) w' (okS hg) (by omega) cN) ?_
  rintro _ newM ⟨rfl, rfl⟩
  repeat (first | refine vops_q tyOk rfl ?_ | refine vops_nil ?_ | refine vw_seq ?_ | refine vw_region (by kernel_rfl) ?_ | refine vw_ret ?_)
  have hsl2 : (sortL ((r.drop O).take d)).length = ((r.drop O).take d).length := sortL_length _
  exact pairI_ok rfl rfl rfl (show NewI 2 (sortL ((r.drop O).take d)) (.slice (some ⟨bn, 0, none⟩) ((r.drop O).take d).length cN) [(bn, ⟨ints (sortL ((r.drop O).take d)), 2, cN * 1, none⟩)] by
    rw [← hsl2]; exact NewI.lit (by rfl) (by omega) hNc.2) (by repeat (first | exact sub_hereL | exact sub_refl | apply sub_cons | apply sub_app)) rfl

open Classical in
set_option maxHeartbeats 1000000 in
set_option maxRecDepth 100000 in
theorem c_spec_GroupOf (m g i x : Int) (v : Value) (ls : List (List Int)) (w : World) (hv : RdCC w v ls) (hl : ls.length ≤ 1048576) (hll : ∀ l ∈ ls, l.length ≤ 1048576) :
    Calls Try.prog 18 [.agg #[.int .i64 m, .int .i64 g, v], .int .i64 i, .int .i64 x].toArray w (Res w (PairI 2 (groupR m g ls i x))) := by
  obtain ⟨a, cap, rfl⟩ := hv.len
  refine calls_of_vw Try.func18 rfl Try.ntmps18 (by simp) ?_
  refine vw_seq (vw_region (by kernel_rfl) (vops_box [.int .i64 m, .int .i64 g, .slice a ls.length cap] rfl (fun b3 hb3 => ?_)))
  have hcd : code8 m g ls i [x] = if IsGf m g ls then (if (0 ≤ i ∧ i < ls.length) ∧ (0 ≤ x ∧ x < m) then 0 else 2) else 1 := by
    unfold code8
    simp only [List.mem_singleton, forall_eq]
  repeat (first | refine vops_q tyOk rfl ?_ | refine vops_nil ?_ | refine vw_seq ?_ | refine vw_region (by kernel_rfl) ?_ | refine vw_cond rfl ?_ | refine vops_litI [_] tyOk rfl rfl (List.cons_ne_nil _ _) (by rfl) rfl (by omega) (by omega) (fun bt hbt => ?_) | (apply vops_callp ent62 rfl; (intro w' hg; exact c_l08Code _ _ i _ _ ls [x] w' (hv.rd.same hg.fr) (rdI_lit (l := [x]) (by repeat (first | exact mem_here | apply mem_next | apply mem_past)) hg rfl) hl hll (by simp))) | ((show VOps _ _ _ _ (⟨some _, Go.Op.load _ _, _, _, _, none⟩ :: _) _ _); refine vops_loadNM tyOk rfl rfl rfl (by repeat (first | exact mem_here | apply mem_next | apply mem_past)) (by first | rfl | (rw [ints_length]; first | assumption | omega | (rw [ints_length]; first | assumption | omega | simp [*])) | simp [*]) ?_))
  rw [hcd]
  by_cases h : IsGf m g ls
  rotate_left
  · rw [if_neg h]
    skip
    refine bs_ndec2 (fun _ => ?_) (fun hh => by omega)
    repeat (first | refine vops_q tyOk rfl ?_ | refine vops_nil ?_ | refine vw_seq ?_ | refine vw_region (by kernel_rfl) ?_ | refine vw_ret ?_)
    exact pairI_err rfl rfl rfl (by rw [groupR, if_neg h])
  rw [if_pos h]
  by_cases hx : (0 ≤ i ∧ i < ls.length) ∧ (0 ≤ x ∧ x < m)
  rotate_left
  · rw [if_neg hx]
    skip
    refine bs_ndec2 (fun _ => ?_) (fun hh => by omega)
    repeat (first | refine vops_q tyOk rfl ?_ | refine vops_nil ?_ | refine vw_seq ?_ | refine vw_region (by kernel_rfl) ?_ | refine vw_ret ?_)
    exact pairI_err rfl rfl rfl (by rw [groupR, if_pos h, if_neg hx])
  rw [if_pos hx]
  have hm2 := h.1
  have hm25 := h.2.1
  have hg2 := h.2.2.1
  have hgle := h.gle
  obtain ⟨k, d, rfl, rfl⟩ := h.nat
  obtain ⟨t, rfl⟩ : ∃ t : Nat, i = (t : Int) := ⟨i.toNat, by omega⟩
  obtain ⟨z, rfl⟩ : ∃ z : Nat, x = (z : Int) := ⟨x.toNat, by omega⟩
  have hR : groupR k d ls t z = (sortL (grpAt d (ls.getD t []) z), 0) := by rw [groupR, if_pos h, if_pos hx, Int.toNat_natCast, Int.toNat_natCast, Int.toNat_natCast]
  rw [hR]
  have htl : t < ls.length := by omega
  obtain ⟨b, o, cap', u, cap2, he, hcu, hu⟩ := hv.row (i := t) htl
  cases he
  have hgt : ls[t]? = some (ls.getD t []) := by rw [List.getD_eq_getElem?_getD, List.getElem?_eq_getElem htl]; rfl
  have hrow := h.row hgt
  generalize ls.getD t [] = r at *
  skip
  refine bs_ndec2 (fun hh => absurd rfl hh) (fun _ => ?_)
  repeat (first | refine vw_seq ?_ | refine vw_skip ?_)
  refine vw_draw [0, 1, 2, 3, 4, 5, 6, 7, 8, 9] (by kernel_rfl) (by kernel_rfl) (by kernel_rfl) rfl ?_
  repeat' (first | refine vd_q tyOk rfl (by first | trivial | rfl) rfl (by kernel_rfl) (by kernel_rfl) ?_ | refine vd_p tyOk rfl (by first | trivial | rfl) rfl (by kernel_rfl) (by kernel_rfl) (by (try simp only [inR]); omega) ?_ | refine vops_nil ?_ | refine vd_nil (by kernel_rfl) ?_ | refine ⟨fun _ _ _ h => List.mem_append_right _ h, ?_⟩ | refine vd_load tyOk rfl (by first | trivial | rfl) rfl rfl rfl (by kernel_rfl) (by kernel_rfl) (by kernel_rfl) (sees_mem (by repeat (first | exact mem_here | apply mem_next | apply mem_past)) (by rfl)) (by repeat (first | exact sub_hereL | exact sub_refl | apply sub_cons | apply sub_app)) ?_ | refine vd_loadNM tyOk rfl (by first | trivial | rfl) rfl rfl rfl (by repeat (first | exact mem_here | apply mem_next | apply mem_past)) (by first | rfl | (rw [ints_length]; first | assumption | omega | (rw [ints_length]; first | assumption | omega | simp [*])) | simp [*]) (by kernel_rfl) (by kernel_rfl) (by kernel_rfl) (by repeat (first | exact sub_hereL | exact sub_refl | apply sub_cons | apply sub_app)) ?_ | refine vd_load tyOk rfl (by first | trivial | rfl) rfl rfl rfl (by kernel_rfl) (by kernel_rfl) (by kernel_rfl) (sees_old hcu (by simp)) (by repeat (first | exact sub_hereL | exact sub_refl | apply sub_cons | apply sub_app)) ?_ | (apply vops_call ent63 rfl; (intro w' hg; exact c_l08Group k d _ _ r z (by omega) (by omega) (by omega) (gf_dvd h) hrow (by omega) w' (hu.same hg.fr) _ _ _ rfl); (intro _ newN hN; obtain ⟨pN, cN, rfl⟩ := SlAt.form hN)) | refine vd_one rfl (by kernel_rfl) (by kernel_rfl) rfl ?_)
  repeat (first | refine vw_ret ?_)
  exact pairI_ok rfl rfl rfl hN (by repeat (first | exact sub_hereL | exact sub_refl | apply sub_cons | apply sub_app)) rfl
end Go.Proofs.Ytnammdmiljjhjaa
