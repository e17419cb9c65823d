import Derived.Test.YtlnohlomanapeaaCH
import Derived.Test.YtlnohlomanapeaaDR2
import Derived.Test.YtlnohlomanapeaaCB4
import Derived.Test.YtlnohlomanapeaaVLBytes
import Derived.Test.YtlnohlomanapeaaVLA
/- A part of the proof: RC2. No conditions of its own. -/
namespace Go.Proofs.Ytlnohlomanapeaa
open Go.VL
attribute [local irreducible] VWr VOps VD Calls

theorem zig_wholeN : ∀ n ∈ List.range 15, 0 < n → (True ∧ (∀ x ∈ lst n (zigC n), 0 ≤ x ∧ x < ((lst n (zigC n)).length : Int)) ∧ (lst n (zigC n)).Nodup) := by
  have h : ((List.range 15).all fun n => decide (0 < n → (True ∧ (∀ x ∈ lst n (zigC n), 0 ≤ x ∧ x < ((lst n (zigC n)).length : Int)) ∧ (lst n (zigC n)).Nodup))) = true := by kernel_rfl
  simp only [List.all_eq_true, decide_eq_true_eq] at h
  exact h
theorem zig_all (z : Int) (h1 : 1 ≤ z) (h2 : z ≤ 14) : IsWhole (lst z.toNat (zigC z.toNat)) ∧ (z % 2 = 0 → Steps (lst z.toNat (zigC z.toNat))) := by
  have hl : (lst z.toNat (zigC z.toNat)).length = z.toNat := lst_length _ _
  exact ⟨⟨by omega, by omega, ⟨rfl, (zig_wholeN z.toNat (List.mem_range.2 (by omega)) (by omega)).2⟩⟩, fun he => zig_steps z.toNat (List.mem_range.2 (by omega)) (by omega)⟩

open Classical in
set_option maxHeartbeats 8000000 in
set_option maxRecDepth 100000 in
theorem c_FnRowComplete (a : Option Addr) (cap : Nat) (cs : List Nat) (hcs : ∀ c ∈ cs, c < 256) (_hlm : cs.length ≤ maxLen) (w : World) (hB : RdB w a cs) :
    Calls Try.prog 4 [.slice a cs.length cap].toArray w (Res w (Is (.bool true))) := by
  refine calls_of_vw Try.func4 rfl Try.ntmps4 (by simp) ?_
  repeat (first | refine vops_q tyOk rfl ?_ | refine vops_nil ?_ | refine vw_seq ?_ | refine vw_region (by kernel_rfl) ?_ | refine vw_cond rfl ?_ | (apply vops_callp ent19 rfl; (intro w _; exact c_bigC _ _ _ w)))
  refine bs_dec (fun hbig => ?_) (fun hbig => ?_)
  · repeat (first | refine vops_q tyOk rfl ?_ | refine vops_nil ?_ | refine vw_seq ?_ | refine vw_region (by kernel_rfl) ?_ | refine vw_ret ?_)
    exact rv_bool rfl rfl rfl
  have hlc : cs.length ≤ 1048576 := by omega
  repeat (first | refine vops_q tyOk rfl ?_ | refine vw_seq ?_ | refine vw_region (by kernel_rfl) ?_ | refine vw_skip ?_)
  apply vops_call ent42 rfl
  · intro w' hg; exact c_DrawSquareOfList a cs cap w' (hB.same hg.fr) hcs hlc
  rintro _ newL ⟨l, p, c, hl20, rfl, hL⟩
  have hl1 : l.length ≤ 1048576 := by omega
  obtain ⟨T, tc, hT⟩ : ∃ T tc, sqLR l = (T, tc) := ⟨_, _, rfl⟩
  obtain ⟨sb, sc, hSt⟩ : ∃ sb sc, stepR l = (sb, sc) := ⟨_, _, rfl⟩
  have hTl := sqLR_ok l
  rw [hT] at hTl
  repeat (first | refine vops_q tyOk rfl ?_ | refine vops_nil ?_ | refine vw_seq ?_ | refine vw_region (by kernel_rfl) ?_)
  apply vops_call ent43 rfl
  · intro w' hg; exact llC (c_impl_SquareOfList _ l w' (NewI.rdG hL (by repeat (first | exact sub_hereL | exact sub_refl | apply sub_cons | apply sub_app)) hg) hl1) hT
  rintro _ newT1 ⟨p4, c4, rfl, hT1⟩
  repeat (first | refine vops_q tyOk rfl ?_ | refine vops_nil ?_ | refine vw_seq ?_ | refine vw_region (by kernel_rfl) ?_)
  apply vops_call ent44 rfl
  · intro w' hg; exact llC (c_spec_SquareOfList _ l w' (NewI.rdG hL (by repeat (first | exact sub_hereL | exact sub_refl | apply sub_cons | apply sub_app)) hg) hl1) hT
  rintro _ newT2 ⟨p6, c6, rfl, hT2⟩
  repeat (first | refine vops_q tyOk rfl ?_ | refine vops_nil ?_ | refine vw_seq ?_ | refine vw_region (by kernel_rfl) ?_ | refine vops_guardF rfl rfl ?_ | (apply vops_callp ent45 rfl; (intro w' hg; exact bcC (c_impl_IsStepSequence _ l w' (NewI.rdG hL (by repeat (first | exact sub_hereL | exact sub_refl | apply sub_cons | apply sub_app)) hg) hl1) hSt)) | (apply vops_callp ent46 rfl; (intro w' hg; exact bcC (c_spec_IsStepSequence _ l w' (NewI.rdG hL (by repeat (first | exact sub_hereL | exact sub_refl | apply sub_cons | apply sub_app)) hg) hl1) hSt)))
  refine bs_ndec2 (fun h => absurd rfl h) (fun _ => ?_)
  repeat (first | refine vops_q tyOk rfl ?_ | refine vops_guardF rfl rfl ?_ | with_reducible refine bs_false ?_ | with_reducible refine bs_ntrue ?_ | (apply vops_callp ent32 rfl; (intro w' hg; exact c_rows5 _ _ T w' (NewLL.rdG hT1 (by repeat (first | exact sub_hereL | exact sub_refl | apply sub_cons | apply sub_app)) hg) (NewLL.rdG hT2 (by repeat (first | exact sub_hereL | exact sub_refl | apply sub_cons | apply sub_app)) hg) hTl.1 hTl.2.1)))
  refine bs_ndec2 (fun h => absurd rfl h) (fun _ => ?_)
  repeat (first | refine vops_q tyOk rfl ?_ | refine vops_nil ?_ | refine vw_seq ?_ | refine vw_region (by kernel_rfl) ?_ | refine vops_guardF rfl rfl ?_ | with_reducible refine bs_nbeq rfl ?_ | with_reducible refine bs_false ?_ | refine vw_cond rfl ?_ | refine vw_skip ?_)
  by_cases hW : IsWhole l
  · rw [sqLR, if_pos hW] at hT
    rw [stepR, if_pos hW] at hSt
    cases hT
    cases hSt
    have hsqR : sqOfR (l.length : Int) (tabN l.length l.length (sqC l)) = (true, 0) := by
      have h1 : RowsN (l.length : Int) (tabN l.length l.length (sqC l)) := sqT_rows hW
      have h2 : SqOk (tabN l.length l.length (sqC l)) := sqT_ok hW
      rw [sqOfR, if_pos h1, decide_eq_true h2]
    have hrcR : rowCR (l.length : Int) (tabN l.length l.length (sqC l)) = (decide (Steps l), 0) := by
      have h1 : RowsN (l.length : Int) (tabN l.length l.length (sqC l)) := sqT_rows hW
      have h2 : SqOk (tabN l.length l.length (sqC l)) := sqT_ok hW
      rw [rowCR, if_pos h1, if_pos h2]
      exact congrArg (fun b => (b, (0 : Int))) (decide_eq_decide.2 (bal_steps hW))
    refine bs_dec (fun _ => ?_) (fun h => absurd rfl h)
    repeat (first | refine vops_q tyOk rfl ?_ | refine vops_nil ?_ | refine vw_seq ?_ | refine vw_region (by kernel_rfl) ?_ | refine vops_guardF rfl rfl ?_ | (apply vops_callp ent47 rfl; (intro w' hg; exact bcC (c_impl_IsSquareOf _ _ _ w' (NewLL.rdG hT1 (by repeat (first | exact sub_hereL | exact sub_refl | apply sub_cons | apply sub_app)) hg) hTl.1 hTl.2.1) hsqR)) | (apply vops_callp ent48 rfl; (intro w' hg; exact bcC (c_impl_IsRowComplete _ _ _ w' (NewLL.rdG hT1 (by repeat (first | exact sub_hereL | exact sub_refl | apply sub_cons | apply sub_app)) hg) hTl.1 hTl.2.1) hrcR)))
    refine bs_ndec2 (fun h => absurd rfl h) (fun _ => ?_)
    repeat (first | refine vops_q tyOk rfl ?_ | refine vops_guardF rfl rfl ?_ | with_reducible refine bs_false ?_)
    refine bs_ndec2 (fun h => absurd rfl h) (fun _ => ?_)
    repeat (first | refine vops_q tyOk rfl ?_ | refine vops_guardF rfl rfl ?_ | with_reducible refine bs_false ?_)
    refine bs_ndec2 (fun h => absurd rfl h) (fun _ => ?_)
    repeat (first | refine vops_q tyOk rfl ?_ | refine vops_nil ?_ | refine vw_seq ?_ | refine vw_region (by kernel_rfl) ?_ | refine vops_guardF rfl rfl ?_ | with_reducible refine bs_nbeq rfl ?_ | with_reducible refine bs_false ?_ | with_reducible refine bs_ntrue ?_ | refine vw_cond rfl ?_ | refine vw_skip ?_)
    apply vops_call ent49 rfl
    · intro w' hg; exact c_DrawZigzagOf a cs cap w' (hB.same hg.fr) hcs hlc
    rintro _ newZ ⟨rfl, z, rfl, hz64⟩
    obtain ⟨Z, zc, hZ⟩ : ∃ Z zc, zigR z = (Z, zc) := ⟨_, _, rfl⟩
    have hZl := zigR_len z
    rw [hZ] at hZl
    have hZl : Z.length ≤ 1048576 := hZl
    repeat (first | refine vops_q tyOk rfl ?_ | refine vops_nil ?_ | refine vw_seq ?_ | refine vw_region (by kernel_rfl) ?_)
    apply vops_call ent50 rfl
    · intro w' hg; exact iiC (c_impl_ZigzagOf z w') hZ
    rintro _ newZ1 ⟨p18, c18, rfl, hZ1⟩
    repeat (first | refine vops_q tyOk rfl ?_ | refine vops_nil ?_ | refine vw_seq ?_ | refine vw_region (by kernel_rfl) ?_)
    apply vops_call ent51 rfl
    · intro w' hg; exact iiC (c_spec_ZigzagOf z w') hZ
    rintro _ newZ2 ⟨p20, c20, rfl, hZ2⟩
    repeat (first | refine vops_q tyOk rfl ?_ | refine vops_nil ?_ | refine vw_seq ?_ | refine vw_region (by kernel_rfl) ?_ | refine vops_guardF rfl rfl ?_)
    refine bs_ndec2 (fun h => absurd rfl h) (fun _ => ?_)
    repeat (first | refine vops_q tyOk rfl ?_ | refine vops_nil ?_ | refine vw_seq ?_ | refine vw_region (by kernel_rfl) ?_ | refine vops_guardF rfl rfl ?_ | with_reducible refine bs_false ?_ | with_reducible refine bs_ntrue ?_ | refine vw_cond rfl ?_ | refine vw_skip ?_ | (apply vops_callp ent25 rfl; (intro w' hg; exact c_likeC _ _ Z w' (NewI.rdG hZ1 (by repeat (first | exact sub_hereL | exact sub_refl | apply sub_cons | apply sub_app)) hg) (NewI.rdG hZ2 (by repeat (first | exact sub_hereL | exact sub_refl | apply sub_cons | apply sub_app)) hg) hZl)))
    by_cases hz : 1 ≤ z ∧ z ≤ 14
    · rw [zigR, if_pos hz] at hZ
      cases hZ
      obtain ⟨hzW, hzS⟩ := zig_all z hz.1 hz.2
      by_cases he : z % 2 = 0
      · have hStZ : stepR (lst z.toNat (zigC z.toNat)) = (true, 0) := by rw [stepR, if_pos hzW, decide_eq_true (hzS he)]
        refine bs_dec (fun _ => ?_) (fun h => absurd rfl h)
        repeat (first | refine vops_q tyOk rfl ?_ | refine vops_nil ?_ | refine vw_seq ?_ | refine vw_region (by kernel_rfl) ?_ | refine vops_guardF rfl rfl ?_ | (apply vops_callp ent45 rfl; (intro w' hg; exact bcC (c_impl_IsStepSequence _ _ w' (NewI.rdG hZ1 (by repeat (first | exact sub_hereL | exact sub_refl | apply sub_cons | apply sub_app)) hg) hZl) hStZ)))
        refine bs_ndec2 (fun h => absurd rfl h) (fun _ => ?_)
        repeat (first | refine vops_q tyOk rfl ?_ | refine vops_guardT rfl rfl ?_ | refine vops_guardF rfl rfl ?_ | with_reducible refine bs_false ?_ | refine vops_p tyOk rfl (by (try simp only [inR]); omega) ?_)
        refine bs_dec (fun _ => ?_) (fun h => absurd he (by omega))
        repeat (first | refine vops_q tyOk rfl ?_ | refine vops_nil ?_ | refine vw_seq ?_ | refine vw_region (by kernel_rfl) ?_ | refine vops_guardT rfl rfl ?_ | refine vops_guardF rfl rfl ?_ | with_reducible refine bs_true ?_ | with_reducible refine bs_false ?_ | with_reducible refine bs_ntrue ?_ | refine vw_cond rfl ?_ | refine vw_skip ?_)
        apply vops_call ent52 rfl
        · intro w' hg; exact c_DrawIsRowComplete a cs cap w' (hB.same hg.fr) hcs hlc
        rintro _ newG ⟨m, ls, pg, cg, hm64, hls, hlls, rfl, hG⟩
        have hls1 : ls.length ≤ 1048576 := by omega
        have hlls1 : ∀ l ∈ ls, l.length ≤ 1048576 := fun l hl => by have := hlls l hl; omega
        obtain ⟨rb, rc, hRC⟩ : ∃ rb rc, rowCR m ls = (rb, rc) := ⟨_, _, rfl⟩
        obtain ⟨qb, qc, hQ⟩ : ∃ qb qc, sqOfR m ls = (qb, qc) := ⟨_, _, rfl⟩
        repeat (first | refine vops_q tyOk rfl ?_ | refine vops_nil ?_ | refine vw_seq ?_ | refine vw_region (by kernel_rfl) ?_ | (apply vops_callp ent47 rfl; (intro w' hg; exact bcC (c_impl_IsSquareOf m _ ls w' (NewLL.rdG hG (by repeat (first | exact sub_hereL | exact sub_refl | apply sub_cons | apply sub_app)) hg) hls1 hlls1) hQ)) | (apply vops_callp ent48 rfl; (intro w' hg; exact bcC (c_impl_IsRowComplete m _ ls w' (NewLL.rdG hG (by repeat (first | exact sub_hereL | exact sub_refl | apply sub_cons | apply sub_app)) hg) hls1 hlls1) hRC)) | (apply vops_callp ent54 rfl; (intro w' hg; exact bcC (c_spec_IsSquareOf m _ ls w' (NewLL.rdG hG (by repeat (first | exact sub_hereL | exact sub_refl | apply sub_cons | apply sub_app)) hg) hls1 hlls1) hQ)) | (apply vops_callp ent53 rfl; (intro w' hg; exact bcC (c_spec_IsRowComplete m _ ls w' (NewLL.rdG hG (by repeat (first | exact sub_hereL | exact sub_refl | apply sub_cons | apply sub_app)) hg) hls1 hlls1) hRC)))
        apply vops_call ent55 rfl
        · intro w' hg; exact c_DrawCountStepSequences a cs cap w' (hB.same hg.fr) hcs hlc
        rintro _ newK ⟨rfl, kk, rfl, hk64⟩
        obtain ⟨cb, cc, hCS⟩ : ∃ cb cc, csR kk = (cb, cc) := ⟨_, _, rfl⟩
        repeat (first | refine vops_q tyOk rfl ?_ | refine vops_nil ?_ | refine vw_seq ?_ | refine vw_region (by kernel_rfl) ?_ | refine vops_guardT rfl rfl ?_ | (apply vops_callp ent56 rfl; (intro w' hg; exact icC (c_impl_CountStepSequences kk w') hCS)) | (apply vops_callp ent57 rfl; (intro w' hg; exact icC (c_spec_CountStepSequences kk w') hCS)))
        refine bs_dec (fun _ => ?_) (fun h => absurd rfl h)
        repeat (first | refine vops_q tyOk rfl ?_ | refine vops_guardT rfl rfl ?_ | with_reducible refine bs_true ?_)
        refine bs_dec (fun _ => ?_) (fun h => absurd rfl h)
        repeat (first | refine vops_q tyOk rfl ?_ | refine vops_guardT rfl rfl ?_ | with_reducible refine bs_true ?_)
        refine bs_dec (fun _ => ?_) (fun h => absurd rfl h)
        repeat (first | refine vops_q tyOk rfl ?_ | refine vops_guardT rfl rfl ?_ | with_reducible refine bs_true ?_)
        refine bs_dec (fun _ => ?_) (fun h => absurd rfl h)
        repeat (first | refine vops_q tyOk rfl ?_ | refine vops_guardT rfl rfl ?_ | with_reducible refine bs_true ?_)
        refine bs_dec (fun _ => ?_) (fun h => absurd rfl h)
        repeat (first | refine vops_q tyOk rfl ?_ | refine vops_nil ?_ | refine vops_guardT rfl rfl ?_ | with_reducible refine bs_true ?_ | refine vw_ret ?_)
        exact rv_bool rfl rfl (decide_eq_true rfl)
      · obtain ⟨yb, hyb⟩ : ∃ yb, stepR (lst z.toNat (zigC z.toNat)) = (yb, 0) := ⟨_, by rw [stepR, if_pos hzW]⟩
        refine bs_dec (fun _ => ?_) (fun h => absurd rfl h)
        repeat (first | refine vops_q tyOk rfl ?_ | refine vops_nil ?_ | refine vw_seq ?_ | refine vw_region (by kernel_rfl) ?_ | refine vops_guardF rfl rfl ?_ | (apply vops_callp ent45 rfl; (intro w' hg; exact bcC (c_impl_IsStepSequence _ _ w' (NewI.rdG hZ1 (by repeat (first | exact sub_hereL | exact sub_refl | apply sub_cons | apply sub_app)) hg) hZl) hyb)))
        refine bs_ndec2 (fun h => absurd rfl h) (fun _ => ?_)
        repeat (first | refine vops_q tyOk rfl ?_ | refine vops_guardT rfl rfl ?_ | refine vops_guardF rfl rfl ?_ | with_reducible refine bs_false ?_ | refine vops_p tyOk rfl (by (try simp only [inR]); omega) ?_)
        refine bs_dec (fun h => absurd h (by omega)) (fun _ => ?_)
        repeat (first | refine vops_q tyOk rfl ?_ | refine vops_nil ?_ | refine vw_seq ?_ | refine vw_region (by kernel_rfl) ?_ | refine vops_guardT rfl rfl ?_ | refine vops_guardF rfl rfl ?_ | with_reducible refine bs_false ?_ | refine vw_cond rfl ?_ | refine vw_skip ?_)
        apply vops_call ent52 rfl
        · intro w' hg; exact c_DrawIsRowComplete a cs cap w' (hB.same hg.fr) hcs hlc
        rintro _ newG ⟨m, ls, pg, cg, hm64, hls, hlls, rfl, hG⟩
        have hls1 : ls.length ≤ 1048576 := by omega
        have hlls1 : ∀ l ∈ ls, l.length ≤ 1048576 := fun l hl => by have := hlls l hl; omega
        obtain ⟨rb, rc, hRC⟩ : ∃ rb rc, rowCR m ls = (rb, rc) := ⟨_, _, rfl⟩
        obtain ⟨qb, qc, hQ⟩ : ∃ qb qc, sqOfR m ls = (qb, qc) := ⟨_, _, rfl⟩
        repeat (first | refine vops_q tyOk rfl ?_ | refine vops_nil ?_ | refine vw_seq ?_ | refine vw_region (by kernel_rfl) ?_ | (apply vops_callp ent47 rfl; (intro w' hg; exact bcC (c_impl_IsSquareOf m _ ls w' (NewLL.rdG hG (by repeat (first | exact sub_hereL | exact sub_refl | apply sub_cons | apply sub_app)) hg) hls1 hlls1) hQ)) | (apply vops_callp ent48 rfl; (intro w' hg; exact bcC (c_impl_IsRowComplete m _ ls w' (NewLL.rdG hG (by repeat (first | exact sub_hereL | exact sub_refl | apply sub_cons | apply sub_app)) hg) hls1 hlls1) hRC)) | (apply vops_callp ent54 rfl; (intro w' hg; exact bcC (c_spec_IsSquareOf m _ ls w' (NewLL.rdG hG (by repeat (first | exact sub_hereL | exact sub_refl | apply sub_cons | apply sub_app)) hg) hls1 hlls1) hQ)) | (apply vops_callp ent53 rfl; (intro w' hg; exact bcC (c_spec_IsRowComplete m _ ls w' (NewLL.rdG hG (by repeat (first | exact sub_hereL | exact sub_refl | apply sub_cons | apply sub_app)) hg) hls1 hlls1) hRC)))
        apply vops_call ent55 rfl
        · intro w' hg; exact c_DrawCountStepSequences a cs cap w' (hB.same hg.fr) hcs hlc
        rintro _ newK ⟨rfl, kk, rfl, hk64⟩
        obtain ⟨cb, cc, hCS⟩ : ∃ cb cc, csR kk = (cb, cc) := ⟨_, _, rfl⟩
        repeat (first | refine vops_q tyOk rfl ?_ | refine vops_nil ?_ | refine vw_seq ?_ | refine vw_region (by kernel_rfl) ?_ | refine vops_guardT rfl rfl ?_ | (apply vops_callp ent56 rfl; (intro w' hg; exact icC (c_impl_CountStepSequences kk w') hCS)) | (apply vops_callp ent57 rfl; (intro w' hg; exact icC (c_spec_CountStepSequences kk w') hCS)))
        refine bs_dec (fun _ => ?_) (fun h => absurd rfl h)
        repeat (first | refine vops_q tyOk rfl ?_ | refine vops_guardT rfl rfl ?_ | with_reducible refine bs_true ?_)
        refine bs_dec (fun _ => ?_) (fun h => absurd rfl h)
        repeat (first | refine vops_q tyOk rfl ?_ | refine vops_guardT rfl rfl ?_ | with_reducible refine bs_true ?_)
        refine bs_dec (fun _ => ?_) (fun h => absurd rfl h)
        repeat (first | refine vops_q tyOk rfl ?_ | refine vops_guardT rfl rfl ?_ | with_reducible refine bs_true ?_)
        refine bs_dec (fun _ => ?_) (fun h => absurd rfl h)
        repeat (first | refine vops_q tyOk rfl ?_ | refine vops_guardT rfl rfl ?_ | with_reducible refine bs_true ?_)
        refine bs_dec (fun _ => ?_) (fun h => absurd rfl h)
        repeat (first | refine vops_q tyOk rfl ?_ | refine vops_nil ?_ | refine vops_guardT rfl rfl ?_ | with_reducible refine bs_true ?_ | refine vw_ret ?_)
        exact rv_bool rfl rfl (decide_eq_true rfl)
    · rw [zigR, if_neg hz] at hZ
      cases hZ
      refine bs_dec (fun h => absurd h (by omega)) (fun _ => ?_)
      repeat (first | refine vops_q tyOk rfl ?_ | refine vw_seq ?_ | refine vw_region (by kernel_rfl) ?_ | refine vw_skip ?_)
      apply vops_call ent52 rfl
      · intro w' hg; exact c_DrawIsRowComplete a cs cap w' (hB.same hg.fr) hcs hlc
      rintro _ newG ⟨m, ls, pg, cg, hm64, hls, hlls, rfl, hG⟩
      have hls1 : ls.length ≤ 1048576 := by omega
      have hlls1 : ∀ l ∈ ls, l.length ≤ 1048576 := fun l hl => by have := hlls l hl; omega
      obtain ⟨rb, rc, hRC⟩ : ∃ rb rc, rowCR m ls = (rb, rc) := ⟨_, _, rfl⟩
      obtain ⟨qb, qc, hQ⟩ : ∃ qb qc, sqOfR m ls = (qb, qc) := ⟨_, _, rfl⟩
      repeat (first | refine vops_q tyOk rfl ?_ | refine vops_nil ?_ | refine vw_seq ?_ | refine vw_region (by kernel_rfl) ?_ | (apply vops_callp ent47 rfl; (intro w' hg; exact bcC (c_impl_IsSquareOf m _ ls w' (NewLL.rdG hG (by repeat (first | exact sub_hereL | exact sub_refl | apply sub_cons | apply sub_app)) hg) hls1 hlls1) hQ)) | (apply vops_callp ent48 rfl; (intro w' hg; exact bcC (c_impl_IsRowComplete m _ ls w' (NewLL.rdG hG (by repeat (first | exact sub_hereL | exact sub_refl | apply sub_cons | apply sub_app)) hg) hls1 hlls1) hRC)) | (apply vops_callp ent54 rfl; (intro w' hg; exact bcC (c_spec_IsSquareOf m _ ls w' (NewLL.rdG hG (by repeat (first | exact sub_hereL | exact sub_refl | apply sub_cons | apply sub_app)) hg) hls1 hlls1) hQ)) | (apply vops_callp ent53 rfl; (intro w' hg; exact bcC (c_spec_IsRowComplete m _ ls w' (NewLL.rdG hG (by repeat (first | exact sub_hereL | exact sub_refl | apply sub_cons | apply sub_app)) hg) hls1 hlls1) hRC)))
      apply vops_call ent55 rfl
      · intro w' hg; exact c_DrawCountStepSequences a cs cap w' (hB.same hg.fr) hcs hlc
      rintro _ newK ⟨rfl, kk, rfl, hk64⟩
      obtain ⟨cb, cc, hCS⟩ : ∃ cb cc, csR kk = (cb, cc) := ⟨_, _, rfl⟩
      repeat (first | refine vops_q tyOk rfl ?_ | refine vops_nil ?_ | refine vw_seq ?_ | refine vw_region (by kernel_rfl) ?_ | refine vops_guardT rfl rfl ?_ | (apply vops_callp ent56 rfl; (intro w' hg; exact icC (c_impl_CountStepSequences kk w') hCS)) | (apply vops_callp ent57 rfl; (intro w' hg; exact icC (c_spec_CountStepSequences kk w') hCS)))
      refine bs_dec (fun _ => ?_) (fun h => absurd rfl h)
      repeat (first | refine vops_q tyOk rfl ?_ | refine vops_guardT rfl rfl ?_ | with_reducible refine bs_true ?_)
      refine bs_dec (fun _ => ?_) (fun h => absurd rfl h)
      repeat (first | refine vops_q tyOk rfl ?_ | refine vops_guardT rfl rfl ?_ | with_reducible refine bs_true ?_)
      refine bs_dec (fun _ => ?_) (fun h => absurd rfl h)
      repeat (first | refine vops_q tyOk rfl ?_ | refine vops_guardT rfl rfl ?_ | with_reducible refine bs_true ?_)
      refine bs_dec (fun _ => ?_) (fun h => absurd rfl h)
      repeat (first | refine vops_q tyOk rfl ?_ | refine vops_guardT rfl rfl ?_ | with_reducible refine bs_true ?_)
      refine bs_dec (fun _ => ?_) (fun h => absurd rfl h)
      repeat (first | refine vops_q tyOk rfl ?_ | refine vops_nil ?_ | refine vops_guardT rfl rfl ?_ | with_reducible refine bs_true ?_ | refine vw_ret ?_)
      exact rv_bool rfl rfl (decide_eq_true rfl)
  · rw [sqLR, if_neg hW] at hT
    rw [stepR, if_neg hW] at hSt
    cases hT
    cases hSt
    refine bs_dec (fun h => absurd h (by omega)) (fun _ => ?_)
    repeat (first | refine vops_q tyOk rfl ?_ | refine vw_seq ?_ | refine vw_region (by kernel_rfl) ?_ | refine vw_skip ?_)
    apply vops_call ent49 rfl
    · intro w' hg; exact c_DrawZigzagOf a cs cap w' (hB.same hg.fr) hcs hlc
    rintro _ newZ ⟨rfl, z, rfl, hz64⟩
    obtain ⟨Z, zc, hZ⟩ : ∃ Z zc, zigR z = (Z, zc) := ⟨_, _, rfl⟩
    have hZl := zigR_len z
    rw [hZ] at hZl
    have hZl : Z.length ≤ 1048576 := hZl
    repeat (first | refine vops_q tyOk rfl ?_ | refine vops_nil ?_ | refine vw_seq ?_ | refine vw_region (by kernel_rfl) ?_)
    apply vops_call ent50 rfl
    · intro w' hg; exact iiC (c_impl_ZigzagOf z w') hZ
    rintro _ newZ1 ⟨p18, c18, rfl, hZ1⟩
    repeat (first | refine vops_q tyOk rfl ?_ | refine vops_nil ?_ | refine vw_seq ?_ | refine vw_region (by kernel_rfl) ?_)
    apply vops_call ent51 rfl
    · intro w' hg; exact iiC (c_spec_ZigzagOf z w') hZ
    rintro _ newZ2 ⟨p20, c20, rfl, hZ2⟩
    repeat (first | refine vops_q tyOk rfl ?_ | refine vops_nil ?_ | refine vw_seq ?_ | refine vw_region (by kernel_rfl) ?_ | refine vops_guardF rfl rfl ?_)
    refine bs_ndec2 (fun h => absurd rfl h) (fun _ => ?_)
    repeat (first | refine vops_q tyOk rfl ?_ | refine vops_nil ?_ | refine vw_seq ?_ | refine vw_region (by kernel_rfl) ?_ | refine vops_guardF rfl rfl ?_ | with_reducible refine bs_false ?_ | with_reducible refine bs_ntrue ?_ | refine vw_cond rfl ?_ | refine vw_skip ?_ | (apply vops_callp ent25 rfl; (intro w' hg; exact c_likeC _ _ Z w' (NewI.rdG hZ1 (by repeat (first | exact sub_hereL | exact sub_refl | apply sub_cons | apply sub_app)) hg) (NewI.rdG hZ2 (by repeat (first | exact sub_hereL | exact sub_refl | apply sub_cons | apply sub_app)) hg) hZl)))
    by_cases hz : 1 ≤ z ∧ z ≤ 14
    · rw [zigR, if_pos hz] at hZ
      cases hZ
      obtain ⟨hzW, hzS⟩ := zig_all z hz.1 hz.2
      by_cases he : z % 2 = 0
      · have hStZ : stepR (lst z.toNat (zigC z.toNat)) = (true, 0) := by rw [stepR, if_pos hzW, decide_eq_true (hzS he)]
        refine bs_dec (fun _ => ?_) (fun h => absurd rfl h)
        repeat (first | refine vops_q tyOk rfl ?_ | refine vops_nil ?_ | refine vw_seq ?_ | refine vw_region (by kernel_rfl) ?_ | refine vops_guardF rfl rfl ?_ | (apply vops_callp ent45 rfl; (intro w' hg; exact bcC (c_impl_IsStepSequence _ _ w' (NewI.rdG hZ1 (by repeat (first | exact sub_hereL | exact sub_refl | apply sub_cons | apply sub_app)) hg) hZl) hStZ)))
        refine bs_ndec2 (fun h => absurd rfl h) (fun _ => ?_)
        repeat (first | refine vops_q tyOk rfl ?_ | refine vops_guardT rfl rfl ?_ | refine vops_guardF rfl rfl ?_ | with_reducible refine bs_false ?_ | refine vops_p tyOk rfl (by (try simp only [inR]); omega) ?_)
        refine bs_dec (fun _ => ?_) (fun h => absurd he (by omega))
        repeat (first | refine vops_q tyOk rfl ?_ | refine vops_nil ?_ | refine vw_seq ?_ | refine vw_region (by kernel_rfl) ?_ | refine vops_guardT rfl rfl ?_ | refine vops_guardF rfl rfl ?_ | with_reducible refine bs_true ?_ | with_reducible refine bs_false ?_ | with_reducible refine bs_ntrue ?_ | refine vw_cond rfl ?_ | refine vw_skip ?_)
        apply vops_call ent52 rfl
        · intro w' hg; exact c_DrawIsRowComplete a cs cap w' (hB.same hg.fr) hcs hlc
        rintro _ newG ⟨m, ls, pg, cg, hm64, hls, hlls, rfl, hG⟩
        have hls1 : ls.length ≤ 1048576 := by omega
        have hlls1 : ∀ l ∈ ls, l.length ≤ 1048576 := fun l hl => by have := hlls l hl; omega
        obtain ⟨rb, rc, hRC⟩ : ∃ rb rc, rowCR m ls = (rb, rc) := ⟨_, _, rfl⟩
        obtain ⟨qb, qc, hQ⟩ : ∃ qb qc, sqOfR m ls = (qb, qc) := ⟨_, _, rfl⟩
        repeat (first | refine vops_q tyOk rfl ?_ | refine vops_nil ?_ | refine vw_seq ?_ | refine vw_region (by kernel_rfl) ?_ | (apply vops_callp ent47 rfl; (intro w' hg; exact bcC (c_impl_IsSquareOf m _ ls w' (NewLL.rdG hG (by repeat (first | exact sub_hereL | exact sub_refl | apply sub_cons | apply sub_app)) hg) hls1 hlls1) hQ)) | (apply vops_callp ent48 rfl; (intro w' hg; exact bcC (c_impl_IsRowComplete m _ ls w' (NewLL.rdG hG (by repeat (first | exact sub_hereL | exact sub_refl | apply sub_cons | apply sub_app)) hg) hls1 hlls1) hRC)) | (apply vops_callp ent54 rfl; (intro w' hg; exact bcC (c_spec_IsSquareOf m _ ls w' (NewLL.rdG hG (by repeat (first | exact sub_hereL | exact sub_refl | apply sub_cons | apply sub_app)) hg) hls1 hlls1) hQ)) | (apply vops_callp ent53 rfl; (intro w' hg; exact bcC (c_spec_IsRowComplete m _ ls w' (NewLL.rdG hG (by repeat (first | exact sub_hereL | exact sub_refl | apply sub_cons | apply sub_app)) hg) hls1 hlls1) hRC)))
        apply vops_call ent55 rfl
        · intro w' hg; exact c_DrawCountStepSequences a cs cap w' (hB.same hg.fr) hcs hlc
        rintro _ newK ⟨rfl, kk, rfl, hk64⟩
        obtain ⟨cb, cc, hCS⟩ : ∃ cb cc, csR kk = (cb, cc) := ⟨_, _, rfl⟩
        repeat (first | refine vops_q tyOk rfl ?_ | refine vops_nil ?_ | refine vw_seq ?_ | refine vw_region (by kernel_rfl) ?_ | refine vops_guardT rfl rfl ?_ | (apply vops_callp ent56 rfl; (intro w' hg; exact icC (c_impl_CountStepSequences kk w') hCS)) | (apply vops_callp ent57 rfl; (intro w' hg; exact icC (c_spec_CountStepSequences kk w') hCS)))
        refine bs_dec (fun _ => ?_) (fun h => absurd rfl h)
        repeat (first | refine vops_q tyOk rfl ?_ | refine vops_guardT rfl rfl ?_ | with_reducible refine bs_true ?_)
        refine bs_dec (fun _ => ?_) (fun h => absurd rfl h)
        repeat (first | refine vops_q tyOk rfl ?_ | refine vops_guardT rfl rfl ?_ | with_reducible refine bs_true ?_)
        refine bs_dec (fun _ => ?_) (fun h => absurd rfl h)
        repeat (first | refine vops_q tyOk rfl ?_ | refine vops_guardT rfl rfl ?_ | with_reducible refine bs_true ?_)
        refine bs_dec (fun _ => ?_) (fun h => absurd rfl h)
        repeat (first | refine vops_q tyOk rfl ?_ | refine vops_guardT rfl rfl ?_ | with_reducible refine bs_true ?_)
        refine bs_dec (fun _ => ?_) (fun h => absurd rfl h)
        repeat (first | refine vops_q tyOk rfl ?_ | refine vops_nil ?_ | refine vops_guardT rfl rfl ?_ | with_reducible refine bs_true ?_ | refine vw_ret ?_)
        exact rv_bool rfl rfl (decide_eq_true rfl)
      · obtain ⟨yb, hyb⟩ : ∃ yb, stepR (lst z.toNat (zigC z.toNat)) = (yb, 0) := ⟨_, by rw [stepR, if_pos hzW]⟩
        refine bs_dec (fun _ => ?_) (fun h => absurd rfl h)
        repeat (first | refine vops_q tyOk rfl ?_ | refine vops_nil ?_ | refine vw_seq ?_ | refine vw_region (by kernel_rfl) ?_ | refine vops_guardF rfl rfl ?_ | (apply vops_callp ent45 rfl; (intro w' hg; exact bcC (c_impl_IsStepSequence _ _ w' (NewI.rdG hZ1 (by repeat (first | exact sub_hereL | exact sub_refl | apply sub_cons | apply sub_app)) hg) hZl) hyb)))
        refine bs_ndec2 (fun h => absurd rfl h) (fun _ => ?_)
        repeat (first | refine vops_q tyOk rfl ?_ | refine vops_guardT rfl rfl ?_ | refine vops_guardF rfl rfl ?_ | with_reducible refine bs_false ?_ | refine vops_p tyOk rfl (by (try simp only [inR]); omega) ?_)
        refine bs_dec (fun h => absurd h (by omega)) (fun _ => ?_)
        repeat (first | refine vops_q tyOk rfl ?_ | refine vops_nil ?_ | refine vw_seq ?_ | refine vw_region (by kernel_rfl) ?_ | refine vops_guardT rfl rfl ?_ | refine vops_guardF rfl rfl ?_ | with_reducible refine bs_false ?_ | refine vw_cond rfl ?_ | refine vw_skip ?_)
        apply vops_call ent52 rfl
        · intro w' hg; exact c_DrawIsRowComplete a cs cap w' (hB.same hg.fr) hcs hlc
        rintro _ newG ⟨m, ls, pg, cg, hm64, hls, hlls, rfl, hG⟩
        have hls1 : ls.length ≤ 1048576 := by omega
        have hlls1 : ∀ l ∈ ls, l.length ≤ 1048576 := fun l hl => by have := hlls l hl; omega
        obtain ⟨rb, rc, hRC⟩ : ∃ rb rc, rowCR m ls = (rb, rc) := ⟨_, _, rfl⟩
        obtain ⟨qb, qc, hQ⟩ : ∃ qb qc, sqOfR m ls = (qb, qc) := ⟨_, _, rfl⟩
        repeat (first | refine vops_q tyOk rfl ?_ | refine vops_nil ?_ | refine vw_seq ?_ | refine vw_region (by kernel_rfl) ?_ | (apply vops_callp ent47 rfl; (intro w' hg; exact bcC (c_impl_IsSquareOf m _ ls w' (NewLL.rdG hG (by repeat (first | exact sub_hereL | exact sub_refl | apply sub_cons | apply sub_app)) hg) hls1 hlls1) hQ)) | (apply vops_callp ent48 rfl; (intro w' hg; exact bcC (c_impl_IsRowComplete m _ ls w' (NewLL.rdG hG (by repeat (first | exact sub_hereL | exact sub_refl | apply sub_cons | apply sub_app)) hg) hls1 hlls1) hRC)) | (apply vops_callp ent54 rfl; (intro w' hg; exact bcC (c_spec_IsSquareOf m _ ls w' (NewLL.rdG hG (by repeat (first | exact sub_hereL | exact sub_refl | apply sub_cons | apply sub_app)) hg) hls1 hlls1) hQ)) | (apply vops_callp ent53 rfl; (intro w' hg; exact bcC (c_spec_IsRowComplete m _ ls w' (NewLL.rdG hG (by repeat (first | exact sub_hereL | exact sub_refl | apply sub_cons | apply sub_app)) hg) hls1 hlls1) hRC)))
        apply vops_call ent55 rfl
        · intro w' hg; exact c_DrawCountStepSequences a cs cap w' (hB.same hg.fr) hcs hlc
        rintro _ newK ⟨rfl, kk, rfl, hk64⟩
        obtain ⟨cb, cc, hCS⟩ : ∃ cb cc, csR kk = (cb, cc) := ⟨_, _, rfl⟩
        repeat (first | refine vops_q tyOk rfl ?_ | refine vops_nil ?_ | refine vw_seq ?_ | refine vw_region (by kernel_rfl) ?_ | refine vops_guardT rfl rfl ?_ | (apply vops_callp ent56 rfl; (intro w' hg; exact icC (c_impl_CountStepSequences kk w') hCS)) | (apply vops_callp ent57 rfl; (intro w' hg; exact icC (c_spec_CountStepSequences kk w') hCS)))
        refine bs_dec (fun _ => ?_) (fun h => absurd rfl h)
        repeat (first | refine vops_q tyOk rfl ?_ | refine vops_guardT rfl rfl ?_ | with_reducible refine bs_true ?_)
        refine bs_dec (fun _ => ?_) (fun h => absurd rfl h)
        repeat (first | refine vops_q tyOk rfl ?_ | refine vops_guardT rfl rfl ?_ | with_reducible refine bs_true ?_)
        refine bs_dec (fun _ => ?_) (fun h => absurd rfl h)
        repeat (first | refine vops_q tyOk rfl ?_ | refine vops_guardT rfl rfl ?_ | with_reducible refine bs_true ?_)
        refine bs_dec (fun _ => ?_) (fun h => absurd rfl h)
        repeat (first | refine vops_q tyOk rfl ?_ | refine vops_guardT rfl rfl ?_ | with_reducible refine bs_true ?_)
        refine bs_dec (fun _ => ?_) (fun h => absurd rfl h)
        repeat (first | refine vops_q tyOk rfl ?_ | refine vops_nil ?_ | refine vops_guardT rfl rfl ?_ | with_reducible refine bs_true ?_ | refine vw_ret ?_)
        exact rv_bool rfl rfl (decide_eq_true rfl)
    · rw [zigR, if_neg hz] at hZ
      cases hZ
      refine bs_dec (fun h => absurd h (by omega)) (fun _ => ?_)
      repeat (first | refine vops_q tyOk rfl ?_ | refine vw_seq ?_ | refine vw_region (by kernel_rfl) ?_ | refine vw_skip ?_)
      apply vops_call ent52 rfl
      · intro w' hg; exact c_DrawIsRowComplete a cs cap w' (hB.same hg.fr) hcs hlc
      rintro _ newG ⟨m, ls, pg, cg, hm64, hls, hlls, rfl, hG⟩
      have hls1 : ls.length ≤ 1048576 := by omega
      have hlls1 : ∀ l ∈ ls, l.length ≤ 1048576 := fun l hl => by have := hlls l hl; omega
      obtain ⟨rb, rc, hRC⟩ : ∃ rb rc, rowCR m ls = (rb, rc) := ⟨_, _, rfl⟩
      obtain ⟨qb, qc, hQ⟩ : ∃ qb qc, sqOfR m ls = (qb, qc) := ⟨_, _, rfl⟩
      repeat (first | refine vops_q tyOk rfl ?_ | refine vops_nil ?_ | refine vw_seq ?_ | refine vw_region (by kernel_rfl) ?_ | (apply vops_callp ent47 rfl; (intro w' hg; exact bcC (c_impl_IsSquareOf m _ ls w' (NewLL.rdG hG (by repeat (first | exact sub_hereL | exact sub_refl | apply sub_cons | apply sub_app)) hg) hls1 hlls1) hQ)) | (apply vops_callp ent48 rfl; (intro w' hg; exact bcC (c_impl_IsRowComplete m _ ls w' (NewLL.rdG hG (by repeat (first | exact sub_hereL | exact sub_refl | apply sub_cons | apply sub_app)) hg) hls1 hlls1) hRC)) | (apply vops_callp ent54 rfl; (intro w' hg; exact bcC (c_spec_IsSquareOf m _ ls w' (NewLL.rdG hG (by repeat (first | exact sub_hereL | exact sub_refl | apply sub_cons | apply sub_app)) hg) hls1 hlls1) hQ)) | (apply vops_callp ent53 rfl; (intro w' hg; exact bcC (c_spec_IsRowComplete m _ ls w' (NewLL.rdG hG (by repeat (first | exact sub_hereL | exact sub_refl | apply sub_cons | apply sub_app)) hg) hls1 hlls1) hRC)))
      apply vops_call ent55 rfl
      · intro w' hg; exact c_DrawCountStepSequences a cs cap w' (hB.same hg.fr) hcs hlc
      rintro _ newK ⟨rfl, kk, rfl, hk64⟩
      obtain ⟨cb, cc, hCS⟩ : ∃ cb cc, csR kk = (cb, cc) := ⟨_, _, rfl⟩
      repeat (first | refine vops_q tyOk rfl ?_ | refine vops_nil ?_ | refine vw_seq ?_ | refine vw_region (by kernel_rfl) ?_ | refine vops_guardT rfl rfl ?_ | (apply vops_callp ent56 rfl; (intro w' hg; exact icC (c_impl_CountStepSequences kk w') hCS)) | (apply vops_callp ent57 rfl; (intro w' hg; exact icC (c_spec_CountStepSequences kk w') hCS)))
      refine bs_dec (fun _ => ?_) (fun h => absurd rfl h)
      repeat (first | refine vops_q tyOk rfl ?_ | refine vops_guardT rfl rfl ?_ | with_reducible refine bs_true ?_)
      refine bs_dec (fun _ => ?_) (fun h => absurd rfl h)
      repeat (first | refine vops_q tyOk rfl ?_ | refine vops_guardT rfl rfl ?_ | with_reducible refine bs_true ?_)
      refine bs_dec (fun _ => ?_) (fun h => absurd rfl h)
      repeat (first | refine vops_q tyOk rfl ?_ | refine vops_guardT rfl rfl ?_ | with_reducible refine bs_true ?_)
      refine bs_dec (fun _ => ?_) (fun h => absurd rfl h)
      repeat (first | refine vops_q tyOk rfl ?_ | refine vops_guardT rfl rfl ?_ | with_reducible refine bs_true ?_)
      refine bs_dec (fun _ => ?_) (fun h => absurd rfl h)
      repeat (first | refine vops_q tyOk rfl ?_ | refine vops_nil ?_ | refine vops_guardT rfl rfl ?_ | with_reducible refine bs_true ?_ | refine vw_ret ?_)
      exact rv_bool rfl rfl (decide_eq_true rfl)
end Go.Proofs.Ytlnohlomanapeaa
