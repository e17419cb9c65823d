import Derived.Test.YtlfflmoegfibgaaZZ6
import Derived.Test.YtlfflmoegfibgaaVLA
/- A part of the proof: RC4. No conditions of its own. -/
namespace Go.Proofs.Ytlfflmoegfibgaa
open Go.VL
attribute [local irreducible] VWr VOps VD Calls
set_option maxHeartbeats 8000000 in
set_option maxRecDepth 100000 in
theorem c_FnCarry (a : Option Addr) (cap : Nat) (cs : List Nat) (hcs : ∀ c ∈ cs, c < 256) (_hlm : cs.length ≤ maxLen) (w : World) (hB : RdB w a cs) :
    Calls Try.prog 13 [.slice a cs.length cap].toArray w (Res w (Is (.bool true))) := by
  refine calls_of_vw Try.func13 rfl Try.ntmps13 (by simp) ?_
  repeat (first | refine vops_q tyOk rfl ?_ | refine vops_nil ?_ | refine vw_seq ?_ | refine vw_region (by kernel_rfl) ?_ | refine vw_cond rfl ?_ | (apply vops_callp ent46 rfl; (intro w _; exact c_bigC _ _ _ w)))
  refine bs_dec (fun hbig => ?_) (fun hbig => ?_)
  · repeat (first | refine vops_q tyOk rfl ?_ | refine vops_nil ?_ | refine vw_seq ?_ | refine vw_region (by kernel_rfl) ?_ | refine vw_ret ?_)
    exact rv_bool rfl rfl rfl
  have hlc : cs.length ≤ 1048576 := by omega
  repeat (first | refine vops_q tyOk rfl ?_ | refine vw_seq ?_ | refine vw_region (by kernel_rfl) ?_ | refine vw_skip ?_)
  apply vops_call ent47 rfl
  · intro w' hg; exact c_DrawBestOrder a cs cap w' (hB.same hg.fr) hcs hlc
  rintro _ newS ⟨m, rs, p, c, hm0, hm1, h14, hrl, rfl, hN⟩
  have hl1 : rs.length ≤ 1048576 := by omega
  obtain ⟨q, least, oc, hBo⟩ : ∃ q least oc, boR m rs = (q, least, oc) := ⟨_, _, _, rfl⟩
  obtain ⟨cost, cc, hCo⟩ : ∃ cost cc, costR m rs = (cost, cc) := ⟨_, _, rfl⟩
  have hql := boR_len m rs
  rw [hBo] at hql
  have hql : q.length ≤ 1048576 := hql
  repeat (first | refine vops_nil ?_ | refine vw_seq ?_ | refine vw_region (by kernel_rfl) ?_ | refine vops_allocZ [.int .i64 0, .slice none 0 0] tyOk rfl rfl (by simp) (fun b3 hb3 => ?_) | ((show VOps _ _ _ _ (⟨some _, Go.Op.load _ _, _, _, _, none⟩ :: _) _ _); refine vops_loadNM tyOk rfl rfl rfl (by repeat (first | exact mem_here | apply mem_next | apply mem_past)) (by first | rfl | (rw [ints_length]; first | assumption | omega | (rw [ints_length]; first | assumption | omega | simp [*])) | simp [*]) ?_) | ((show VOps _ _ _ _ (⟨none, Go.Op.store _ _ _, _, _, _, none⟩ :: _) _ _); refine vops_storeAM tyOk rfl rfl rfl (by first | rfl | (rw [ints_length]; first | assumption | omega | (rw [ints_length]; first | assumption | omega | simp [*])) | simp [*]) (by first | exact ints_one | simp [Value.oneCell']) (by repeat (first | exact upd_here | apply upd_next | apply upd_past)) (by first | rfl | (rw [ints_length]; first | assumption | omega | (rw [ints_length]; first | assumption | omega | simp [*])) | simp [*]) ?_))
  apply vops_call ent48 rfl
  · intro w' hg; exact tiC (c_impl_BestOrder m _ rs w' (NewR.see hN (by repeat (first | exact sub_hereL | exact sub_refl | apply sub_cons | apply sub_app)) _ hg) h14 hl1 (capR hN)) hBo
  rintro _ newQ ⟨p4, c4, rfl, hQ⟩
  repeat (first | refine vops_q tyOk rfl ?_ | refine vops_nil ?_ | refine vw_seq ?_ | refine vw_region (by kernel_rfl) ?_ | ((show VOps _ _ _ _ (⟨some _, Go.Op.load _ _, _, _, _, none⟩ :: _) _ _); refine vops_loadNM tyOk rfl rfl rfl (by repeat (first | exact mem_here | apply mem_next | apply mem_past)) (by first | rfl | (rw [ints_length]; first | assumption | omega | (rw [ints_length]; first | assumption | omega | simp [*])) | simp [*]) ?_))
  apply vops_call ent49 rfl
  · intro w' hg; exact tiC (c_spec_BestOrder m _ rs w' (NewR.see hN (by repeat (first | exact sub_hereL | exact sub_refl | apply sub_cons | apply sub_app)) _ hg) h14 hl1) hBo
  rintro _ newQ2 ⟨p7, c7, rfl, hQ2⟩
  repeat (first | refine vops_q tyOk rfl ?_ | refine vops_nil ?_ | refine vw_seq ?_ | refine vw_region (by kernel_rfl) ?_ | refine vops_guardF rfl rfl ?_ | (apply vops_callp ent50 rfl; (intro w' hg; exact icC (c_impl_CarryCost m _ rs w' (NewR.see hN (by repeat (first | exact sub_hereL | exact sub_refl | apply sub_cons | apply sub_app)) _ hg) h14 hl1 (capR hN)) hCo)) | (apply vops_callp ent51 rfl; (intro w' hg; exact icC (c_spec_CarryCost m _ rs w' (NewR.see hN (by repeat (first | exact sub_hereL | exact sub_refl | apply sub_cons | apply sub_app)) _ hg) h14 hl1) hCo)) | ((show VOps _ _ _ _ (⟨some _, Go.Op.load _ _, _, _, _, none⟩ :: _) _ _); refine vops_loadNM tyOk rfl rfl rfl (by repeat (first | exact mem_here | apply mem_next | apply mem_past)) (by first | rfl | (rw [ints_length]; first | assumption | omega | (rw [ints_length]; first | assumption | omega | simp [*])) | simp [*]) ?_))
  refine bs_ndec2 (fun h => absurd rfl h) (fun _ => ?_)
  repeat (first | refine vops_q tyOk rfl ?_ | refine vops_guardF rfl rfl ?_ | with_reducible refine bs_false ?_ | with_reducible refine bs_ntrue ?_ | (apply vops_callp ent52 rfl; (intro w' hg; exact c_likeC _ _ q w' (NewI.rdG hQ (by repeat (first | exact sub_hereL | exact sub_refl | apply sub_cons | apply sub_app)) hg) (NewI.rdG hQ2 (by repeat (first | exact sub_hereL | exact sub_refl | apply sub_cons | apply sub_app)) hg) hql)))
  refine bs_ndec2 (fun h => absurd rfl h) (fun _ => ?_)
  repeat (first | refine vops_q tyOk rfl ?_ | refine vops_guardF rfl rfl ?_ | with_reducible refine bs_false ?_)
  refine bs_ndec2 (fun h => absurd rfl h) (fun _ => ?_)
  repeat (first | refine vops_q tyOk rfl ?_ | refine vops_nil ?_ | refine vops_guardF rfl rfl ?_ | with_reducible refine bs_false ?_ | refine vw_cond rfl ?_)
  refine bs_ndec2 (fun h => absurd rfl h) (fun _ => ?_)
  refine vw_skip ?_
  refine vw_seq (vw_mid (fun f own => f 0 = .slice a cs.length cap) ?_ ?_)
  · repeat (first | refine vops_q tyOk rfl ?_ | refine vops_nil ?_ | refine vw_seq ?_ | refine vw_region (by kernel_rfl) ?_ | refine vw_cond rfl ?_)
    refine bs_dec (fun h0 => ?_) (fun _ => ?_)
    rotate_left
    · repeat (first | refine vw_skip ?_)
      exact rfl
    subst h0
    obtain ⟨k, rfl⟩ := boR_nat hBo
    obtain ⟨hE0, hl7, hqlen, hqb, hqn, hle, hlec⟩ := best_ok hBo
    have hE := codeE_zero.1 hE0
    have hEq := reord_even hE hqlen hqb hqn
    have hcq : costR k (reord rs q) = (least, 0) := by rw [costR_even hEq, hle]; rfl
    have hcr : sum2 k k (sqA (carN k rs rs.length)) = cost := by
      rw [costR_even hE] at hCo
      simp only [Prod.mk.injEq] at hCo
      exact hCo.1
    have hre : reorder k rs q = ((↑k, reord rs q), 0) := by unfold reorder; rw [if_pos hE.1, if_pos ⟨by omega, hqb, hqn⟩]
    have hr14 := reord14 h14 hqb
    have hrl' : (reord rs q).length ≤ 1048576 := by rw [reord_length]; omega
    have hlc' : least ≤ cost := by omega
    repeat (first | refine vops_q tyOk rfl ?_ | refine vw_seq ?_ | refine vw_region (by kernel_rfl) ?_ | ((show VOps _ _ _ _ (⟨some _, Go.Op.load _ _, _, _, _, none⟩ :: _) _ _); refine vops_loadNM tyOk rfl rfl rfl (by repeat (first | exact mem_here | apply mem_next | apply mem_past)) (by first | rfl | (rw [ints_length]; first | assumption | omega | (rw [ints_length]; first | assumption | omega | simp [*])) | simp [*]) ?_))
    apply vops_call ent53 rfl
    · intro w' hg; exact psC (c_impl_ReorderRounds k _ _ rs q w' (NewR.see hN (by repeat (first | exact sub_hereL | exact sub_refl | apply sub_cons | apply sub_app)) _ hg) (NewI.rdG hQ (by repeat (first | exact sub_hereL | exact sub_refl | apply sub_cons | apply sub_app)) hg) h14 hl1 hql) hre
    rintro _ newX ⟨px, cx, rfl, hX⟩
    repeat (first | refine vops_q tyOk rfl ?_ | refine vops_nil ?_ | refine vw_seq ?_ | refine vw_region (by kernel_rfl) ?_ | refine vops_allocZ [.int .i64 0, .slice none 0 0] tyOk rfl rfl (by simp) (fun b6 hb6 => ?_) | ((show VOps _ _ _ _ (⟨some _, Go.Op.load _ _, _, _, _, none⟩ :: _) _ _); refine vops_loadNM tyOk rfl rfl rfl (by repeat (first | exact mem_here | apply mem_next | apply mem_past)) (by first | rfl | (rw [ints_length]; first | assumption | omega | (rw [ints_length]; first | assumption | omega | simp [*])) | simp [*]) ?_) | ((show VOps _ _ _ _ (⟨none, Go.Op.store _ _ _, _, _, _, none⟩ :: _) _ _); refine vops_storeAM tyOk rfl rfl rfl (by first | rfl | (rw [ints_length]; first | assumption | omega | (rw [ints_length]; first | assumption | omega | simp [*])) | simp [*]) (by first | exact ints_one | simp [Value.oneCell']) (by repeat (first | exact upd_here | apply upd_next | apply upd_past)) (by first | rfl | (rw [ints_length]; first | assumption | omega | (rw [ints_length]; first | assumption | omega | simp [*])) | simp [*]) ?_))
    repeat (first | refine vops_q tyOk rfl ?_ | refine vops_nil ?_ | refine vw_seq ?_ | refine vw_region (by kernel_rfl) ?_ | refine vops_guardF rfl rfl ?_ | apply vops_callp ent50 rfl; (intro w' hg; exact icC (c_impl_CarryCost k _ (reord rs q) w' (NewR.see hX (by repeat (first | exact sub_hereL | exact sub_refl | apply sub_cons | apply sub_app)) _ hg) hr14 hrl' (capR hX)) hcq))
    refine bs_ndec2 (fun h => absurd rfl h) (fun _ => ?_)
    repeat (first | refine vops_q tyOk rfl ?_ | refine vops_guardF rfl rfl ?_ | with_reducible refine bs_false ?_)
    refine bs_ndec2 (fun h => absurd rfl h) (fun _ => ?_)
    repeat (first | refine vops_q tyOk rfl ?_ | refine vops_guardF rfl rfl ?_ | with_reducible refine bs_false ?_)
    refine bs_ndec2 (fun h => absurd rfl h) (fun _ => ?_)
    repeat (first | refine vops_q tyOk rfl ?_ | refine vops_nil ?_ | refine vops_guardF rfl rfl ?_ | with_reducible refine bs_false ?_ | refine vw_cond rfl ?_)
    refine bs_dec (fun h => absurd h (by omega)) (fun _ => ?_)
    repeat (first | refine vw_skip ?_)
    exact rfl

  clear hN hQ hQ2 hBo hCo hql hbig
  rintro f own h0
  rw [upd_of h0]
  repeat (first | refine vops_q tyOk rfl ?_ | refine vw_seq ?_ | refine vw_region (by kernel_rfl) ?_)
  apply vops_call ent54 rfl
  · intro w' hg; exact c_DrawCarryMatrix a cs cap w' (hB.same hg.fr) hcs hlc
  rintro _ newS ⟨m, rs, p, c, hm0, hm1, h14, hrl, rfl, hN⟩
  have hl1 : rs.length ≤ 1048576 := by omega
  obtain ⟨ls, mc, hLs⟩ : ∃ ls mc, carryR m rs = (ls, mc) := ⟨_, _, rfl⟩
  obtain ⟨bl, bc, hBl⟩ : ∃ bl bc, balR m rs = (bl, bc) := ⟨_, _, rfl⟩
  have hlok := carryR_ok m rs
  rw [hLs] at hlok
  have hlok1 : ls.length ≤ 1048576 := hlok.1
  have hlok2 : ∀ l ∈ ls, l.length ≤ 1048576 := hlok.2.1
  repeat (first | refine vops_nil ?_ | refine vw_seq ?_ | refine vw_region (by kernel_rfl) ?_ | refine vops_allocZ [.int .i64 0, .slice none 0 0] tyOk rfl rfl (by simp) (fun b5 hb5 => ?_) | ((show VOps _ _ _ _ (⟨some _, Go.Op.load _ _, _, _, _, none⟩ :: _) _ _); refine vops_loadNM tyOk rfl rfl rfl (by repeat (first | exact mem_here | apply mem_next | apply mem_past)) (by first | rfl | (rw [ints_length]; first | assumption | omega | (rw [ints_length]; first | assumption | omega | simp [*])) | simp [*]) ?_) | ((show VOps _ _ _ _ (⟨none, Go.Op.store _ _ _, _, _, _, none⟩ :: _) _ _); refine vops_storeAM tyOk rfl rfl rfl (by first | rfl | (rw [ints_length]; first | assumption | omega | (rw [ints_length]; first | assumption | omega | simp [*])) | simp [*]) (by first | exact ints_one | simp [Value.oneCell']) (by repeat (first | exact upd_here | apply upd_next | apply upd_past)) (by first | rfl | (rw [ints_length]; first | assumption | omega | (rw [ints_length]; first | assumption | omega | simp [*])) | simp [*]) ?_))
  apply vops_call ent55 rfl
  · intro w' hg; exact llC (c_impl_CarryMatrix m _ rs w' (NewR.see hN (by repeat (first | exact sub_hereL | exact sub_refl | apply sub_cons | apply sub_app)) _ hg) h14 hl1 (capR hN)) hLs
  rintro _ newM ⟨p4, c4, rfl, hM⟩
  repeat (first | refine vops_q tyOk rfl ?_ | refine vops_nil ?_ | refine vw_seq ?_ | refine vw_region (by kernel_rfl) ?_ | ((show VOps _ _ _ _ (⟨some _, Go.Op.load _ _, _, _, _, none⟩ :: _) _ _); refine vops_loadNM tyOk rfl rfl rfl (by repeat (first | exact mem_here | apply mem_next | apply mem_past)) (by first | rfl | (rw [ints_length]; first | assumption | omega | (rw [ints_length]; first | assumption | omega | simp [*])) | simp [*]) ?_))
  apply vops_call ent56 rfl
  · intro w' hg; exact llC (c_spec_CarryMatrix m _ rs w' (NewR.see hN (by repeat (first | exact sub_hereL | exact sub_refl | apply sub_cons | apply sub_app)) _ hg) h14 hl1) hLs
  rintro _ newM2 ⟨p7, c7, rfl, hM2⟩
  repeat (first | refine vops_q tyOk rfl ?_ | refine vops_nil ?_ | refine vw_seq ?_ | refine vw_region (by kernel_rfl) ?_ | refine vops_guardF rfl rfl ?_ | (apply vops_callp ent57 rfl; (intro w' hg; exact bcC (c_impl_IsCarryBalanced m _ rs w' (NewR.see hN (by repeat (first | exact sub_hereL | exact sub_refl | apply sub_cons | apply sub_app)) _ hg) h14 hl1 (capR hN)) hBl)) | (apply vops_callp ent58 rfl; (intro w' hg; exact bcC (c_spec_IsCarryBalanced m _ rs w' (NewR.see hN (by repeat (first | exact sub_hereL | exact sub_refl | apply sub_cons | apply sub_app)) _ hg) h14 hl1) hBl)) | ((show VOps _ _ _ _ (⟨some _, Go.Op.load _ _, _, _, _, none⟩ :: _) _ _); refine vops_loadNM tyOk rfl rfl rfl (by repeat (first | exact mem_here | apply mem_next | apply mem_past)) (by first | rfl | (rw [ints_length]; first | assumption | omega | (rw [ints_length]; first | assumption | omega | simp [*])) | simp [*]) ?_))
  refine bs_ndec2 (fun h => absurd rfl h) (fun _ => ?_)
  repeat (first | refine vops_q tyOk rfl ?_ | refine vops_guardF rfl rfl ?_ | with_reducible refine bs_false ?_ | with_reducible refine bs_ntrue ?_ | (apply vops_callp ent59 rfl; (intro w' hg; exact c_rows5 _ _ ls w' (NewLL.rdG hM (by repeat (first | exact sub_hereL | exact sub_refl | apply sub_cons | apply sub_app)) hg) (NewLL.rdG hM2 (by repeat (first | exact sub_hereL | exact sub_refl | apply sub_cons | apply sub_app)) hg) hlok1 hlok2)))
  refine bs_ndec2 (fun h => absurd rfl h) (fun _ => ?_)
  iterate 10 (first | refine vops_q tyOk rfl ?_ | refine vops_nil ?_ | refine vw_seq ?_ | refine vw_region (by kernel_rfl) ?_ | refine vops_guardT rfl rfl ?_ | refine vops_guardF rfl rfl ?_ | refine vops_guardU rfl rfl ?_ | with_reducible refine bs_nbeq rfl ?_ | with_reducible refine bs_true ?_ | with_reducible refine bs_false ?_ | with_reducible refine bs_ntrue ?_ | with_reducible refine bs_nfalse ?_ | refine vops_p tyOk rfl (by (try simp only [inR]); omega) ?_ | refine vw_cond rfl ?_ | refine vw_skip ?_ | refine vw_block ?_ | refine vw_ret ?_ | refine vw_exit ?_ | ((show VOps _ _ _ _ (⟨some _, Go.Op.load _ _, _, _, _, none⟩ :: _) _ _); first | refine vops_loadM tyOk rfl rfl rfl (by repeat (first | exact mem_here | apply mem_next | apply mem_past)) (by rfl) ?_ | refine vops_loadM tyOk rfl rfl rfl (by repeat (first | exact mem_here | apply mem_next | apply mem_past)) (by exact ints_get0 (by omega)) ?_ | refine vops_loadNM tyOk rfl rfl rfl (by repeat (first | exact mem_here | apply mem_next | apply mem_past)) (by first | rfl | (rw [ints_length]; first | assumption | omega | (rw [ints_length]; first | assumption | omega | simp [*])) | simp [*]) ?_) | ((show VOps _ _ _ _ (⟨none, Go.Op.store _ _ _, _, _, _, none⟩ :: _) _ _); first | refine vops_storeIM tyOk rfl rfl rfl rfl (by repeat (first | exact upd_here | apply upd_next | apply upd_past)) (by omega) ?_ | refine vops_storeM tyOk rfl rfl rfl rfl rfl (by repeat (first | exact upd_here | apply upd_next | apply upd_past)) (by simp) ?_ | refine vops_storeAM tyOk rfl rfl rfl (by first | rfl | (rw [ints_length]; first | assumption | omega | (rw [ints_length]; first | assumption | omega | simp [*])) | simp [*]) (by first | exact ints_one | simp [Value.oneCell']) (by repeat (first | exact upd_here | apply upd_next | apply upd_past)) (by first | rfl | (rw [ints_length]; first | assumption | omega | (rw [ints_length]; first | assumption | omega | simp [*])) | simp [*]) ?_) | refine vops_build2 rfl rfl (by kernel_rfl) ?_ | refine vops_buildZ tyOk rfl (by kernel_rfl) ?_ | refine vops_slice tyOk rfl rfl rfl rfl rfl (by omega) ?_)
  refine bs_nbeq rfl ?_
  refine vw_skip ?_
  refine vw_seq (vw_mid (fun f own => f 0 = .slice a cs.length cap) ?_ ?_)

  · repeat (first | refine vops_q tyOk rfl ?_ | refine vops_nil ?_ | refine vw_seq ?_ | refine vw_region (by kernel_rfl) ?_ | refine vw_cond rfl ?_)
    refine bs_dec (fun h0 => ?_) (fun _ => ?_)
    rotate_left
    · repeat (first | refine vw_skip ?_)
      exact rfl
    subst h0
    obtain ⟨k, g, rfl, hk2, hk14, rfl, hg13, hrow, hcol, hcost, hbal⟩ := carry_all hLs
    have hbal' := hbal bl bc hBl
    have htl := tabOf_length k g
    rw [htl] at hM ⊢
    have hN' : NewLL 38 2 (tabOf k g) (.slice p4 k c4) newM := hM
    refine vw_le (own' := newM ++ ((b5, ⟨[.int .i64 k, .slice p rs.length c], 32, 2, none⟩) :: (newS ++ []))) (by repeat (first | exact ole_nil | exact ole_refl | (apply ole_cons; (repeat (first | exact pm1_here | apply pm1_next | apply pm1_past))) | (apply ole_app; (repeat (first | exact pm_here | exact pm_last | apply pm_next | apply pm_past))))) ?_
    have htot : ∀ i, i ≤ k → 0 ≤ sumTo (fun x => sumTo (sqA g x) k) i ∧ sumTo (fun x => sumTo (sqA g x) k) i ≤ 50000 := fun i hi => by
      have h1 : ∀ x, 0 ≤ sumTo (sqA g x) k ∧ sumTo (sqA g x) k ≤ 2366 := fun x => by
        have a1 := sumTo_nonneg (f := sqA g x) (k := k) fun j _ => (sq13 (hg13 x j)).1
        have a2 := sumTo_le (f := sqA g x) (c := 169) (k := k) fun j _ => (sq13 (hg13 x j)).2
        omega
      have a1 := sumTo_nonneg (f := fun x => sumTo (sqA g x) k) (k := i) fun j _ => (h1 j).1
      have a2 := sumTo_le (f := fun x => sumTo (sqA g x) k) (c := 2366) (k := i) fun j _ => (h1 j).2
      omega
    repeat (first | refine vops_q tyOk rfl ?_ | refine vops_nil ?_ | refine vw_seq ?_ | refine vw_region (by kernel_rfl) ?_ | refine vw_block ?_)
    refine vw_loop (fun m f own => ∃ i : Nat, i ≤ k ∧ m = k - i ∧ f 174 = .int .i64 i ∧ f 173 = .int .i64 k ∧ f 27 = .int .i64 (sumTo (fun x => sumTo (sqA g x) k) i) ∧ f 19 = .slice p4 k c4 ∧ f 18 = .pointer (some ⟨b5, 0, none⟩) ∧ f 23 = .bool bl ∧ f 0 = .slice a cs.length cap ∧ own = newM ++ ((b5, ⟨[.int .i64 k, .slice p rs.length c], 32, 2, none⟩) :: (newS ++ []))) k
      ⟨0, by omega, by omega, rfl, rfl, rfl, rfl, rfl, rfl, rfl, rfl⟩ ?_
    rintro m f own ⟨i, hi, rfl, h174, h173, h27, h19, h18, h23, h0, rfl⟩
    rw [upd_of h174, upd_of h173, upd_of h27, upd_of h19, upd_of h18, upd_of h23, upd_of h0]
    have hti := htot i hi
    repeat (first | refine vops_q tyOk rfl ?_ | refine vops_nil ?_ | refine vw_seq ?_ | refine vw_region (by kernel_rfl) ?_ | refine vw_cond rfl ?_)
    refine bs_dec (fun hlt => ?_) (fun hlt => ?_)
    · have hik : i < k := by omega
      obtain ⟨bp, cpp, br, cr, hve, hs1, hs2, hs3⟩ := newLL_rowI hM (tabOf_row hik) (by rw [lst_length]; omega)
      rw [tabOf_length] at hve
      cases hve
      rw [lst_length] at hs1 hs3
      have hs2' : ∀ {Γ : Ctx} {own : Own}, Sub newM own → ∀ j, j < k → Sees Γ own br (0 + j) (.int .i64 (g i j)) := fun {Γ own} hs j hj => by
        have := @hs2 Γ own hs j (by rw [lst_length]; exact hj)
        rwa [lst_getD hj] at this
      have hsum : ∀ w' v, RdI w' v (lst k (g i)) → Calls Try.prog 60 [v].toArray w' (Res w' (Is (.int .i64 ((k : Int) - 1)))) := fun w' v h => by
        rw [← hrow i hik]
        exact c_sumL k (g i) hk14 (fun x _ => by have := hg13 i x; omega) v w' h
      repeat (first | refine vops_q tyOk rfl ?_ | refine vops_nil ?_ | refine vw_seq ?_ | refine vw_region (by kernel_rfl) ?_ | refine vw_skip ?_ | refine vw_block ?_)
      refine vw_loop (fun m f own => ∃ j : Nat, j ≤ k ∧ m = k - j ∧ f 179 = .int .i64 j ∧ f 178 = .int .i64 k ∧ f 29 = .int .i64 (sumTo (fun x => g x i) j) ∧ f 27 = .int .i64 (sumTo (fun x => sumTo (sqA g x) k) i + sumTo (sqA g i) j) ∧ f 28 = .int .i64 i ∧ f 174 = .int .i64 i ∧ f 173 = .int .i64 k ∧ f 19 = .slice (some ⟨bp, 0, none⟩) k c4 ∧ f 18 = .pointer (some ⟨b5, 0, none⟩) ∧ f 23 = .bool bl ∧ f 0 = .slice a cs.length cap ∧ own = newM ++ ((b5, ⟨[.int .i64 k, .slice p rs.length c], 32, 2, none⟩) :: (newS ++ []))) k
        ⟨0, by omega, by omega, rfl, rfl, rfl, congrArg (Value.int .i64) (Int.add_zero (sumTo (fun x => sumTo (sqA g x) k) i)).symm, rfl, rfl, rfl, rfl, rfl, rfl, rfl, rfl⟩ ?_
      rintro m f own ⟨j, hj, rfl, h179, h178, h29, h27, h28, h174, h173, h19, h18, h23, h0, rfl⟩
      rw [upd_of h179, upd_of h178, upd_of h29, upd_of h27, upd_of h28, upd_of h174, upd_of h173, upd_of h19, upd_of h18, upd_of h23, upd_of h0]
      repeat (first | refine vops_q tyOk rfl ?_ | refine vops_nil ?_ | refine vw_seq ?_ | refine vw_region (by kernel_rfl) ?_ | refine vw_cond rfl ?_)
      refine bs_dec (fun hlt2 => ?_) (fun hlt2 => ?_)
      · have hjk : j < k := by omega
        obtain ⟨bp2, cpp2, br2, cr2, hve2, ht1, ht2, _⟩ := newLL_rowI hM (tabOf_row hjk) (by rw [lst_length]; omega)
        rw [tabOf_length] at hve2
        cases hve2
        rw [lst_length] at ht1
        have ht2' : ∀ {Γ : Ctx} {own : Own}, Sub newM own → Sees Γ own br2 (0 + i) (.int .i64 (g j i)) := fun {Γ own} hs => by
          have := @ht2 Γ own hs i (by rw [lst_length]; exact hik)
          rwa [lst_getD hik] at this
        have e1 := hg13 j i
        have e2 := sq13 (hg13 i j)
        have e3 := sumTo_nonneg (f := fun x => g x i) (k := j) fun x _ => (hg13 x i).1
        have e4 := sumTo_le (f := fun x => g x i) (c := 13) (k := j) fun x _ => (hg13 x i).2
        have e5 := sumTo_nonneg (f := sqA g i) (k := j) fun x _ => (sq13 (hg13 i x)).1
        have e6 := sumTo_le (f := sqA g i) (c := 169) (k := j) fun x _ => (sq13 (hg13 i x)).2
        repeat (first | refine vops_q tyOk rfl ?_ | refine vops_nil ?_ | refine vw_seq ?_ | refine vw_region (by kernel_rfl) ?_ | refine vops_p tyOk rfl (by (try simp only [inR]); omega) ?_ | refine vw_skip ?_ | refine vw_block ?_ | refine vops_load tyOk rfl rfl rfl (ht1 (by repeat (first | exact sub_hereL | exact sub_refl | apply sub_cons | apply sub_app))) ?_ | refine vops_load tyOk rfl rfl rfl (ht2' (by repeat (first | exact sub_hereL | exact sub_refl | apply sub_cons | apply sub_app))) ?_)
        refine vw_draw [0, 1, 2, 3, 4, 5, 6, 7, 8, 9, 10, 11, 12, 13, 14, 15, 16, 17] (by kernel_rfl) (by kernel_rfl) (by kernel_rfl) rfl ?_
        repeat' (first | refine vd_q tyOk rfl (by first | trivial | rfl) rfl (by kernel_rfl) (by kernel_rfl) ?_ | refine vd_p tyOk rfl (by first | trivial | rfl) rfl (by kernel_rfl) (by kernel_rfl) (by (try simp only [inR]); omega) ?_ | refine vd_nil (by kernel_rfl) ?_ | refine vd_load tyOk rfl (by first | trivial | rfl) rfl rfl rfl (by kernel_rfl) (by kernel_rfl) (by kernel_rfl) (hs1 (by repeat (first | exact sub_hereL | exact sub_refl | apply sub_cons | apply sub_app))) (by repeat (first | exact sub_hereL | exact sub_refl | apply sub_cons | apply sub_app)) ?_ | refine vd_load tyOk rfl (by first | trivial | rfl) rfl rfl rfl (by kernel_rfl) (by kernel_rfl) (by kernel_rfl) (hs2' (by repeat (first | exact sub_hereL | exact sub_refl | apply sub_cons | apply sub_app)) j hjk) (by repeat (first | exact sub_hereL | exact sub_refl | apply sub_cons | apply sub_app)) ?_)
        repeat (first | refine vops_q tyOk rfl ?_ | refine vops_nil ?_ | refine vw_region (by kernel_rfl) ?_ | refine vops_p tyOk rfl (by (try simp only [inR]); omega) ?_)
        exact ⟨k - (j + 1), by omega, j + 1, by omega, rfl, rfl, rfl, rfl, congrArg (Value.int .i64) (Int.add_assoc _ _ _), rfl, rfl, rfl, rfl, rfl, rfl, rfl, rfl⟩
      · obtain rfl : j = k := by omega
        rw [hcol i hik]
        repeat (first | refine vw_seq ?_ | refine vw_exit ?_)
        refine vw_draw [0, 1, 2, 3, 5, 6, 7, 4, 8, 9, 10, 11, 12, 13, 14, 15] (by kernel_rfl) (by kernel_rfl) (by kernel_rfl) rfl ?_
        repeat' (first | refine vd_q tyOk rfl (by first | trivial | rfl) rfl (by kernel_rfl) (by kernel_rfl) ?_ | refine vd_p tyOk rfl (by first | trivial | rfl) rfl (by kernel_rfl) (by kernel_rfl) (by (try simp only [inR]); omega) ?_ | refine vops_nil ?_ | refine vd_nil (by kernel_rfl) ?_ | refine ⟨fun _ _ _ h => h, ?_⟩ | refine vd_load tyOk rfl (by first | trivial | rfl) rfl rfl rfl (by kernel_rfl) (by kernel_rfl) (by kernel_rfl) (sees_mem (by repeat (first | exact mem_here | apply mem_next | apply mem_past)) (by rfl)) (by repeat (first | exact sub_hereL | exact sub_refl | apply sub_cons | apply sub_app)) ?_ | refine vd_load tyOk rfl (by first | trivial | rfl) rfl rfl rfl (by kernel_rfl) (by kernel_rfl) (by kernel_rfl) (hs1 (by repeat (first | exact sub_hereL | exact sub_refl | apply sub_cons | apply sub_app))) (by repeat (first | exact sub_hereL | exact sub_refl | apply sub_cons | apply sub_app)) ?_ | (apply vops_callp ent60 rfl; (intro w' hg; exact hsum w' _ (hs3 (by repeat (first | exact sub_hereL | exact sub_refl | apply sub_cons | apply sub_app)) hg))) | refine vd_one rfl (by kernel_rfl) (by kernel_rfl) rfl ?_ | (refine vd_gsplit rfl rfl rfl ?_; (fail_if_success (with_reducible (first | refine bs_true ?_ | refine bs_false ?_))); with_reducible refine bs_ndec (fun _ => ?_) (fun _ => ?_)) <;> try (exfalso; omega))
        repeat (first | refine vw_cond rfl ?_)
        refine bs_ndec2 (fun h => absurd rfl h) (fun _ => ?_)
        repeat (first | refine vops_q tyOk rfl ?_ | refine vops_nil ?_ | refine vw_region (by kernel_rfl) ?_ | refine vops_p tyOk rfl (by (try simp only [inR]); omega) ?_ | refine vw_skip ?_)
        exact ⟨j - (i + 1), by omega, i + 1, by omega, rfl, rfl, rfl, rfl, rfl, rfl, rfl, rfl, rfl⟩
    · obtain rfl : i = k := by omega
      repeat (first | refine vops_q tyOk rfl ?_ | refine vops_nil ?_ | refine vw_seq ?_ | refine vw_region (by kernel_rfl) ?_ | refine vops_guardF rfl rfl ?_ | refine vw_exit ?_ | apply vops_callp ent50 rfl; (intro w' hg; exact icC (c_impl_CarryCost i _ rs w' (NewR.see hN (by repeat (first | exact sub_hereL | exact sub_refl | apply sub_cons | apply sub_app)) _ hg) h14 hl1 (capR hN)) hcost) | ((show VOps _ _ _ _ (⟨some _, Go.Op.load _ _, _, _, _, none⟩ :: _) _ _); refine vops_loadNM tyOk rfl rfl rfl (by repeat (first | exact mem_here | apply mem_next | apply mem_past)) (by first | rfl | (rw [ints_length]; first | assumption | omega | (rw [ints_length]; first | assumption | omega | simp [*])) | simp [*]) ?_))
      refine bs_ndec2 (fun h => absurd rfl h) (fun _ => ?_)
      repeat (first | refine vops_q tyOk rfl ?_ | refine vops_guardF rfl rfl ?_ | with_reducible refine bs_false ?_)
      refine bs_ndec2 (fun h => absurd rfl h) (fun _ => ?_)
      have hkk : 0 ≤ (i : Int) * ((i : Int) - 1) ∧ (i : Int) * ((i : Int) - 1) ≤ 200 :=
        ⟨Int.mul_nonneg (by omega) (by omega), Int.le_trans (Int.mul_le_mul (show (i : Int) ≤ 14 by omega) (show (i : Int) - 1 ≤ 14 by omega) (by omega) (by omega)) (by omega)⟩
      cases bl with
      | true =>
        have hb1 : sumTo (fun x => sumTo (sqA g x) i) i = (i : Int) * ((i : Int) - 1) := hbal' rfl
        repeat (first | refine vops_q tyOk rfl ?_ | refine vops_nil ?_ | refine vops_guardT rfl rfl ?_ | refine vops_guardF rfl rfl ?_ | with_reducible refine bs_true ?_ | with_reducible refine bs_false ?_ | refine vops_p tyOk rfl (by (try simp only [inR]); omega) ?_ | refine vw_cond rfl ?_ | ((show VOps _ _ _ _ (⟨some _, Go.Op.load _ _, _, _, _, none⟩ :: _) _ _); refine vops_loadM tyOk rfl rfl rfl (by repeat (first | exact mem_here | apply mem_next | apply mem_past)) (by rfl) ?_))
        refine bs_ndec2 (fun h => absurd hb1 h) (fun _ => ?_)
        repeat (first | refine vw_skip ?_)
        exact rfl
      | false =>
        repeat (first | refine vops_q tyOk rfl ?_ | refine vops_nil ?_ | refine vops_guardT rfl rfl ?_ | refine vops_guardF rfl rfl ?_ | with_reducible refine bs_false ?_ | refine vw_cond rfl ?_ | refine vw_skip ?_)
        exact rfl

  clear hN hM hM2 hLs hBl hlok hlok1 hlok2
  rintro f own h0
  rw [upd_of h0]
  repeat (first | refine vops_q tyOk rfl ?_ | refine vw_seq ?_ | refine vw_region (by kernel_rfl) ?_)
  apply vops_call ent61 rfl
  · intro w' hg; exact c_DrawDigitRobin a cs cap w' (hB.same hg.fr) hcs hlc
  rintro _ newL ⟨x, l, pl, cl, hx64, hl20, rfl, hL⟩
  have hll : l.length ≤ 1048576 := by omega
  obtain ⟨n1, ds, dc, hD⟩ : ∃ n1 ds dc, digR x l = ((n1, ds), dc) := ⟨_, _, _, rfl⟩
  have hdo := digR_ok x l hll
  rw [hD] at hdo
  have hds : ds.length ≤ 1048576 := hdo.1
  have hds14 : ∀ r ∈ ds, r.length = 14 := hdo.2
  repeat (first | refine vops_q tyOk rfl ?_ | refine vops_nil ?_ | refine vw_seq ?_ | refine vw_region (by kernel_rfl) ?_)
  apply vops_call ent62 rfl
  · intro w' hg; exact psC (c_impl_DigitRobin x _ l w' (NewI.rdC hL (by repeat (first | exact sub_hereL | exact sub_refl | apply sub_cons | apply sub_app)) hg) hll) hD
  rintro _ newD ⟨p4, c4, rfl, hDN⟩
  repeat (first | refine vops_q tyOk rfl ?_ | refine vops_nil ?_ | refine vw_seq ?_ | refine vw_region (by kernel_rfl) ?_ | refine vops_allocZ [.int .i64 0, .slice none 0 0] tyOk rfl rfl (by simp) (fun b7 hb7 => ?_) | ((show VOps _ _ _ _ (⟨none, Go.Op.store _ _ _, _, _, _, none⟩ :: _) _ _); refine vops_storeAM tyOk rfl rfl rfl (by first | rfl | (rw [ints_length]; first | assumption | omega | (rw [ints_length]; first | assumption | omega | simp [*])) | simp [*]) (by first | exact ints_one | simp [Value.oneCell']) (by repeat (first | exact upd_here | apply upd_next | apply upd_past)) (by first | rfl | (rw [ints_length]; first | assumption | omega | (rw [ints_length]; first | assumption | omega | simp [*])) | simp [*]) ?_))
  apply vops_call ent63 rfl
  · intro w' hg; exact psC (c_spec_DigitRobin x _ l w' (NewI.rdG hL (by repeat (first | exact sub_hereL | exact sub_refl | apply sub_cons | apply sub_app)) hg) hll) hD
  rintro _ newD2 ⟨p7, c7, rfl, hDN2⟩
  repeat (first | refine vops_q tyOk rfl ?_ | refine vops_nil ?_ | refine vw_seq ?_ | refine vw_region (by kernel_rfl) ?_ | refine vops_guardF rfl rfl ?_ | refine vops_allocZ [.int .i64 0, .slice none 0 0] tyOk rfl rfl (by simp) (fun b8 hb8 => ?_) | ((show VOps _ _ _ _ (⟨none, Go.Op.store _ _ _, _, _, _, none⟩ :: _) _ _); refine vops_storeAM tyOk rfl rfl rfl (by first | rfl | (rw [ints_length]; first | assumption | omega | (rw [ints_length]; first | assumption | omega | simp [*])) | simp [*]) (by first | exact ints_one | simp [Value.oneCell']) (by repeat (first | exact upd_here | apply upd_next | apply upd_past)) (by first | rfl | (rw [ints_length]; first | assumption | omega | (rw [ints_length]; first | assumption | omega | simp [*])) | simp [*]) ?_))
  refine bs_ndec2 (fun h => absurd rfl h) (fun _ => ?_)
  repeat (first | refine vops_guardF rfl rfl ?_ | with_reducible refine bs_false ?_ | ((show VOps _ _ _ _ (⟨some _, Go.Op.load _ _, _, _, _, none⟩ :: _) _ _); refine vops_loadNM tyOk rfl rfl rfl (by repeat (first | exact mem_here | apply mem_next | apply mem_past)) (by first | rfl | (rw [ints_length]; first | assumption | omega | (rw [ints_length]; first | assumption | omega | simp [*])) | simp [*]) ?_))
  (apply vops_callp ent64 rfl; (intro w' hg; exact c_schedules5 n1 _ _ ds w' (NewR.see hDN (by repeat (first | exact sub_hereL | exact sub_refl | apply sub_cons | apply sub_app)) _ hg) (NewR.see hDN2 (by repeat (first | exact sub_hereL | exact sub_refl | apply sub_cons | apply sub_app)) _ hg) hds14 hds))
  iterate 7 (first | refine vops_q tyOk rfl ?_ | refine vops_nil ?_ | refine vw_seq ?_ | refine vw_region (by kernel_rfl) ?_ | refine vops_guardT rfl rfl ?_ | refine vops_guardF rfl rfl ?_ | refine vops_guardU rfl rfl ?_ | with_reducible refine bs_nbeq rfl ?_ | with_reducible refine bs_true ?_ | with_reducible refine bs_false ?_ | with_reducible refine bs_ntrue ?_ | with_reducible refine bs_nfalse ?_ | refine vops_p tyOk rfl (by (try simp only [inR]); omega) ?_ | refine vw_cond rfl ?_ | refine vw_skip ?_ | refine vw_block ?_ | refine vw_ret ?_ | refine vw_exit ?_ | ((show VOps _ _ _ _ (⟨some _, Go.Op.load _ _, _, _, _, none⟩ :: _) _ _); first | refine vops_loadM tyOk rfl rfl rfl (by repeat (first | exact mem_here | apply mem_next | apply mem_past)) (by rfl) ?_ | refine vops_loadM tyOk rfl rfl rfl (by repeat (first | exact mem_here | apply mem_next | apply mem_past)) (by exact ints_get0 (by omega)) ?_ | refine vops_loadNM tyOk rfl rfl rfl (by repeat (first | exact mem_here | apply mem_next | apply mem_past)) (by first | rfl | (rw [ints_length]; first | assumption | omega | (rw [ints_length]; first | assumption | omega | simp [*])) | simp [*]) ?_) | ((show VOps _ _ _ _ (⟨none, Go.Op.store _ _ _, _, _, _, none⟩ :: _) _ _); first | refine vops_storeIM tyOk rfl rfl rfl rfl (by repeat (first | exact upd_here | apply upd_next | apply upd_past)) (by omega) ?_ | refine vops_storeM tyOk rfl rfl rfl rfl rfl (by repeat (first | exact upd_here | apply upd_next | apply upd_past)) (by simp) ?_ | refine vops_storeAM tyOk rfl rfl rfl (by first | rfl | (rw [ints_length]; first | assumption | omega | (rw [ints_length]; first | assumption | omega | simp [*])) | simp [*]) (by first | exact ints_one | simp [Value.oneCell']) (by repeat (first | exact upd_here | apply upd_next | apply upd_past)) (by first | rfl | (rw [ints_length]; first | assumption | omega | (rw [ints_length]; first | assumption | omega | simp [*])) | simp [*]) ?_) | refine vops_build2 rfl rfl (by kernel_rfl) ?_ | refine vops_buildZ tyOk rfl (by kernel_rfl) ?_ | refine vops_slice tyOk rfl rfl rfl rfl rfl (by omega) ?_)
  refine vw_skip ?_
  refine vw_seq (vw_mid (fun f own => f 0 = .slice a cs.length cap) ?_ ?_)
  · repeat (first | refine vops_q tyOk rfl ?_ | refine vops_nil ?_ | refine vw_seq ?_ | refine vw_region (by kernel_rfl) ?_ | refine vw_cond rfl ?_)
    refine bs_dec (fun h0 => ?_) (fun _ => ?_)
    rotate_left
    · repeat (first | refine vw_skip ?_)
      exact rfl
    subst h0
    have hrob : robin n1 ds = (true, 0) := by
      unfold digR at hD
      by_cases h1 : IsDig x l
      rotate_left
      · rw [if_neg h1] at hD
        simp only [Prod.mk.injEq] at hD
        omega
      rw [if_pos h1] at hD
      unfold digR0 at hD
      simp only [Prod.mk.injEq] at hD
      obtain ⟨⟨rfl, rfl⟩, _⟩ := hD
      have hx := h1.1
      obtain ⟨k, rfl⟩ : ∃ k : Nat, x = (k : Int) := ⟨x.toNat, by omega⟩
      have hE := dig_even h1
      unfold robin
      rw [Int.toNat_natCast, if_pos hE.1]
      have := hE.2.1
      rw [Int.toNat_natCast] at this
      simp [this]
    repeat (first | refine vops_q tyOk rfl ?_ | refine vops_nil ?_ | refine vw_seq ?_ | refine vw_region (by kernel_rfl) ?_ | refine vops_guardF rfl rfl ?_ | apply vops_callp ent65 rfl; (intro w' hg; exact bcC (c_impl_IsRoundRobin n1 _ ds w' (NewR.see hDN (by repeat (first | exact sub_hereL | exact sub_refl | apply sub_cons | apply sub_app)) _ hg) hds14 hds) hrob) | ((show VOps _ _ _ _ (⟨some _, Go.Op.load _ _, _, _, _, none⟩ :: _) _ _); refine vops_loadNM tyOk rfl rfl rfl (by repeat (first | exact mem_here | apply mem_next | apply mem_past)) (by first | rfl | (rw [ints_length]; first | assumption | omega | (rw [ints_length]; first | assumption | omega | simp [*])) | simp [*]) ?_))
    refine bs_ndec2 (fun h => absurd rfl h) (fun _ => ?_)
    repeat (first | refine vops_q tyOk rfl ?_ | refine vops_nil ?_ | refine vops_guardF rfl rfl ?_ | with_reducible refine bs_false ?_ | with_reducible refine bs_ntrue ?_ | refine vw_cond rfl ?_ | refine vw_skip ?_)
    exact rfl

  clear hDN hDN2 hL hD hdo
  rintro f own h0
  rw [upd_of h0]
  repeat (first | refine vops_q tyOk rfl ?_ | refine vw_seq ?_ | refine vw_region (by kernel_rfl) ?_)
  apply vops_call ent66 rfl
  · intro w' hg; exact c_DrawFirstDigitOrder a cs cap w' (hB.same hg.fr) hcs hlc
  rintro _ _ ⟨rfl, n, rfl, hn64⟩
  obtain ⟨fl, fc, hF⟩ : ∃ fl fc, fdR n = (fl, fc) := ⟨_, _, rfl⟩
  have hfl := fdR_len n
  rw [hF] at hfl
  have hfl : fl.length ≤ 1048576 := hfl
  repeat (first | refine vops_q tyOk rfl ?_ | refine vops_nil ?_ | refine vw_seq ?_ | refine vw_region (by kernel_rfl) ?_)
  apply vops_call ent67 rfl
  · intro w' hg; exact iiC (c_impl_FirstDigitOrder n w') hF
  rintro _ newF ⟨p4, c4, rfl, hFN⟩
  repeat (first | refine vops_q tyOk rfl ?_ | refine vops_nil ?_ | refine vw_seq ?_ | refine vw_region (by kernel_rfl) ?_)
  apply vops_call ent68 rfl
  · intro w' hg; exact iiC (c_spec_FirstDigitOrder n w') hF
  rintro _ newF2 ⟨p7, c7, rfl, hFN2⟩
  repeat (first | refine vops_q tyOk rfl ?_ | refine vops_nil ?_ | refine vw_seq ?_ | refine vw_region (by kernel_rfl) ?_ | refine vops_guardF rfl rfl ?_)
  refine bs_ndec2 (fun h => absurd rfl h) (fun _ => ?_)
  repeat (first | refine vops_q tyOk rfl ?_ | refine vops_nil ?_ | refine vw_seq ?_ | refine vw_region (by kernel_rfl) ?_ | refine vops_guardF rfl rfl ?_ | with_reducible refine bs_false ?_ | with_reducible refine bs_ntrue ?_ | refine vw_cond rfl ?_ | refine vw_skip ?_ | (apply vops_callp ent52 rfl; (intro w' hg; exact c_likeC _ _ fl w' (NewI.rdG hFN (by repeat (first | exact sub_hereL | exact sub_refl | apply sub_cons | apply sub_app)) hg) (NewI.rdG hFN2 (by repeat (first | exact sub_hereL | exact sub_refl | apply sub_cons | apply sub_app)) hg) hfl)))
  refine bs_dec (fun h0 => ?_) (fun _ => ?_)
  rotate_left
  · repeat (first | refine vops_q tyOk rfl ?_ | refine vops_nil ?_ | refine vw_seq ?_ | refine vw_region (by kernel_rfl) ?_ | refine vw_skip ?_ | refine vw_ret ?_)
    exact rv_bool rfl rfl rfl
  subst h0
  obtain ⟨m, rfl, hdig, hgood⟩ := fd_zero hF
  have hD : digR ((m + 1 : Nat) : Int) fl = ((((m + 1 : Nat) : Int), digRows (m + 1) fl), 0) := by
    unfold digR
    rw [if_pos hdig]
    rfl
  have hE := dig_even hdig
  have hds : (digRows (m + 1) fl).length ≤ 1048576 := by rw [digRows_length]; exact hfl
  have hds14 := digRows14 (m + 1) fl
  have hbr : balR ((m + 1 : Nat) : Int) (digRows (m + 1) fl) = (true, 0) := by
    unfold balR
    rw [if_pos (codeE_zero.2 hE), Int.toNat_natCast]
    have : BalO (m + 1) (carN (m + 1) (digRows (m + 1) fl) (digRows (m + 1) fl).length) := hgood
    simp [this]
  repeat (first | refine vops_q tyOk rfl ?_ | refine vw_seq ?_ | refine vw_region (by kernel_rfl) ?_)
  apply vops_call ent62 rfl
  · intro w' hg; exact psC (c_impl_DigitRobin _ _ fl w' (NewI.rdC hFN (by repeat (first | exact sub_hereL | exact sub_refl | apply sub_cons | apply sub_app)) hg) hfl) hD
  rintro _ newD ⟨p4, c4, rfl, hDN⟩
  repeat (first | refine vops_q tyOk rfl ?_ | refine vops_nil ?_ | refine vw_seq ?_ | refine vw_region (by kernel_rfl) ?_ | refine vops_allocZ [.int .i64 0, .slice none 0 0] tyOk rfl rfl (by simp) (fun b7 hb7 => ?_) | ((show VOps _ _ _ _ (⟨some _, Go.Op.load _ _, _, _, _, none⟩ :: _) _ _); refine vops_loadNM tyOk rfl rfl rfl (by repeat (first | exact mem_here | apply mem_next | apply mem_past)) (by first | rfl | (rw [ints_length]; first | assumption | omega | (rw [ints_length]; first | assumption | omega | simp [*])) | simp [*]) ?_) | ((show VOps _ _ _ _ (⟨none, Go.Op.store _ _ _, _, _, _, none⟩ :: _) _ _); refine vops_storeAM tyOk rfl rfl rfl (by first | rfl | (rw [ints_length]; first | assumption | omega | (rw [ints_length]; first | assumption | omega | simp [*])) | simp [*]) (by first | exact ints_one | simp [Value.oneCell']) (by repeat (first | exact upd_here | apply upd_next | apply upd_past)) (by first | rfl | (rw [ints_length]; first | assumption | omega | (rw [ints_length]; first | assumption | omega | simp [*])) | simp [*]) ?_))
  repeat (first | refine vops_q tyOk rfl ?_ | refine vops_nil ?_ | refine vw_seq ?_ | refine vw_region (by kernel_rfl) ?_ | refine vops_guardT rfl rfl ?_ | apply vops_callp ent57 rfl; (intro w' hg; exact bcC (c_impl_IsCarryBalanced _ _ _ w' (NewR.see hDN (by repeat (first | exact sub_hereL | exact sub_refl | apply sub_cons | apply sub_app)) _ hg) hds14 hds (capR hDN)) hbr))
  refine bs_dec (fun _ => ?_) (fun h => absurd rfl h)
  repeat (first | refine vops_q tyOk rfl ?_ | refine vops_guardT rfl rfl ?_ | with_reducible refine bs_true ?_)
  refine bs_dec (fun _ => ?_) (fun h => absurd rfl h)
  repeat (first | refine vops_q tyOk rfl ?_ | refine vops_nil ?_ | refine vw_ret ?_)
  exact rv_bool rfl rfl rfl

end Go.Proofs.Ytlfflmoegfibgaa
