import Derived.Test.YtlnohlomanapeaaCB11
import Derived.Test.YtlnohlomanapeaaCB10
import Derived.Test.YtlnohlomanapeaaCB2R
import Derived.Test.YtlnohlomanapeaaVLA
/- A part of the proof: CB12. No conditions of its own. -/
namespace Go.Proofs.Ytlnohlomanapeaa
open Go.VL
attribute [local irreducible] VWr VOps VD Calls

/-- The best order of the rounds so far. -/
def BestP (rs : List (List Int)) (d : Nat) (c : Nat → Int) (L : List (List Int)) (q : Nat) (vb : Value) (new : Own) : Prop :=
  (q = 0 ∧ vb = .slice none 0 0 ∧ new = []) ∨ (0 < q ∧ (∃ pb cb, vb = .slice pb (d + 1) cb) ∧ NewF 90 14 (d + 1) (reord rs (L.getD (bIdx c q) [])).flatten vb new)
def lsP (c : Nat → Int) (q : Nat) : Int := if q = 0 then 9223372036854775807 else c (bIdx c q)

open Classical in
set_option maxHeartbeats 4000000 in
set_option maxRecDepth 100000 in
theorem c_impl_BestOrder (n : Int) (v : Value) (rs : List (List Int)) (w : World) (hv : RdS w v rs) (hr : ∀ r ∈ rs, r.length = 14) (hl : rs.length ≤ 1048576) (hcap : ∀ a m c, v = .slice a m c → m ≤ c) :
    Calls Try.prog 21 [.agg #[.int .i64 n, v]].toArray w (Res w (TrI 2 (boR n rs))) := by
  obtain ⟨a, cap, rfl⟩ := hv.len
  have hcp := hcap _ _ _ rfl
  refine calls_of_vw Try.func21 rfl Try.ntmps21 (by simp) ?_
  refine vw_seq (vw_region (by kernel_rfl) (vops_box [.int .i64 n, .slice a rs.length cap] rfl (fun b1 hb1 => ?_)))
  have hcc := fun (w' : World) (hg : Go.VL.Good ⟨w, []⟩ [(b1, ⟨[.int .i64 n, .slice a rs.length cap], 26, 2, none⟩)] w') => c_codeOfEvenRobin n _ rs w' (hv.same hg.fr) hr hl
  obtain ⟨cd, hcd⟩ : ∃ cd, cd = codeE n rs := ⟨_, rfl⟩
  rw [← hcd] at hcc
  repeat' (first | refine vops_q tyOk rfl ?_ | refine vops_nil ?_ | refine vw_seq ?_ | refine vw_region (by kernel_rfl) ?_ | refine vw_cond rfl ?_ | refine vw_skip ?_ | refine vw_block ?_ | refine vw_ret ?_ | (with_reducible refine bs_dec (fun _ => ?_) (fun _ => ?_)) <;> try (exfalso; omega) | (with_reducible refine bs_ndec (fun _ => ?_) (fun _ => ?_)) <;> try (exfalso; omega) | (apply vops_callp ent82 rfl; (intro w' hg; exact hcc w' hg)) | refine vops_allocZ [.slice none 0 0] tyOk rfl rfl (by simp) (fun b6 hb6 => ?_) | refine vops_allocZ [.int .i64 0] tyOk rfl rfl (by simp) (fun b7 hb7 => ?_) | (apply vops_call ent83 rfl; (intro w' hg; exact c_arrangementsR a rs.length cap 1 w'); (rintro _ newN ⟨bA, bB, rfl, rfl, hne⟩)) | ((show VOps _ _ _ _ (⟨some _, Go.Op.load _ _, _, _, _, none⟩ :: _) _ _); first | refine vops_loadM tyOk rfl rfl rfl (by repeat (first | exact mem_here | apply mem_next | apply mem_past)) (by rfl) ?_ | refine vops_loadNM tyOk rfl rfl rfl (by repeat (first | exact mem_here | apply mem_next | apply mem_past)) (by first | rfl | (rw [ints_length]; first | assumption | omega | (rw [ints_length]; first | assumption | omega | simp [*])) | simp [*]) ?_) | ((show VOps _ _ _ _ (⟨none, Go.Op.store _ _ _, _, _, _, none⟩ :: _) _ _); refine vops_storeM tyOk rfl rfl rfl rfl rfl (by repeat (first | exact upd_here | apply upd_next | apply upd_past)) (by simp) ?_))
  all_goals (first
    | (exfalso; omega)
    | exact trI_ok (new := []) rfl rfl rfl rfl NewI.nil (fun _ h => by cases h) (by rw [boR, if_neg (by omega), hcd])
    | exact trI_ok (new := []) rfl rfl rfl rfl NewI.nil (fun _ h => by cases h) (by rw [boR, if_pos (by omega), if_neg (by omega)])
    | skip)
  have hz : codeE n rs = 0 := by omega
  have h7 : rs.length ≤ 7 := by omega
  obtain ⟨k, rfl⟩ : ∃ k : Nat, n = (k : Int) := ⟨n.toNat, by have := (codeE_zero.1 hz).1.1; omega⟩
  have hE := codeE_zero.1 hz
  obtain ⟨hk2, hk14, hkl⟩ := hE.len
  obtain ⟨d, hd⟩ : ∃ d, rs.length = d + 1 := ⟨rs.length - 1, by omega⟩
  have hR : boR k rs = ((ordR (d + 1) d [0]).getD (bIdx (costI k rs d) (ordR (d + 1) d [0]).length) [], costI k rs d (bIdx (costI k rs d) (ordR (d + 1) d [0]).length), 0) := by
    have e : rs.length - 1 = d := by omega
    rw [boR, if_pos hz, if_pos h7, e, Int.toNat_natCast]
  rw [hR]
  clear hR hcc
  have hLp := ord_pos d
  have hat : ∀ q ∈ ordR (d + 1) d [0], q.length = rs.length ∧ (∀ x ∈ q, 0 ≤ x ∧ x < (rs.length : Int)) ∧ q.Nodup := fun q hq => by rw [hd]; exact ord_at hq
  have hsp := rs_split hd
  have hit := it_arrR a (d + 1) cap 1 [rs.getD 0 []] (rs.drop 1) rfl (by rw [List.length_drop, hd]) (by omega) (by omega) (by omega) (by rw [hsp]; exact hr) bA bB []
  rw [show d + 1 - 1 = d from rfl, arr_reord hd, hsp, List.append_nil, List.length_map] at hit
  obtain ⟨L, hL⟩ : ∃ L, L = ordR (d + 1) d [0] := ⟨_, rfl⟩
  obtain ⟨c, hc⟩ : ∃ c, c = costI k rs d := ⟨_, rfl⟩
  have hcq : ∀ i q, L[i]? = some q → c i = costO k rs q := fun i q hq => by rw [hc, costI, ← hL, List.getD_eq_getElem?_getD, hq]; rfl
  have hcr : ∀ i, i < L.length → 0 ≤ c i ∧ c i ≤ 1960000 := fun i hi => by
    obtain ⟨q, hq⟩ : ∃ q, L[i]? = some q := ⟨_, List.getElem?_eq_getElem hi⟩
    obtain ⟨a1, a2, a3⟩ := hat q (by rw [← hL]; exact List.mem_of_getElem? hq)
    rw [hcq i q hq]; exact cost_range (reord_even hE a1 a2 a3)
  rw [← hL] at hLp hat hit ⊢
  rw [← hc]
  rw [hd]
  have hvd : RdS w (.slice a (d + 1) cap) rs := by rw [← hd]; exact hv
  clear hv
  refine vw_rangeFuncC (ts := [22]) (own0 := [(b7, ⟨[.int .i64 9223372036854775807], 2, 1, none⟩), (b6, ⟨[.slice none 0 0], 85, 1, none⟩), (b1, ⟨[.int .i64 (k : Int), .slice a (d + 1) cap], 26, 2, none⟩)]) (cap := ArBR (.slice a (d + 1) cap) 1 bA bB) rfl ent153 hit
    (fun w' own' hg => RdFW.subL (RdFW.later (W := []) (by omega) (rdFW_rows hvd hr hd.symm) hg))
    List.perm_append_comm (by simp) (fun i w x W hK => by obtain ⟨_, _, rfl, _⟩ := hK; rfl) (fun i w x W W' hs hK => hK.sub hs)
    (fun q own => ∃ vb newB, BestP rs d c L q vb newB ∧ own = (newB ++ [(b7, ⟨[.int .i64 (lsP c q)], 2, 1, none⟩), (b6, ⟨[vb], 85, 1, none⟩), (b1, ⟨[.int .i64 (k : Int), .slice a (d + 1) cap], 26, 2, none⟩)]))
    (fun _ _ => False) ⟨_, [], .inl ⟨rfl, rfl, rfl⟩, rfl⟩ ?_ ?_ ?_
  · rintro l q x ownc w1 hq ⟨vb, newB, hB, rfl⟩ hg1 hK
    obtain ⟨o, ho⟩ : ∃ o, L[q]? = some o := ⟨_, List.getElem?_eq_getElem hq⟩
    have hgd : (L.map (reord rs)).getD q [] = reord rs o := by rw [List.getD_eq_getElem?_getD, List.getElem?_map, ho]; rfl
    have hgo : L.getD q [] = o := by rw [List.getD_eq_getElem?_getD, ho]; rfl
    rw [hgd] at hK
    obtain ⟨a', cap', rfl, hcap', hRd⟩ := hK
    obtain ⟨a1, a2, a3⟩ := hat o (List.mem_of_getElem? ho)
    have hER := reord_even hE a1 a2 a3
    have hq14 := reord14 (rs := rs) (q := o) hr a2
    have hrl : (reord rs o).length = d + 1 := by rw [reord_length, a1, hd]
    have hcost := hcq q o ho
    have hci := hcr q hq
    have hls0 : q = 0 → lsP c q = 9223372036854775807 := fun h => by rw [lsP, if_pos h]
    have hls1 : q ≠ 0 → lsP c q = c (bIdx c q) ∧ 0 ≤ lsP c q ∧ lsP c q ≤ 1960000 := fun h => by
      have hb := bIdx_lt c q (by omega)
      have := hcr (bIdx c q) (by omega)
      rw [lsP, if_neg h]; exact ⟨rfl, this⟩
    have hlr : 0 ≤ lsP c q ∧ lsP c q ≤ 9223372036854775807 := by
      by_cases h : q = 0
      · have := hls0 h; omega
      · have := (hls1 h).2; omega
    have hbs : bIdx c (q + 1) = if q = 0 then 0 else if c q < c (bIdx c q) then q else bIdx c q := rfl
    have hls2 : lsP c (q + 1) = c (bIdx c (q + 1)) := by rw [lsP, if_neg (by omega)]
    generalize hlsg : lsP c q = ls at *
    have hkey : c q < ls → bIdx c (q + 1) = q := fun h => by
      rw [hbs]
      by_cases h0 : q = 0
      · rw [if_pos h0, h0]
      · have := hls1 h0
        rw [if_neg h0, if_pos (by omega)]
    have hkeep : ¬ c q < ls → q ≠ 0 ∧ bIdx c (q + 1) = bIdx c q := fun h' => by
      have h0 : q ≠ 0 := fun h0 => by have := hls0 h0; omega
      have := hls1 h0
      exact ⟨h0, by rw [hbs, if_neg h0, if_neg (by omega)]⟩
    have hCost : ∀ w', Calls Try.prog 85 [mvM k (carN k (reord rs o) (reord rs o).length)].toArray w' (Res w' (Is (.int .i64 (c q)))) := by
      rw [hcost]; exact fun w' => c_costM k hk14 _ (carN_small hER) w'
    simp only [updL]
    repeat (first | refine vops_q tyOk rfl ?_ | refine vops_nil ?_ | refine vw_region (by kernel_rfl) ?_)
    intro w2 hg2 hg3
    have hRI := RdFWi.later (by omega) hRd hg3
    refine vw_block ?_
    repeat (first | refine vops_q tyOk rfl ?_ | refine vops_nil ?_ | refine vw_seq ?_ | refine vw_region (by kernel_rfl) ?_ | refine vw_cond rfl ?_ | (apply vops_callp ent84 rfl; (intro w' hg; exact c_carryIn k _ (reord rs o) hER w' (rdFW_S (RdFW.later (by omega) hRI hg) hq14 hrl.symm ⟨_, _, rfl⟩) hq14 (fun a m c h => by cases h; exact hcap'))) | (apply vops_callp ent85 rfl; (intro w' hg; exact hCost w')) | ((show VOps _ _ _ _ (⟨some _, Go.Op.load _ _, _, _, _, none⟩ :: _) _ _); refine vops_loadM tyOk rfl rfl rfl (by repeat (first | exact mem_here | apply mem_next | apply mem_past)) (by rfl) ?_) | refine vops_build2 rfl rfl (by kernel_rfl) ?_)
    refine bs_dec (fun hlt => ?_) (fun hlt => ?_)
    · repeat (first | refine vops_q tyOk rfl ?_ | refine vops_nil ?_ | refine vw_region (by kernel_rfl) ?_ | (apply vops_call ent86 rfl; (intro w' hg; exact c_cloneOR _ (d + 1) (reord rs o).flatten w' (rdFW_F (k := 14) (n := d + 1) (q := (reord rs o).flatten) (RdFW.later (by omega) hRI hg) (show (reord rs o).flatten.length = (d + 1) * 14 by rw [flat_length hq14, hrl]) ⟨_, _, rfl⟩) (by omega)); (intro _ newC hC; obtain ⟨pC, cC, rfl⟩ := SlAt.form hC)) | refine vops_storeM tyOk rfl rfl rfl rfl rfl (by repeat (first | exact upd_here | apply upd_next | apply upd_past)) (by simp) ?_)
      exact ⟨(newC ++ [(b7, ⟨[.int .i64 (c q)], 2, 1, none⟩), (b6, ⟨[.slice pC (d + 1) cC], 85, 1, none⟩), (b1, ⟨[.int .i64 (k : Int), .slice a (d + 1) cap], 26, 2, none⟩)]), (by repeat (first | exact ole_nil | exact ole_refl | (apply ole_cons; (repeat (first | exact pm1_here | apply pm1_next | apply pm1_past))) | (apply ole_app; (repeat (first | exact pm_here | exact pm_last | apply pm_next | apply pm_past))))), .slice pC (d + 1) cC, newC, .inr ⟨by omega, ⟨_, _, rfl⟩, by rw [hkey hlt, hgo]; exact hC⟩, by rw [hls2, hkey hlt]⟩
    · obtain ⟨h0, hk0⟩ := hkeep hlt
      repeat (first | refine vw_skip ?_)
      refine ⟨(newB ++ [(b7, ⟨[.int .i64 ls], 2, 1, none⟩), (b6, ⟨[vb], 85, 1, none⟩), (b1, ⟨[.int .i64 (k : Int), .slice a (d + 1) cap], 26, 2, none⟩)]), (by repeat (first | exact ole_nil | exact ole_refl | (apply ole_cons; (repeat (first | exact pm1_here | apply pm1_next | apply pm1_past))) | (apply ole_app; (repeat (first | exact pm_here | exact pm_last | apply pm_next | apply pm_past))))), vb, newB, ?_, by rw [hls2, hk0, (hls1 h0).1]⟩
      rcases hB with ⟨h, _⟩ | ⟨_, h2, h3⟩
      · exact absurd h h0
      · exact .inr ⟨by omega, h2, by rw [hk0]; exact h3⟩
  · rintro own' ⟨vb, newB, hB, rfl⟩
    rcases hB with ⟨h, _⟩ | ⟨_, ⟨pb, cb, rfl⟩, hN⟩
    · omega
    have hb := bIdx_lt c L.length hLp
    obtain ⟨o, ho⟩ : ∃ o, o = L.getD (bIdx c L.length) [] := ⟨_, rfl⟩
    have hom : o ∈ L := by rw [ho, List.getD_eq_getElem?_getD, List.getElem?_eq_getElem hb]; exact List.getElem_mem hb
    obtain ⟨a1, a2, a3⟩ := hat o hom
    have hrl : (reord rs o).length = d + 1 := by rw [reord_length, a1, hd]
    rw [← ho] at hN ⊢
    rw [lsP, if_neg (by omega), List.append_assoc]
    have hNR : NewR 90 14 (reord rs o) (.slice pb (d + 1) cb) newB := NewF.r (m := 0) hN hrl.symm rfl
    repeat (first | refine vw_seq ?_)
    refine vw_draw [0, 1, 3, 2, 4, 5, 6] (by kernel_rfl) (by kernel_rfl) (by kernel_rfl) rfl ?_
    repeat' (first | refine vd_q tyOk rfl (by first | trivial | rfl) rfl (by kernel_rfl) (by kernel_rfl) ?_ | refine vops_nil ?_ | refine vd_nil (by kernel_rfl) ?_ | refine ⟨fun _ _ _ h => List.mem_append_right _ h, ?_⟩ | refine vd_loadNM tyOk rfl (by first | trivial | rfl) rfl rfl rfl (by repeat (first | exact mem_here | apply mem_next | apply mem_past)) (by rfl) (by kernel_rfl) (by kernel_rfl) (by kernel_rfl) (by repeat (first | exact sub_hereL | exact sub_refl | apply sub_cons | apply sub_app)) ?_ | refine vd_load tyOk rfl (by first | trivial | rfl) rfl rfl rfl (by kernel_rfl) (by kernel_rfl) (by kernel_rfl) (sees_mem (by repeat (first | exact mem_here | apply mem_next | apply mem_past)) rfl) (by repeat (first | exact sub_hereL | exact sub_refl | apply sub_cons | apply sub_app)) ?_ | (apply vops_call ent87 rfl; (intro w' hg; exact c_placesOf (k : Int) _ _ rs o w' (hvd.same hg.fr) (NewR.see hNR (by repeat (first | exact sub_hereL | exact sub_refl | apply sub_cons | apply sub_app)) _ hg) hr (by omega) (by omega) a2 (fun i j r h1 h2 => first_inj hE h1 h2)); (intro _ newN hN; obtain ⟨pN, cN, rfl⟩ := SlAt.form hN)) | refine vd_one rfl (by kernel_rfl) (by kernel_rfl) rfl ?_)
    skip
    repeat (first | refine vw_ret ?_)
    exact trI_ok rfl rfl rfl rfl hN (by repeat (first | exact sub_hereL | exact sub_refl | apply sub_cons | apply sub_app)) rfl
  · rintro cc own' h
    exact h.elim
end Go.Proofs.Ytlnohlomanapeaa
