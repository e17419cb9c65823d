import Derived.Test.YtlfflmoegfibgaaZZ2
import Derived.Test.YtlfflmoegfibgaaZZ3
import Derived.Test.YtlfflmoegfibgaaZZ0
import Derived.Test.YtlfflmoegfibgaaVLBB
import Derived.Test.YtlfflmoegfibgaaVLA
/- Parts of the proof, one after another. No conditions of their own. -/
/- A part of the proof: DC1. No conditions of its own. -/
namespace Go.Proofs.Ytlfflmoegfibgaa
open Go.VL
attribute [local irreducible] VWr VOps VD Calls
attribute [local irreducible] Src

/-- Rounds that have been drawn. -/
def SchNew (v : Value) (new : Own) : Prop := ∃ (m : Int) (rs : List (List Int)) (p : Option Addr) (c : Nat), -2 ≤ m ∧ m ≤ 20 ∧ (∀ r ∈ rs, r.length = 14) ∧ rs.length ≤ 200 ∧ v = .agg #[.int .i64 m, .slice p rs.length c] ∧ NewR 50 14 rs (.slice p rs.length c) new
set_option maxHeartbeats 4000000 in
set_option maxRecDepth 100000 in
theorem c_l09Draw (a : Option Addr) (cs : List Nat) (cap : Nat) (w : World) (hB : RdB w a cs) (hcs : ∀ c ∈ cs, c < 256) (hl : cs.length ≤ 1048576) :
    Calls Try.prog 103 [.slice a cs.length cap].toArray w (Res w SchNew) := by
  have hC : ∀ {b : Nat}, SrcCtx ⟨w, []⟩ b a cs := SrcCtx.fresh hB hcs hl
  refine calls_of_vw Try.func103 rfl Try.ntmps103 (by simp) ?_
  refine vw_seq (vw_region (by kernel_rfl) (vops_allocZ [.int .i64 0, .slice none 0 0] tyOk rfl rfl (by simp) (fun b2 hb2 => ?_)))
  repeat (first | refine vops_q tyOk rfl ?_ | refine vops_nil ?_ | refine vw_seq ?_ | refine vw_region (by kernel_rfl) ?_)
  apply vops_call ent120 rfl
  · intro w' hg; exact c_l01From a cs cap w' (hB.same hg.fr) hcs hl
  rintro _ newN ⟨b, h', rfl, hh1, hh2, rfl⟩
  obtain ⟨i', hi', hi1, hi2⟩ : ∃ i' : Int, i' = 0 ∧ 0 ≤ i' ∧ i' ≤ cs.length := ⟨0, rfl, by omega, by omega⟩
  rw [show Src b a cs.length cap 0 h' = Src b a cs.length cap i' h' by rw [hi']]
  clear hi'
  repeat (first | refine vops_q tyOk rfl ?_ | refine vops_nil ?_ | refine vw_seq ?_ | refine vw_region (by kernel_rfl) ?_ | refine vops_litI [2, 4, 6, 6, 8, 8, 10, 12] tyOk rfl rfl (List.cons_ne_nil _ _) (by rfl) rfl (by omega) (by omega) (fun bt hbt => ?_) | (apply vops_callM (own0 := Src b a cs.length cap i' h') ent121 rfl; (case hp => (repeat (first | exact pm_here | exact pm_last | apply pm_next | apply pm_past))); (case h => (intro w' hg; exact c_pick (l := [2, 4, 6, 6, 8, 8, 10, 12]) hC hg hi1 hi2 hh1 hh2 (by repeat (first | exact mem_here | apply mem_next | apply mem_past)) rfl (by simp) (by simp))); (rintro _ newM ⟨x, hx, rfl, i', h', hi1, hi2, hh1, hh2, rfl⟩)))
  obtain ⟨k, rfl, hk2, hk14⟩ : ∃ k : Nat, x = (k : Int) ∧ 2 ≤ k ∧ k ≤ 14 := by
    have hx' : 2 ≤ x ∧ x ≤ 14 := by simp at hx; omega
    exact ⟨x.toNat, by omega, by omega, by omega⟩
  have hsch := circ_sch (n := (k : Int)) (by omega) (by omega)
  have h14 := circRows14 (k : Int)
  have hcc : ∀ w', Calls Try.prog 154 [Value.int .i64 k].toArray w' (Res w' (SchR k (circRows (k : Int)))) := fun w' => c_l01Circle (k : Int) (by omega) (by omega) w'
  generalize circRows (k : Int) = rs at *
  have hrl : rs.length ≤ 40 := hsch.2.2.1
  refine vops_call ent154 rfl (fun w' _ => hcc w') ?_
  rintro _ newN ⟨p, cp, rfl, hN⟩
  refine vops_allocZ [.int .i64 0, .slice none 0 0] tyOk rfl rfl (by simp) (fun b4 hb4 => ?_)
  refine vops_storeAM tyOk rfl rfl rfl (by first | rfl | (rw [ints_length]; first | assumption | omega | (rw [ints_length]; first | assumption | omega | simp [*])) | simp [*]) (by first | exact ints_one | simp [Value.oneCell']) (by repeat (first | exact upd_here | apply upd_next | apply upd_past)) (by first | rfl | (rw [ints_length]; first | assumption | omega | (rw [ints_length]; first | assumption | omega | simp [*])) | simp [*]) ?_
  refine vops_nil ?_
  refine vw_seq (vw_seq (vw_region (by kernel_rfl) ?_))
  refine vops_q tyOk rfl ?_
  (apply vops_callM ent123 rfl; (case h => (intro w' hg; exact c_next (hC.at (cap := cap) hg hi1 hi2 hh1 hh2) (by omega))); (case hp => (repeat (first | exact pm_here | exact pm_last | apply pm_next | apply pm_past))); (rintro _ newM ⟨x, rfl, hx0, hx1, i', h', hi1, hi2, hh1, hh2, rfl⟩))
  refine vops_nil ?_
  refine vw_mid (fun f own => ∃ (k : Nat) (rs : List (List Int)) (p : Option Addr) (c : Nat) (newS : Own) (i' h' : Int), f 3 = .pointer (some ⟨b, 0, none⟩) ∧ f 4 = .pointer (some ⟨b4, 0, none⟩) ∧ f 2 = .pointer (some ⟨b2, 0, none⟩) ∧ 2 ≤ k ∧ k ≤ 14 ∧ (∀ r ∈ rs, r.length = 14) ∧ rs.length ≤ 100 ∧ NewR 50 14 rs (.slice p rs.length c) newS ∧ 0 ≤ i' ∧ i' ≤ cs.length ∧ 0 ≤ h' ∧ h' < 18446744073709551616 ∧ OLe (Src b a cs.length cap i' h' ++ (newS ++ [(b4, ⟨[.int .i64 k, .slice p rs.length c], 32, 2, none⟩), (b2, ⟨[.int .i64 0, .slice none 0 0], 32, 2, none⟩)])) own) ?_ ?_
  · repeat (first | refine vops_q tyOk rfl ?_ | refine vops_nil ?_ | refine vw_seq ?_ | refine vw_region (by kernel_rfl) ?_ | refine vw_cond rfl ?_ | refine vw_block ?_)
    refine bs_dec (fun hx => ?_) (fun hx => ?_)
    · repeat (first | refine vops_q tyOk rfl ?_ | refine vops_nil ?_ | refine vw_seq ?_ | refine vw_region (by kernel_rfl) ?_ | refine vw_block ?_ | (apply vops_callM ent122 rfl; (case h => (intro w' hg; exact c_order (cap := cap) (n := 7) hC hg hi1 hi2 hh1 hh2 (by omega))); (case hp => (repeat (first | exact pm_here | exact pm_last | apply pm_next | apply pm_past))); (rintro _ newM ⟨l, pl, cl, newl, i', h', rfl, hO, hNl, hi1, hi2, hh1, hh2, rfl⟩; rw [List.append_assoc])))
      have hll := hO.len
      obtain ⟨bl, rfl, rfl, hlc, hlm, _⟩ := NewF.blk (n := 7) (by have := NewI.f (l := l) (v := .slice pl l.length cl) (new := newl) (e := 2) (by rw [hll]; exact hNl); rwa [hll] at this) (by omega)
      have hlr : ∀ x ∈ l, 0 ≤ x ∧ x ≤ 100 := fun x hx => by have := ord_in hO x hx; omega
      refine vw_loopW (fun y f own => ∃ (z : Nat) (l : List Int), z ≤ 7 ∧ y = 7 - z ∧ l.length = 7 ∧ (∀ x ∈ l, 0 ≤ x ∧ x ≤ 100 + z) ∧ f 6 = .int .i64 z ∧ f 5 = .slice (some ⟨bl, 0, none⟩) 7 cl ∧ f 3 = .pointer (some ⟨b, 0, none⟩) ∧ f 4 = .pointer (some ⟨b4, 0, none⟩) ∧ f 2 = .pointer (some ⟨b2, 0, none⟩) ∧
          own = Src b a cs.length cap i' h' ++ [(bl, ⟨ints l, 2, cl * 1, none⟩), (b4, ⟨[.int .i64 k, .slice p rs.length cp], 32, 2, none⟩), (b2, ⟨[.int .i64 0, .slice none 0 0], 32, 2, none⟩)]) 7
        ⟨_, (by repeat (first | exact ole_nil | exact ole_refl | (apply ole_cons; (repeat (first | exact pm1_here | apply pm1_next | apply pm1_past))) | (apply ole_app; (repeat (first | exact pm_here | exact pm_last | apply pm_next | apply pm_past))))), 0, l, by omega, by omega, hll, fun x hx => by have := hlr x hx; omega, rfl, rfl, rfl, rfl, rfl, rfl⟩ ?_
      clear hO hNl hll hlr
      rintro y f own ⟨z, l, hz, rfl, hll, hlr, h6, h5, h3, h4, h2, rfl⟩
      rw [upd_of h6, upd_of h5, upd_of h3, upd_of h4, upd_of h2]
      repeat (first | refine vops_q tyOk rfl ?_ | refine vops_nil ?_ | refine vw_seq ?_ | refine vw_region (by kernel_rfl) ?_ | refine vw_cond rfl ?_)
      refine bs_dec (fun hlt => ?_) (fun hlt => ?_)
      · have hzl := hlr _ (mem_getD (l := l) (i := z) (by omega))
        have hcell : (ints l)[0 + (z : Int).toNat]? = some (.int .i64 (l.getD z 0)) := by rw [show 0 + (z : Int).toNat = z by omega]; exact ints_get (by omega)
        have hidx : 0 + (z : Int).toNat = 0 + z := by omega
        repeat (first | refine vops_q tyOk rfl ?_ | refine vops_nil ?_ | refine vw_seq ?_ | refine vw_region (by kernel_rfl) ?_ | refine vops_p tyOk rfl (by (try simp only [inR]); omega) ?_ | refine vw_skip ?_ | refine vw_block ?_ | refine vops_loadM tyOk rfl rfl rfl (by repeat (first | exact mem_here | apply mem_next | apply mem_past)) (by exact hcell) ?_ | refine vops_storeIM (o := z) tyOk rfl rfl (by exact congrArg (fun x => Value.pointer (some ⟨bl, x, none⟩)) hidx) rfl (by repeat (first | exact upd_here | apply upd_next | apply upd_past)) (by omega) ?_)
        refine ⟨7 - (z + 1), by omega, _, ole_refl, z + 1, l.set z (l.getD z 0 + 1), by omega, rfl, by rw [List.length_set]; exact hll, fun x hx => ?_, rfl, rfl, rfl, rfl, rfl, rfl⟩
        rcases List.mem_or_eq_of_mem_set hx with h | h
        · have := hlr x h; omega
        · omega
      · have hz7 : z = 7 := by omega
        have hlD : ∀ x ∈ l, 0 ≤ x ∧ x < 1024 := fun x hx => by have := hlr x hx; omega
        repeat (first | refine vops_q tyOk rfl ?_ | refine vops_nil ?_ | refine vw_region (by kernel_rfl) ?_ | refine vw_exit ?_ | (apply vops_call ent129 rfl; (intro w' hg; exact c_l09Robin 8 (by omega) _ l w' (rdI_lit (by repeat (first | exact mem_here | apply mem_next | apply mem_past)) hg hll.symm) (by omega) hlD); (rintro _ newN ⟨p9, c9, rfl, hN9⟩)) | ((show VOps _ _ _ _ (⟨none, Go.Op.store _ _ _, _, _, _, none⟩ :: _) _ _); refine vops_storeAM tyOk rfl rfl rfl (by first | rfl | (rw [ints_length]; first | assumption | omega | (rw [ints_length]; first | assumption | omega | simp [*])) | simp [*]) (by first | exact ints_one | simp [Value.oneCell']) (by repeat (first | exact upd_here | apply upd_next | apply upd_past)) (by first | rfl | (rw [ints_length]; first | assumption | omega | (rw [ints_length]; first | assumption | omega | simp [*])) | simp [*]) ?_))
        have hdl := digRows_length 8 l
        exact ⟨8, digRows 8 l, p9, c9, newN, i', h', rfl, rfl, rfl, by omega, by omega, digRows14 8 l, (by omega), hN9, hi1, hi2, hh1, hh2, (by repeat (first | exact ole_nil | exact ole_refl | (apply ole_cons; (repeat (first | exact pm1_here | apply pm1_next | apply pm1_past))) | (apply ole_app; (repeat (first | exact pm_here | exact pm_last | apply pm_next | apply pm_past)))))⟩
    repeat (first | refine vops_q tyOk rfl ?_ | refine vops_nil ?_ | refine vw_seq ?_ | refine vw_region (by kernel_rfl) ?_ | refine vw_cond rfl ?_)
    refine bs_dec (fun hx1 => ?_) (fun hx1 => ?_)
    · repeat (first | refine vops_q tyOk rfl ?_ | refine vops_nil ?_ | refine vw_region (by kernel_rfl) ?_ | (apply vops_callM ent155 rfl; (case h => (intro w' hg; exact c_l01DrawRobin b a cs cap i' h' w' (hC.at (cap := cap) hg hi1 hi2 hh1 hh2))); (case hp => (repeat (first | exact pm_here | exact pm_last | apply pm_next | apply pm_past))); (rintro _ newM ⟨k2, rs2, p2, c2, newS2, i', h', hsch2, h142, rfl, hN2, hi1, hi2, hh1, hh2, rfl⟩; rw [List.append_assoc])) | ((show VOps _ _ _ _ (⟨none, Go.Op.store _ _ _, _, _, _, none⟩ :: _) _ _); refine vops_storeAM tyOk rfl rfl rfl (by first | rfl | (rw [ints_length]; first | assumption | omega | (rw [ints_length]; first | assumption | omega | simp [*])) | simp [*]) (by first | exact ints_one | simp [Value.oneCell']) (by repeat (first | exact upd_here | apply upd_next | apply upd_past)) (by first | rfl | (rw [ints_length]; first | assumption | omega | (rw [ints_length]; first | assumption | omega | simp [*])) | simp [*]) ?_))
      have hk22 := hsch2.1
      have hk214 := hsch2.2.1
      have hrl2 := hsch2.2.2.1
      exact ⟨k2, rs2, p2, c2, newS2, i', h', rfl, rfl, rfl, by omega, by omega, h142, (by omega), hN2, hi1, hi2, hh1, hh2, (by repeat (first | exact ole_nil | exact ole_refl | (apply ole_cons; (repeat (first | exact pm1_here | apply pm1_next | apply pm1_past))) | (apply ole_app; (repeat (first | exact pm_here | exact pm_last | apply pm_next | apply pm_past)))))⟩
    repeat (first | refine vops_q tyOk rfl ?_ | refine vops_nil ?_ | refine vw_seq ?_ | refine vw_region (by kernel_rfl) ?_ | refine vw_cond rfl ?_)
    refine bs_dec (fun hx2 => ?_) (fun hx2 => ?_)
    · skip
      refine vw_drawB [(b4, _)] [0, 1, 2, 3, 4, 5, 6, 7] (by kernel_rfl) (by kernel_rfl) (by kernel_rfl) rfl (by repeat (first | exact ole_nil | exact ole_refl | (apply ole_cons; (repeat (first | exact pm1_here | apply pm1_next | apply pm1_past))) | (apply ole_app; (repeat (first | exact pm_here | exact pm_last | apply pm_next | apply pm_past))))) ?_
      repeat' (first | refine vd_q tyOk rfl (by first | trivial | rfl) rfl (by kernel_rfl) (by kernel_rfl) ?_ | refine vops_nil ?_ | refine vd_nil (by kernel_rfl) ?_ | refine ⟨fun _ _ _ h => List.mem_append_right _ h, ?_⟩ | refine vd_load tyOk rfl (by first | trivial | rfl) rfl rfl rfl (by kernel_rfl) (by kernel_rfl) (by kernel_rfl) (sees_mem (by repeat (first | exact mem_here | apply mem_next | apply mem_past)) (by rfl)) (by repeat (first | exact sub_hereL | exact sub_refl | apply sub_cons | apply sub_app)) ?_ | refine vd_loadNM tyOk rfl (by first | trivial | rfl) rfl rfl rfl (by repeat (first | exact mem_here | apply mem_next | apply mem_past)) (by first | rfl | (rw [ints_length]; first | assumption | omega | (rw [ints_length]; first | assumption | omega | simp [*])) | simp [*]) (by kernel_rfl) (by kernel_rfl) (by kernel_rfl) (by repeat (first | exact sub_hereL | exact sub_refl | apply sub_cons | apply sub_app)) ?_ | refine ⟨fun h => Bool.noConfusion (show false = true from h), ?_⟩ | refine ⟨fun _ p hp _ => (show Go.VL.Sub _ _ from (by repeat (first | exact sub_hereL | exact sub_refl | apply sub_cons | apply sub_app))) p hp, ?_⟩ | (apply vops_callM ent122 rfl; (case h => (intro w' hg; exact c_order (cap := cap) (n := rs.length) hC hg hi1 hi2 hh1 hh2 (by omega))); (case hp => (repeat (first | exact pm_here | exact pm_last | apply pm_next | apply pm_past))); (rintro _ newM ⟨l2, pl2, cl2, newl2, i', h', rfl, hO2, hNl2, hi1, hi2, hh1, hh2, rfl⟩; rw [List.append_assoc])) | (apply vops_call ent114 rfl; (intro w' hg; exact c_l01Reordered (k : Int) _ _ rs l2 w' (NewR.see hN (by repeat (first | exact sub_hereL | exact sub_refl | apply sub_cons | apply sub_app)) _ hg) (NewI.see (by assumption) (by repeat (first | exact sub_hereL | exact sub_refl | apply sub_cons | apply sub_app)) _ hg) h14 (by omega) (ord_le hO2 (by omega)) (ord_in hO2)); (rintro _ newN ⟨p2, c2, rfl, hN2⟩)) | ((show VOps _ _ _ _ (⟨none, Go.Op.store _ _ _, _, _, _, none⟩ :: _) _ _); refine vops_storeAM tyOk rfl rfl rfl (by first | rfl | (rw [ints_length]; first | assumption | omega | (rw [ints_length]; first | assumption | omega | simp [*])) | simp [*]) (by first | exact ints_one | simp [Value.oneCell']) (by repeat (first | exact upd_here | apply upd_next | apply upd_past)) (by first | rfl | (rw [ints_length]; first | assumption | omega | (rw [ints_length]; first | assumption | omega | simp [*])) | simp [*]) ?_) | refine vd_one rfl (by kernel_rfl) (by kernel_rfl) rfl ?_)
      have hs2 : IsSch k (reord rs l2) := reord_sch hsch (by rw [hO2.len]; exact hrl) (ord_in hO2)
      have h142 : ∀ r ∈ reord rs l2, r.length = 14 := reord14 h14 (ord_in hO2)
      have hrl2 := hs2.2.2.1
      skip
      exact ⟨k, reord rs l2, p2, c2, newN, i', h', rfl, rfl, rfl, by omega, by omega, h142, (by omega), hN2, hi1, hi2, hh1, hh2, (by repeat (first | exact ole_nil | exact ole_refl | (apply ole_cons; (repeat (first | exact pm1_here | apply pm1_next | apply pm1_past))) | (apply ole_app; (repeat (first | exact pm_here | exact pm_last | apply pm_next | apply pm_past)))))⟩
    · repeat (first | refine vw_skip ?_)
      exact ⟨k, rs, p, cp, newN, i', h', rfl, rfl, rfl, by omega, by omega, h14, (by omega), hN, hi1, hi2, hh1, hh2, (by repeat (first | exact ole_nil | exact ole_refl | (apply ole_cons; (repeat (first | exact pm1_here | apply pm1_next | apply pm1_past))) | (apply ole_app; (repeat (first | exact pm_here | exact pm_last | apply pm_next | apply pm_past)))))⟩
  · clear hN h14 hsch hrl hcc hi1 hi2 hh1 hh2
    rintro f own ⟨k, rs, p, c, newS, i', h', h3, h4, h2, hk2, hk14, h14, hrl, hN, hi1, hi2, hh1, hh2, hle⟩
    rw [upd_of h3, upd_of h4, upd_of h2]
    refine vw_le hle ?_
    clear hle
    refine vw_seq (vw_seq (vw_region (by kernel_rfl) ?_))
    refine vops_q tyOk rfl ?_
    (apply vops_callM ent123 rfl; (case h => (intro w' hg; exact c_next (hC.at (cap := cap) hg hi1 hi2 hh1 hh2) (by omega))); (case hp => (repeat (first | exact pm_here | exact pm_last | apply pm_next | apply pm_past))); (rintro _ newM ⟨x, rfl, hx0, hx1, i', h', hi1, hi2, hh1, hh2, rfl⟩))
    refine vops_q tyOk rfl ?_
    refine vops_nil ?_
    refine vw_mid (fun f own => ∃ (k : Nat) (rs : List (List Int)) (p : Option Addr) (c : Nat) (newS : Own) (i' h' : Int), f 3 = .pointer (some ⟨b, 0, none⟩) ∧ f 4 = .pointer (some ⟨b4, 0, none⟩) ∧ f 2 = .pointer (some ⟨b2, 0, none⟩) ∧ 2 ≤ k ∧ k ≤ 14 ∧ (∀ r ∈ rs, r.length = 14) ∧ rs.length ≤ 100 ∧ NewR 50 14 rs (.slice p rs.length c) newS ∧ 0 ≤ i' ∧ i' ≤ cs.length ∧ 0 ≤ h' ∧ h' < 18446744073709551616 ∧ OLe (Src b a cs.length cap i' h' ++ (newS ++ [(b4, ⟨[.int .i64 k, .slice p rs.length c], 32, 2, none⟩), (b2, ⟨[.int .i64 0, .slice none 0 0], 32, 2, none⟩)])) own) ?_ ?_
    · repeat (first | refine vw_cond rfl ?_)
      refine bs_dec (fun hx => ?_) (fun hx => ?_)
      · repeat (first | refine vops_q tyOk rfl ?_ | refine vops_nil ?_ | refine vw_region (by kernel_rfl) ?_ | (apply vops_callM ent156 rfl; (case h => (intro w' hg; exact c_l01Draw b a cs cap i' h' w' (hC.at (cap := cap) hg hi1 hi2 hh1 hh2))); (case hp => (repeat (first | exact pm_here | exact pm_last | apply pm_next | apply pm_past))); (rintro _ newM ⟨k2, rs2, p2, c2, newS2, i', h', hk22, hk214, h142, hrl2, rfl, hN2, hi1, hi2, hh1, hh2, rfl⟩; rw [List.append_assoc])) | ((show VOps _ _ _ _ (⟨none, Go.Op.store _ _ _, _, _, _, none⟩ :: _) _ _); refine vops_storeAM tyOk rfl rfl rfl (by first | rfl | (rw [ints_length]; first | assumption | omega | (rw [ints_length]; first | assumption | omega | simp [*])) | simp [*]) (by first | exact ints_one | simp [Value.oneCell']) (by repeat (first | exact upd_here | apply upd_next | apply upd_past)) (by first | rfl | (rw [ints_length]; first | assumption | omega | (rw [ints_length]; first | assumption | omega | simp [*])) | simp [*]) ?_))
        exact ⟨k2, rs2, p2, c2, newS2, i', h', rfl, rfl, rfl, by omega, by omega, h142, hrl2, hN2, hi1, hi2, hh1, hh2, (by repeat (first | exact ole_nil | exact ole_refl | (apply ole_cons; (repeat (first | exact pm1_here | apply pm1_next | apply pm1_past))) | (apply ole_app; (repeat (first | exact pm_here | exact pm_last | apply pm_next | apply pm_past)))))⟩
      · repeat (first | refine vw_skip ?_)
        exact ⟨k, rs, p, c, newS, i', h', rfl, rfl, rfl, by omega, by omega, h14, hrl, hN, hi1, hi2, hh1, hh2, (by repeat (first | exact ole_nil | exact ole_refl | (apply ole_cons; (repeat (first | exact pm1_here | apply pm1_next | apply pm1_past))) | (apply ole_app; (repeat (first | exact pm_here | exact pm_last | apply pm_next | apply pm_past)))))⟩
    clear hN h14 hrl hi1 hi2 hh1 hh2 hk2 hk14
    rintro f own ⟨k, rs, p, c, newS, i', h', h3, h4, h2, hk2, hk14, h14, hrl, hN, hi1, hi2, hh1, hh2, hle⟩
    rw [upd_of h3, upd_of h4, upd_of h2]
    refine vw_le hle ?_
    clear hle
    repeat (first | refine vops_q tyOk rfl ?_ | refine vw_seq ?_ | refine vw_region (by kernel_rfl) ?_ | ((show VOps _ _ _ _ (⟨some _, Go.Op.load _ _, _, _, _, none⟩ :: _) _ _); refine vops_loadNM tyOk rfl rfl rfl (by repeat (first | exact mem_here | apply mem_next | apply mem_past)) (by first | rfl | (rw [ints_length]; first | assumption | omega | (rw [ints_length]; first | assumption | omega | simp [*])) | simp [*]) ?_))
    refine vops_perm (own' := (Src b a cs.length cap i' h' ++ newS) ++ [(b4, ⟨[.int .i64 k, .slice p rs.length c], 32, 2, none⟩), (b2, ⟨[.int .i64 0, .slice none 0 0], 32, 2, none⟩)]) (List.Perm.of_eq (by rw [List.append_assoc])) ?_
    refine vops_callM ent157 rfl (own0 := Src b a cs.length cap i' h' ++ newS) (List.Perm.refl _) (fun w' hg => c_l01Bad b a cs cap i' h' k rs p c newS w' hk2 hk14 h14 hrl hN (SrcCtx.of (rdB_up hB hg (fun q hq => List.mem_append_left _ hq)) (by simp [Src, ids]) hcs hl) hi1 hi2 hh1 hh2 (okS hg)) ?_
    rintro _ newM ⟨m, rs2, p2, c2, newE, i', h', hm0, hm1, h142, hrl2, rfl, hN2, hi1, hi2, hh1, hh2, rfl⟩
    rw [List.append_assoc]
    repeat (first | refine vops_nil ?_ | refine vw_ret ?_ | ((show VOps _ _ _ _ (⟨none, Go.Op.store _ _ _, _, _, _, none⟩ :: _) _ _); refine vops_storeAM tyOk rfl rfl rfl (by first | rfl | (rw [ints_length]; first | assumption | omega | (rw [ints_length]; first | assumption | omega | simp [*])) | simp [*]) (by first | exact ints_one | simp [Value.oneCell']) (by repeat (first | exact upd_here | apply upd_next | apply upd_past)) (by first | rfl | (rw [ints_length]; first | assumption | omega | (rw [ints_length]; first | assumption | omega | simp [*])) | simp [*]) ?_))
    exact ⟨_, newE, rv_cell (cs := [.int .i64 m, .slice p2 rs2.length c2]) tyOk rfl rfl rfl rfl rfl (fun j v hj => by rw [Nat.zero_add]; exact sees_mem (by repeat (first | exact mem_here | apply mem_next | apply mem_past)) hj), SlAt.nodup hN2, (by repeat (first | exact sub_hereL | exact sub_refl | apply sub_cons | apply sub_app)), m, rs2, p2, c2, hm0, hm1, h142, hrl2, rfl, hN2⟩
theorem c_DrawBestOrder (a : Option Addr) (cs : List Nat) (cap : Nat) (w : World) (hB : RdB w a cs) (hcs : ∀ c ∈ cs, c < 256) (hl : cs.length ≤ 1048576) :
    Calls Try.prog 47 [.slice a cs.length cap].toArray w (Res w SchNew) := by
  refine calls_of_vw Try.func47 rfl Try.ntmps47 (by simp) ?_
  refine vw_seq (vw_region (by kernel_rfl) (vops_allocZ [.int .i64 0, .slice none 0 0] tyOk rfl rfl (by simp) (fun b2 hb2 => ?_)))
  repeat (first | refine vops_q tyOk rfl ?_ | refine vops_nil ?_ | refine vw_seq ?_ | refine vw_region (by kernel_rfl) ?_ | refine vw_ret ?_ | (apply vops_call ent103 rfl; (intro w' hg; exact c_l09Draw a cs cap w' (hB.same hg.fr) hcs hl); (rintro _ newN ⟨m, rs2, p2, c2, hm0, hm1, h142, hrl2, rfl, hN2⟩)) | ((show VOps _ _ _ _ (⟨none, Go.Op.store _ _ _, _, _, _, none⟩ :: _) _ _); refine vops_storeAM tyOk rfl rfl rfl (by first | rfl | (rw [ints_length]; first | assumption | omega | (rw [ints_length]; first | assumption | omega | simp [*])) | simp [*]) (by first | exact ints_one | simp [Value.oneCell']) (by repeat (first | exact upd_here | apply upd_next | apply upd_past)) (by first | rfl | (rw [ints_length]; first | assumption | omega | (rw [ints_length]; first | assumption | omega | simp [*])) | simp [*]) ?_))
  exact ⟨_, newN, rv_cell (cs := [.int .i64 m, .slice p2 rs2.length c2]) tyOk rfl rfl rfl rfl rfl (fun j v hj => by rw [Nat.zero_add]; exact sees_mem (by repeat (first | exact mem_here | apply mem_next | apply mem_past)) hj), SlAt.nodup hN2, (by repeat (first | exact sub_hereL | exact sub_refl | apply sub_cons | apply sub_app)), m, rs2, p2, c2, hm0, hm1, h142, hrl2, rfl, hN2⟩
theorem c_DrawCarryMatrix (a : Option Addr) (cs : List Nat) (cap : Nat) (w : World) (hB : RdB w a cs) (hcs : ∀ c ∈ cs, c < 256) (hl : cs.length ≤ 1048576) :
    Calls Try.prog 54 [.slice a cs.length cap].toArray w (Res w SchNew) := by
  refine calls_of_vw Try.func54 rfl Try.ntmps54 (by simp) ?_
  refine vw_seq (vw_region (by kernel_rfl) (vops_allocZ [.int .i64 0, .slice none 0 0] tyOk rfl rfl (by simp) (fun b2 hb2 => ?_)))
  repeat (first | refine vops_q tyOk rfl ?_ | refine vops_nil ?_ | refine vw_seq ?_ | refine vw_region (by kernel_rfl) ?_ | refine vw_ret ?_ | (apply vops_call ent103 rfl; (intro w' hg; exact c_l09Draw a cs cap w' (hB.same hg.fr) hcs hl); (rintro _ newN ⟨m, rs2, p2, c2, hm0, hm1, h142, hrl2, rfl, hN2⟩)) | ((show VOps _ _ _ _ (⟨none, Go.Op.store _ _ _, _, _, _, none⟩ :: _) _ _); refine vops_storeAM tyOk rfl rfl rfl (by first | rfl | (rw [ints_length]; first | assumption | omega | (rw [ints_length]; first | assumption | omega | simp [*])) | simp [*]) (by first | exact ints_one | simp [Value.oneCell']) (by repeat (first | exact upd_here | apply upd_next | apply upd_past)) (by first | rfl | (rw [ints_length]; first | assumption | omega | (rw [ints_length]; first | assumption | omega | simp [*])) | simp [*]) ?_))
  exact ⟨_, newN, rv_cell (cs := [.int .i64 m, .slice p2 rs2.length c2]) tyOk rfl rfl rfl rfl rfl (fun j v hj => by rw [Nat.zero_add]; exact sees_mem (by repeat (first | exact mem_here | apply mem_next | apply mem_past)) hj), SlAt.nodup hN2, (by repeat (first | exact sub_hereL | exact sub_refl | apply sub_cons | apply sub_app)), m, rs2, p2, c2, hm0, hm1, h142, hrl2, rfl, hN2⟩
set_option maxHeartbeats 2000000 in
set_option maxRecDepth 100000 in
theorem c_DrawFirstDigitOrder (a : Option Addr) (cs : List Nat) (cap : Nat) (w : World) (hB : RdB w a cs) (hcs : ∀ c ∈ cs, c < 256) (hl : cs.length ≤ 1048576) :
    Calls Try.prog 66 [.slice a cs.length cap].toArray w (Res w (fun v new => new = [] ∧ ∃ x : Int, v = .int .i64 x ∧ In64 x)) := by
  have hC : ∀ {b : Nat}, SrcCtx ⟨w, []⟩ b a cs := SrcCtx.fresh hB hcs hl
  refine calls_of_vw Try.func66 rfl Try.ntmps66 (by simp) ?_
  repeat (first | refine vops_q tyOk rfl ?_ | refine vops_nil ?_ | refine vw_seq ?_ | refine vw_region (by kernel_rfl) ?_)
  apply vops_call ent120 rfl
  · intro w' hg; exact c_l01From a cs cap w' (hB.same hg.fr) hcs hl
  rintro _ newN ⟨b, h', rfl, hh1, hh2, rfl⟩
  obtain ⟨i', hi', hi1, hi2⟩ : ∃ i' : Int, i' = 0 ∧ 0 ≤ i' ∧ i' ≤ cs.length := ⟨0, rfl, by omega, by omega⟩
  rw [show Src b a cs.length cap 0 h' = Src b a cs.length cap i' h' by rw [hi']]
  clear hi'
  repeat (first | refine vops_q tyOk rfl ?_ | refine vops_nil ?_ | refine vw_ret ?_ | refine vops_litI [2, 4, 8, 8, 1, 16] tyOk rfl rfl (List.cons_ne_nil _ _) (by rfl) rfl (by omega) (by omega) (fun bt hbt => ?_) | (apply vops_callM (own0 := Src b a cs.length cap i' h') ent121 rfl; (case hp => (repeat (first | exact pm_here | exact pm_last | apply pm_next | apply pm_past))); (case h => (intro w' hg; exact c_pick (l := [2, 4, 8, 8, 1, 16]) hC hg hi1 hi2 hh1 hh2 (by repeat (first | exact mem_here | apply mem_next | apply mem_past)) rfl (by simp) (by simp))); (rintro _ newM ⟨x, hx, rfl, i', h', hi1, hi2, hh1, hh2, rfl⟩)))
  have hx' : 0 ≤ x ∧ x ≤ 16 := by simp at hx; omega
  exact ⟨_, [], rv_tmp rfl rfl, List.nodup_nil, (fun _ h => (by cases h)), rfl, _, rfl, (by unfold In64; omega)⟩
end Go.Proofs.Ytlfflmoegfibgaa

/- A part of the proof: DC2. No conditions of its own. -/
namespace Go.Proofs.Ytlfflmoegfibgaa
open Go.VL
attribute [local irreducible] VWr VOps VD Calls
attribute [local irreducible] Src

/-- A number and a list that have been drawn. -/
def NumLi (v : Value) (new : Own) : Prop := ∃ (x : Int) (l : List Int) (p : Option Addr) (c : Nat), In64 x ∧ l.length ≤ 20 ∧ v = .tuple #[.int .i64 x, .slice p l.length c] ∧ NewI 2 l (.slice p l.length c) new
theorem numLi_out {Γ : Ctx} {f : Nat → Value} {own : Own} {N : Nat} {fn : Func} {x : Int} {l : List Int} {b c m : Nat} (hres : fn.results = #[.tmp 2, .tmp 3]) (h2 : f 2 = .int .i64 x) (h3 : f 3 = .slice (some ⟨b, 0, none⟩) m c) (hm : (b, (⟨ints l, 2, c * 1, none⟩ : Blk)) ∈ own) (hl : l.length = m) (hmc : m ≤ c) (hcm : c ≤ maxLen) (hm20 : m ≤ 20) (hx : In64 x) :
    Out Try.prog Γ N fn NumLi .ret f own := by
  refine out2 (new := [(b, ⟨ints l, 2, c * 1, none⟩)]) hres h2 h3 (by simp [ids]) (fun q hq => by rw [List.mem_singleton.1 hq]; exact hm) ⟨x, l, some ⟨b, 0, none⟩, c, hx, by omega, by rw [hl], ?_⟩
  rw [hl]
  exact NewI.lit hl hmc hcm
set_option maxHeartbeats 4000000 in
set_option maxRecDepth 100000 in
theorem c_DrawDigitRobin (a : Option Addr) (cs : List Nat) (cap : Nat) (w : World) (hB : RdB w a cs) (hcs : ∀ c ∈ cs, c < 256) (hl : cs.length ≤ 1048576) :
    Calls Try.prog 61 [.slice a cs.length cap].toArray w (Res w NumLi) := by
  have hC : ∀ {b : Nat}, SrcCtx ⟨w, []⟩ b a cs := SrcCtx.fresh hB hcs hl
  refine calls_of_vw Try.func61 rfl Try.ntmps61 (by simp) ?_
  repeat (first | refine vops_q tyOk rfl ?_ | refine vops_nil ?_ | refine vw_seq ?_ | refine vw_region (by kernel_rfl) ?_)
  apply vops_call ent120 rfl
  · intro w' hg; exact c_l01From a cs cap w' (hB.same hg.fr) hcs hl
  rintro _ newN ⟨b, h', rfl, hh1, hh2, rfl⟩
  obtain ⟨i', hi', hi1, hi2⟩ : ∃ i' : Int, i' = 0 ∧ 0 ≤ i' ∧ i' ≤ cs.length := ⟨0, rfl, by omega, by omega⟩
  rw [show Src b a cs.length cap 0 h' = Src b a cs.length cap i' h' by rw [hi']]
  clear hi'
  repeat (first | refine vops_q tyOk rfl ?_ | refine vops_nil ?_ | refine vw_seq ?_ | refine vw_region (by kernel_rfl) ?_ | refine vops_litI [2, 4, 8, 8] tyOk rfl rfl (List.cons_ne_nil _ _) (by rfl) rfl (by omega) (by omega) (fun bt hbt => ?_) | (apply vops_callM (own0 := Src b a cs.length cap i' h') ent121 rfl; (case hp => (repeat (first | exact pm_here | exact pm_last | apply pm_next | apply pm_past))); (case h => (intro w' hg; exact c_pick (l := [2, 4, 8, 8]) hC hg hi1 hi2 hh1 hh2 (by repeat (first | exact mem_here | apply mem_next | apply mem_past)) rfl (by simp) (by simp))); (rintro _ newM ⟨x, hx, rfl, i', h', hi1, hi2, hh1, hh2, rfl⟩)))
  obtain ⟨k, hxk, hk1, hk14⟩ : ∃ k : Nat, x - 1 = (k : Int) ∧ 1 ≤ k ∧ k ≤ 13 := by
    have hx' : 2 ≤ x ∧ x ≤ 14 := by simp at hx; omega
    exact ⟨(x - 1).toNat, by omega, by omega, by omega⟩
  repeat (first | refine vops_p tyOk rfl (by (try simp only [inR]); omega) ?_)
  rw [hxk]
  repeat (first | refine vops_q tyOk rfl ?_ | refine vops_nil ?_ | refine vw_seq ?_ | refine vw_region (by kernel_rfl) ?_ | refine vw_block ?_ | (apply vops_callM ent122 rfl; (case h => (intro w' hg; exact c_order (cap := cap) (n := k) hC hg hi1 hi2 hh1 hh2 (by omega))); (case hp => (repeat (first | exact pm_here | exact pm_last | apply pm_next | apply pm_past))); (rintro _ newM ⟨l, pl, cl, newl, i', h', rfl, hO, hNl, hi1, hi2, hh1, hh2, rfl⟩; rw [List.append_assoc])))
  have hll := hO.len
  obtain ⟨bl, rfl, rfl, hlc, hlm, _⟩ := NewF.blk (n := k) (by have := NewI.f (l := l) (v := .slice pl l.length cl) (new := newl) (e := 2) (by rw [hll]; exact hNl); rwa [hll] at this) (by omega)
  have hlr : ∀ x ∈ l, 0 ≤ x ∧ x ≤ 100 := fun x hx => by have := ord_in hO x hx; omega
  refine vw_loopW (fun y f own => ∃ (z : Nat) (l : List Int), z ≤ k ∧ y = k - z ∧ l.length = k ∧ (∀ x ∈ l, 0 ≤ x ∧ x ≤ 100 + z) ∧ f 7 = .int .i64 z ∧ f 6 = .slice (some ⟨bl, 0, none⟩) k cl ∧ f 4 = .pointer (some ⟨b, 0, none⟩) ∧ f 5 = .int .i64 x ∧
      own = Src b a cs.length cap i' h' ++ [(bl, ⟨ints l, 2, cl * 1, none⟩)]) k
    ⟨_, (by repeat (first | exact ole_nil | exact ole_refl | (apply ole_cons; (repeat (first | exact pm1_here | apply pm1_next | apply pm1_past))) | (apply ole_app; (repeat (first | exact pm_here | exact pm_last | apply pm_next | apply pm_past))))), 0, l, by omega, by omega, hll, fun x hx => by have := hlr x hx; omega, rfl, rfl, rfl, rfl, rfl⟩ ?_
  have hxi : 2 ≤ x ∧ x ≤ 14 := by omega
  clear hO hNl hll hlr hxk hx
  rintro y f own ⟨z, l, hz, rfl, hll, hlr, h7, h6, h4, h5, rfl⟩
  rw [upd_of h7, upd_of h6, upd_of h4, upd_of h5]
  repeat (first | refine vops_q tyOk rfl ?_ | refine vops_nil ?_ | refine vw_seq ?_ | refine vw_region (by kernel_rfl) ?_ | refine vw_cond rfl ?_)
  refine bs_dec (fun hlt => ?_) (fun hlt => ?_)
  · have hzl := hlr _ (mem_getD (l := l) (i := z) (by omega))
    have hcell : (ints l)[0 + (z : Int).toNat]? = some (.int .i64 (l.getD z 0)) := by rw [show 0 + (z : Int).toNat = z by omega]; exact ints_get (by omega)
    have hidx : 0 + (z : Int).toNat = 0 + z := by omega
    repeat (first | refine vops_q tyOk rfl ?_ | refine vops_nil ?_ | refine vw_seq ?_ | refine vw_region (by kernel_rfl) ?_ | refine vops_p tyOk rfl (by (try simp only [inR]); omega) ?_ | refine vw_skip ?_ | refine vw_block ?_ | refine vops_loadM tyOk rfl rfl rfl (by repeat (first | exact mem_here | apply mem_next | apply mem_past)) (by exact hcell) ?_ | refine vops_storeIM (o := z) tyOk rfl rfl (by exact congrArg (fun x => Value.pointer (some ⟨bl, x, none⟩)) hidx) rfl (by repeat (first | exact upd_here | apply upd_next | apply upd_past)) (by omega) ?_)
    refine ⟨k - (z + 1), by omega, _, ole_refl, z + 1, l.set z (l.getD z 0 + 1), by omega, rfl, by rw [List.length_set]; exact hll, fun x hx => ?_, rfl, rfl, rfl, rfl, rfl⟩
    rcases List.mem_or_eq_of_mem_set hx with h | h
    · have := hlr x h; omega
    · omega
  · clear hlr
    obtain ⟨n0, hn0⟩ : ∃ n0, n0 = x := ⟨_, rfl⟩
    rw [← hn0] at hxi ⊢
    clear hn0
    repeat (first | refine vops_q tyOk rfl ?_ | refine vops_nil ?_ | refine vw_seq ?_ | refine vw_region (by kernel_rfl) ?_ | refine vw_cond rfl ?_ | refine vw_block ?_ | refine vw_exit ?_ | (apply vops_callM ent123 rfl; (case h => (intro w' hg; exact c_next (hC.at (cap := cap) hg hi1 hi2 hh1 hh2) (by omega))); (case hp => (repeat (first | exact pm_here | exact pm_last | apply pm_next | apply pm_past))); (rintro _ newM ⟨x, rfl, hx0, hx1, i', h', hi1, hi2, hh1, hh2, rfl⟩)))
    refine bs_dec (fun hx => ?_) (fun hx => ?_)
    · repeat (first | refine vops_q tyOk rfl ?_ | refine vops_nil ?_ | refine vw_seq ?_ | refine vw_region (by kernel_rfl) ?_ | refine vw_ret ?_ | refine vops_litI [3, 16, 0] tyOk rfl rfl (List.cons_ne_nil _ _) (by rfl) rfl (by omega) (by omega) (fun bt hbt => ?_) | (apply vops_callM (own0 := Src b a cs.length cap i' h') ent121 rfl; (case hp => (repeat (first | exact pm_here | exact pm_last | apply pm_next | apply pm_past))); (case h => (intro w' hg; exact c_pick (l := [3, 16, 0]) hC hg hi1 hi2 hh1 hh2 (by repeat (first | exact mem_here | apply mem_next | apply mem_past)) rfl (by simp) (by simp))); (rintro _ newM ⟨x, hx, rfl, i', h', hi1, hi2, hh1, hh2, rfl⟩)))
      have hx' : 0 ≤ x ∧ x ≤ 16 := by simp at hx; omega
      exact numLi_out rfl rfl rfl (by repeat (first | exact mem_here | apply mem_next | apply mem_past)) hll hlc hlm (by omega) (by unfold In64; omega)
    repeat (first | refine vops_q tyOk rfl ?_ | refine vops_nil ?_ | refine vw_seq ?_ | refine vw_region (by kernel_rfl) ?_ | refine vw_cond rfl ?_)
    refine bs_dec (fun hx1 => ?_) (fun hx1 => ?_)
    · repeat (first | refine vops_q tyOk rfl ?_ | refine vops_nil ?_ | refine vw_seq ?_ | refine vw_region (by kernel_rfl) ?_ | refine vops_p tyOk rfl (by (try simp only [inR]); omega) ?_ | refine vw_ret ?_ | refine vops_litI [0, n0, 1] tyOk rfl rfl (List.cons_ne_nil _ _) (by rfl) rfl (by omega) (by omega) (fun bt hbt => ?_) | (apply vops_callM (own0 := Src b a cs.length cap i' h') ent121 rfl; (case hp => (repeat (first | exact pm_here | exact pm_last | apply pm_next | apply pm_past))); (case h => (intro w' hg; exact c_pick (l := [0, n0, 1]) hC hg hi1 hi2 hh1 hh2 (by repeat (first | exact mem_here | apply mem_next | apply mem_past)) rfl (by simp) (by simp))); (rintro _ newM ⟨x, hx, rfl, i', h', hi1, hi2, hh1, hh2, rfl⟩)) | refine vops_storeIM (o := 0) tyOk rfl rfl rfl rfl (by repeat (first | exact upd_here | apply upd_next | apply upd_past)) (by omega) ?_)
      exact numLi_out rfl rfl rfl (by repeat (first | exact mem_here | apply mem_next | apply mem_past)) (by rw [List.length_set]; exact hll) hlc hlm (by omega) (by unfold In64; omega)
    · repeat (first | refine vops_q tyOk rfl ?_ | refine vops_nil ?_ | refine vw_seq ?_ | refine vw_region (by kernel_rfl) ?_ | refine vw_skip ?_ | refine vw_ret ?_)
      exact numLi_out rfl rfl rfl (by repeat (first | exact mem_here | apply mem_next | apply mem_past)) hll hlc hlm (by omega) (by unfold In64; omega)
end Go.Proofs.Ytlfflmoegfibgaa

