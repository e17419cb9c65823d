import Derived.Test.YtlfflmoegfibgaaSX
import Derived.Test.YtlfflmoegfibgaaVLA
import Derived.Test.YtlfflmoegfibgaaUL
/- Parts of the proof, one after another. No conditions of their own. -/
/- A part of the proof: P12. No conditions of its own. -/
namespace Go.Proofs.Ytlfflmoegfibgaa
open Go.VL
attribute [local irreducible] VWr VOps VD Calls

/-- The rounds in another order. -/
def reord (rs : List (List Int)) (q : List Int) : List (List Int) := q.map fun x => rs.getD x.toNat []
theorem reord_length (rs : List (List Int)) (q : List Int) : (reord rs q).length = q.length := by simp [reord]
theorem reord_get {rs : List (List Int)} {q : List Int} {i : Nat} {r : List Int} (hi : i < q.length) (hr : rs[(q.getD i 0).toNat]? = some r) : (reord rs q)[i]? = some r := by
  have : q[i]? = some (q.getD i 0) := by rw [List.getD_eq_getElem?_getD, List.getElem?_eq_getElem hi]; rfl
  unfold reord
  rw [List.getElem?_map, this]
  show some (rs.getD (q.getD i 0).toNat []) = some r
  rw [List.getD_eq_getElem?_getD, hr]; rfl
open Classical in
noncomputable def reorder (n : Int) (rs : List (List Int)) (q : List Int) : (Int × List (List Int)) × Int :=
  if IsSch n rs then (if IsPerm rs.length q then ((n, reord rs q), 0) else ((0, []), 2)) else ((0, []), 1)
theorem reord14 {rs : List (List Int)} {q : List Int} (hr : ∀ r ∈ rs, r.length = 14) (hq : ∀ x ∈ q, 0 ≤ x ∧ x < rs.length) : ∀ r ∈ reord rs q, r.length = 14 := by
  intro r h
  obtain ⟨x, hx, rfl⟩ := List.mem_map.1 h
  have := hq x hx
  have hlt : x.toNat < rs.length := by omega
  rw [List.getD_eq_getElem?_getD, List.getElem?_eq_getElem hlt]
  exact hr _ (List.getElem_mem _)
open Classical in
set_option maxHeartbeats 1000000 in
set_option maxRecDepth 100000 in
theorem c_impl_ReorderRounds (n : Int) (v u : Value) (rs : List (List Int)) (q : List Int) (w : World) (hv : RdS w v rs) (hu : RdI w u q) (hr : ∀ r ∈ rs, r.length = 14) (hl : rs.length ≤ 1048576) (hl2 : q.length ≤ 1048576) :
    Calls Try.prog 53 [.agg #[.int .i64 n, v], u].toArray w (Res w (PairS 50 (reorder n rs q))) := by
  obtain ⟨a, cap, rfl⟩ := hv.len
  obtain ⟨a2, cap2, rfl⟩ := hu.len
  refine calls_of_vw Try.func53 rfl Try.ntmps53 (by simp) ?_
  refine vw_seq (vw_region (by kernel_rfl) (vops_box [.int .i64 n, .slice a rs.length cap] rfl (fun b0 hb0 => ?_)))
  repeat (first | refine vops_q tyOk rfl ?_ | refine vops_nil ?_ | refine vw_seq ?_ | refine vw_region (by kernel_rfl) ?_ | refine vw_cond rfl ?_ | refine vops_allocZ [.int .i64 0, .slice none 0 0] tyOk rfl rfl (by simp) (fun bz hbz => ?_) | (apply vops_callp ent75 rfl; (intro w' hg; exact c_IsSchedule n _ rs w' (hv.same hg.fr) hr hl)) | ((show VOps _ _ _ _ (⟨some _, Go.Op.load _ _, _, _, _, none⟩ :: _) _ _); refine vops_loadNM tyOk rfl rfl rfl (by repeat (first | exact mem_here | apply mem_next | apply mem_past)) (by first | rfl | (rw [ints_length]; first | assumption | omega | (rw [ints_length]; first | assumption | omega | simp [*])) | simp [*]) ?_))
  refine bs_ndec2 (fun h => ?_) (fun h => ?_)
  · repeat (first | refine vops_q tyOk rfl ?_ | refine vops_nil ?_ | refine vw_seq ?_ | refine vw_region (by kernel_rfl) ?_ | refine vw_ret ?_ | ((show VOps _ _ _ _ (⟨none, Go.Op.store _ _ _, _, _, _, none⟩ :: _) _ _); refine vops_storeAM tyOk rfl rfl rfl (by first | rfl | (rw [ints_length]; first | assumption | omega | (rw [ints_length]; first | assumption | omega | simp [*])) | simp [*]) (by first | exact ints_one | simp [Value.oneCell']) (by repeat (first | exact upd_here | apply upd_next | apply upd_past)) (by first | rfl | (rw [ints_length]; first | assumption | omega | (rw [ints_length]; first | assumption | omega | simp [*])) | simp [*]) ?_) | refine vops_buildZ tyOk rfl (by kernel_rfl) ?_)
    exact pairS_err tyOk rfl rfl rfl rfl rfl (by repeat (first | exact mem_here | apply mem_next | apply mem_past)) rfl (by rw [reorder, if_neg h])
  repeat (first | refine vops_q tyOk rfl ?_ | refine vops_nil ?_ | refine vw_seq ?_ | refine vw_region (by kernel_rfl) ?_ | refine vw_cond rfl ?_ | refine vw_skip ?_ | (apply vops_callp ent116 rfl; (intro w' hg; exact c_isPermutation _ q _ w' (hu.same hg.fr) hl2 (by omega) (by omega))) | ((show VOps _ _ _ _ (⟨some _, Go.Op.load _ _, _, _, _, none⟩ :: _) _ _); refine vops_loadM tyOk rfl rfl rfl (by repeat (first | exact mem_here | apply mem_next | apply mem_past)) (by rfl) ?_))
  refine bs_ndec2 (fun h2 => ?_) (fun h2 => ?_)
  · repeat (first | refine vops_q tyOk rfl ?_ | refine vops_nil ?_ | refine vw_seq ?_ | refine vw_region (by kernel_rfl) ?_ | refine vw_ret ?_ | ((show VOps _ _ _ _ (⟨none, Go.Op.store _ _ _, _, _, _, none⟩ :: _) _ _); refine vops_storeAM tyOk rfl rfl rfl (by first | rfl | (rw [ints_length]; first | assumption | omega | (rw [ints_length]; first | assumption | omega | simp [*])) | simp [*]) (by first | exact ints_one | simp [Value.oneCell']) (by repeat (first | exact upd_here | apply upd_next | apply upd_past)) (by first | rfl | (rw [ints_length]; first | assumption | omega | (rw [ints_length]; first | assumption | omega | simp [*])) | simp [*]) ?_) | refine vops_buildZ tyOk rfl (by kernel_rfl) ?_)
    exact pairS_err tyOk rfl rfl rfl rfl rfl (by repeat (first | exact mem_here | apply mem_next | apply mem_past)) rfl (by rw [reorder, if_pos h, if_neg h2])
  have hq14 := reord14 hr h2.2.1
  have hrl := reord_length rs q
  repeat (first | refine vops_q tyOk rfl ?_ | refine vw_seq ?_ | refine vw_region (by kernel_rfl) ?_ | refine vw_skip ?_)
  refine vops_makeRows (k := 14) (n := q.length) tyOk rfl rfl rfl (by omega) rfl rfl rfl (by show 112 * _ ≤ _; omega) (by omega) (fun b hb => ?_)
  repeat (first | refine vops_q tyOk rfl ?_ | refine vops_nil ?_ | refine vw_seq ?_ | refine vw_region (by kernel_rfl) ?_ | refine vw_block ?_)
  refine vw_loopW (fun m f own => ∃ i : Nat, i ≤ q.length ∧ m = q.length - i ∧ f 25 = .int .i64 i ∧ f 24 = .int .i64 q.length ∧ f 23 = .slice a2 q.length cap2 ∧ f 2 = .pointer (some ⟨b0, 0, none⟩) ∧ f 4 = .pointer (some ⟨bz, 0, none⟩) ∧ f 6 = .slice (some ⟨b, 0, none⟩) q.length q.length ∧
      own = [(b, ⟨ints (fill 14 (reord rs q) i), 50, q.length * 14, none⟩), (bz, ⟨[.int .i64 0, .slice none 0 0], 32, 2, none⟩), (b0, ⟨[.int .i64 n, .slice a rs.length cap], 32, 2, none⟩)]) q.length
    ⟨_, ole_refl, 0, by omega, by omega, rfl, rfl, rfl, rfl, rfl, rfl, by rw [fill_none, hrl]; rfl⟩ ?_
  rintro m f own ⟨i, hi, rfl, h25, h24, h23, h2', h4, h6, rfl⟩
  rw [upd_of h25, upd_of h24, upd_of h23, upd_of h2', upd_of h4, upd_of h6]
  repeat (first | refine vops_q tyOk rfl ?_ | refine vops_nil ?_ | refine vw_seq ?_ | refine vw_region (by kernel_rfl) ?_ | refine vw_cond rfl ?_)
  refine bs_dec (fun h5 => ?_) (fun h5 => ?_)
  · have hil : i < q.length := by omega
    obtain ⟨b', o, cap', he, hcell⟩ := hu.at (i := i) hil
    cases he
    have hc := hcell i hil
    have hx := h2.2.1 _ (mem_getD hil)
    obtain ⟨r, hri⟩ : ∃ r, rs[(q.getD i 0).toNat]? = some r := ⟨_, List.getElem?_eq_getElem (by omega)⟩
    have hrl2 := hr r (List.mem_of_getElem? hri)
    obtain ⟨b3, o3, cap3, he, hrow⟩ := hv.row hr hri
    cases he
    repeat (first | refine vops_q tyOk rfl ?_ | refine vops_nil ?_ | refine vw_seq ?_ | refine vw_region (by kernel_rfl) ?_ | refine vops_p tyOk rfl (by (try simp only [inR]); omega) ?_ | refine vw_skip ?_ | refine vw_block ?_ | refine vops_load tyOk rfl rfl rfl (sees_old hc (by simp)) ?_ | refine vops_loadN tyOk (ints r) rfl rfl rfl (by rw [ints_length, hrl2]) (fun j x hx => sees_old (hrow j x hx) (by simp)) ?_ | refine vops_storeRowM tyOk rfl hrl2 rfl rfl (by repeat (first | exact upd_here | apply upd_next | apply upd_past)) (by rw [fill_length hq14 (by omega), hrl]) (by rw [hrl2]; show (i : Int).toNat * 14 + 14 ≤ _; omega) ?_ | ((show VOps _ _ _ _ (⟨some _, Go.Op.load _ _, _, _, _, none⟩ :: _) _ _); refine vops_loadM tyOk rfl rfl rfl (by repeat (first | exact mem_here | apply mem_next | apply mem_past)) (by rfl) ?_))
    refine ⟨q.length - (i + 1), by omega, _, ole_refl, i + 1, by omega, rfl, rfl, rfl, rfl, rfl, rfl, rfl, ?_⟩
    rw [← fill_step hq14 (reord_get hil hri)]; rfl
  · obtain rfl : i = q.length := by omega
    repeat (first | refine vops_q tyOk rfl ?_ | refine vops_nil ?_ | refine vw_seq ?_ | refine vw_region (by kernel_rfl) ?_ | refine vw_ret ?_ | refine vw_exit ?_ | ((show VOps _ _ _ _ (⟨some _, Go.Op.load _ _, _, _, _, none⟩ :: _) _ _); refine vops_loadM tyOk rfl rfl rfl (by repeat (first | exact mem_here | apply mem_next | apply mem_past)) (by rfl) ?_) | ((show VOps _ _ _ _ (⟨none, Go.Op.store _ _ _, _, _, _, none⟩ :: _) _ _); refine vops_storeAM tyOk rfl rfl rfl (by first | rfl | (rw [ints_length]; first | assumption | omega | (rw [ints_length]; first | assumption | omega | simp [*])) | simp [*]) (by first | exact ints_one | simp [Value.oneCell']) (by repeat (first | exact upd_here | apply upd_next | apply upd_past)) (by first | rfl | (rw [ints_length]; first | assumption | omega | (rw [ints_length]; first | assumption | omega | simp [*])) | simp [*]) ?_) | refine vops_build2 rfl rfl (by kernel_rfl) ?_)
    have hN : NewR 50 14 (reord rs q) (.slice (some ⟨b, 0, none⟩) q.length q.length) [(b, ⟨ints (fill 14 (reord rs q) q.length), 50, q.length * 14, none⟩)] := by
      rw [show fill 14 (reord rs q) q.length = (reord rs q).flatten by rw [← hrl, fill_all]]
      exact NewF.r (m := 0) (NewF.mk (by rw [flat_length hq14, hrl]) (Nat.le_refl _) (by simp only [maxLen]; omega)) hrl.symm rfl
    exact pairS_ok (c := 0) tyOk rfl rfl rfl rfl rfl (by repeat (first | exact mem_here | apply mem_next | apply mem_past)) rfl hrl.symm hN (by intro p hp; simp only [List.mem_singleton] at hp; subst hp; simp) (by rw [reorder, if_pos h, if_pos h2])

open Classical in
set_option maxHeartbeats 1000000 in
set_option maxRecDepth 100000 in
theorem c_l01Reordered (n : Int) (v u : Value) (rs : List (List Int)) (q : List Int) (w : World) (hv : RdS w v rs) (hu : RdI w u q) (hr : ∀ r ∈ rs, r.length = 14) (_hl : rs.length ≤ 1048576) (hl2 : q.length ≤ 1048576) (hq : ∀ x ∈ q, 0 ≤ x ∧ x < rs.length) :
    Calls Try.prog 114 [.agg #[.int .i64 n, v], u].toArray w (Res w (SchR n (reord rs q))) := by
  obtain ⟨a, cap, rfl⟩ := hv.len
  obtain ⟨a2, cap2, rfl⟩ := hu.len
  refine calls_of_vw Try.func114 rfl Try.ntmps114 (by simp) ?_
  refine vw_seq (vw_region (by kernel_rfl) (vops_box [.int .i64 n, .slice a rs.length cap] rfl (fun b0 hb0 => ?_)))
  refine vops_allocZ [.int .i64 0, .slice none 0 0] tyOk rfl rfl (by simp) (fun bz hbz => ?_)
  repeat (first | refine vops_q tyOk rfl ?_ | refine vops_nil ?_ | refine vw_seq ?_ | refine vw_region (by kernel_rfl) ?_ | refine vops_build0 tyOk rfl rfl (fun be hbe => ?_) | ((show VOps _ _ _ _ (⟨some _, Go.Op.load _ _, _, _, _, none⟩ :: _) _ _); refine vops_loadM tyOk rfl rfl rfl (by repeat (first | exact mem_here | apply mem_next | apply mem_past)) (by rfl) ?_) | refine vops_build2 rfl rfl (by kernel_rfl) ?_)
  refine vops_allocZ [.int .i64 0, .slice none 0 0] tyOk rfl rfl (by simp) (fun bo hbo => ?_)
  repeat (first | refine vops_q tyOk rfl ?_ | refine vops_nil ?_ | refine vw_seq ?_ | refine vw_region (by kernel_rfl) ?_ | refine vw_block ?_ | ((show VOps _ _ _ _ (⟨none, Go.Op.store _ _ _, _, _, _, none⟩ :: _) _ _); refine vops_storeAM tyOk rfl rfl rfl (by first | rfl | (rw [ints_length]; first | assumption | omega | (rw [ints_length]; first | assumption | omega | simp [*])) | simp [*]) (by first | exact ints_one | simp [Value.oneCell']) (by repeat (first | exact upd_here | apply upd_next | apply upd_past)) (by first | rfl | (rw [ints_length]; first | assumption | omega | (rw [ints_length]; first | assumption | omega | simp [*])) | simp [*]) ?_))
  have hrl := reord_length rs q
  refine vw_loopW (fun m f own => ∃ (i : Nat) (p : Option Addr) (cp : Nat) (new : Own), i ≤ q.length ∧ m = q.length - i ∧ f 6 = .int .i64 i ∧ f 1 = .slice a2 q.length cap2 ∧ f 2 = .pointer (some ⟨b0, 0, none⟩) ∧ f 4 = .pointer (some ⟨bz, 0, none⟩) ∧ f 5 = .pointer (some ⟨bo, 0, none⟩) ∧
      NewF 50 14 i ((reord rs q).take i).flatten (.slice p i cp) new ∧
      own = new ++ [(bo, ⟨[.int .i64 n, .slice p i cp], 32, 2, none⟩), (bz, ⟨[.int .i64 0, .slice none 0 0], 32, 2, none⟩), (b0, ⟨[.int .i64 n, .slice a rs.length cap], 32, 2, none⟩)]) q.length
    ⟨[(be, _)] ++ [(bo, _), (bz, _), (b0, _)], (by repeat (first | exact ole_nil | exact ole_refl | (apply ole_cons; (repeat (first | exact pm1_here | apply pm1_next | apply pm1_past))) | (apply ole_app; (repeat (first | exact pm_here | exact pm_last | apply pm_next | apply pm_past))))), 0, _, _, [_], by omega, by omega, rfl, rfl, rfl, rfl, rfl, NewF.empty, rfl⟩ ?_
  rintro m f own ⟨i, p, cp, new, hi, rfl, h6, h1, h2, h4, h5, hN, rfl⟩
  rw [upd_of h6, upd_of h1, upd_of h2, upd_of h4, upd_of h5]
  repeat (first | refine vops_q tyOk rfl ?_ | refine vops_nil ?_ | refine vw_seq ?_ | refine vw_region (by kernel_rfl) ?_ | refine vw_cond rfl ?_)
  refine bs_dec (fun h7 => ?_) (fun h7 => ?_)
  · have hil : i < q.length := by omega
    obtain ⟨b', o, cap', he, hcell⟩ := hu.at (i := i) hil
    cases he
    have hc := hcell i hil
    have hx := hq _ (mem_getD hil)
    obtain ⟨r, hri⟩ : ∃ r, rs[(q.getD i 0).toNat]? = some r := ⟨_, List.getElem?_eq_getElem (by omega)⟩
    have hrl2 := hr r (List.mem_of_getElem? hri)
    obtain ⟨b3, o3, cap3, he, hrow⟩ := hv.row hr hri
    cases he
    repeat (first | refine vw_seq ?_ | refine vw_skip ?_ | refine vw_block ?_)
    refine vw_drawB [(bo, _), (bz, _), (b0, _)] [0, 1, 2, 3, 4, 5, 6, 7, 8, 9, 10, 11, 12, 13] (by kernel_rfl) (by kernel_rfl) (by kernel_rfl) rfl (by exact ole_sfx) ?_
    repeat' (first | refine vd_q tyOk rfl (by first | trivial | rfl) rfl (by kernel_rfl) (by kernel_rfl) ?_ | refine vd_p tyOk rfl (by first | trivial | rfl) rfl (by kernel_rfl) (by kernel_rfl) (by (try simp only [inR]); omega) ?_ | refine vops_nil ?_ | refine ⟨fun _ _ _ h => List.mem_cons_of_mem _ h, ?_⟩ | refine vd_load tyOk rfl (by first | trivial | rfl) rfl rfl rfl (by kernel_rfl) (by kernel_rfl) (by kernel_rfl) (sees_mem (by repeat (first | exact mem_here | apply mem_next | apply mem_past)) (by rfl)) (by repeat (first | exact sub_hereL | exact sub_refl | apply sub_cons | apply sub_app)) ?_ | refine vd_load tyOk rfl (by first | trivial | rfl) rfl rfl rfl (by kernel_rfl) (by kernel_rfl) (by kernel_rfl) (sees_old hc (by simp)) (by repeat (first | exact sub_hereL | exact sub_refl | apply sub_cons | apply sub_app)) ?_ | refine vd_loadN tyOk (ints r) rfl (by first | trivial | rfl) rfl rfl rfl (by rw [ints_length, hrl2]) (by kernel_rfl) (by kernel_rfl) (by kernel_rfl) (fun j x hx => sees_old (hrow j x hx) (by simp)) (by repeat (first | exact sub_hereL | exact sub_refl | apply sub_cons | apply sub_app)) ?_ | refine vops_litR (k := 14) tyOk rfl rfl (List.cons_ne_nil _ _) rfl hrl2 rfl (by omega) (by omega) (fun be hbe => ?_) | refine vd_one rfl (by kernel_rfl) (by kernel_rfl) rfl ?_)
    refine vops_append1 (k := 14) tyOk rfl rfl (List.cons_ne_nil _ _) rfl rfl (by decide) rfl hN (by repeat (first | exact pm_here | exact pm_last | apply pm_next | apply pm_past)) rfl (by repeat (first | exact mem_here | apply mem_next | apply mem_past)) hrl2 (by omega) (fun p' cp' new' hN' => ?_)
    have hst : ((reord rs q).take (i + 1)).flatten = ((reord rs q).take i).flatten ++ r := by rw [List.take_add_one, reord_get hil hri]; simp
    repeat' (first | refine vd_q tyOk rfl (by first | trivial | rfl) rfl (by kernel_rfl) (by kernel_rfl) ?_ | refine vops_nil ?_ | refine vd_nil (by kernel_rfl) ?_ | refine ⟨fun h => Bool.noConfusion (show false = true from h), ?_⟩ | refine ⟨fun _ p hp _ => (show Go.VL.Sub _ _ from (by repeat (first | exact sub_hereL | exact sub_refl | apply sub_cons | apply sub_app))) p hp, ?_⟩ | ((show VOps _ _ _ _ (⟨none, Go.Op.store _ _ _, _, _, _, none⟩ :: _) _ _); refine vops_storeM tyOk rfl rfl rfl rfl rfl (by repeat (first | exact upd_here | apply upd_next | apply upd_past)) (by simp) ?_) | refine vd_one rfl (by kernel_rfl) (by kernel_rfl) rfl ?_)
    repeat (first | refine vops_q tyOk rfl ?_ | refine vops_nil ?_ | refine vw_region (by kernel_rfl) ?_ | refine vops_p tyOk rfl (by (try simp only [inR]); omega) ?_)
    exact ⟨q.length - (i + 1), by omega, new' ++ [(bo, _), (bz, _), (b0, _)], (by repeat (first | exact ole_nil | exact ole_refl | (apply ole_cons; (repeat (first | exact pm1_here | apply pm1_next | apply pm1_past))) | (apply ole_app; (repeat (first | exact pm_here | exact pm_last | apply pm_next | apply pm_past))))), i + 1, p', cp', new', by omega, rfl, rfl, rfl, rfl, rfl, rfl, hN'.cast hst.symm, rfl⟩
  · obtain rfl : i = q.length := by omega
    repeat (first | refine vops_nil ?_ | refine vw_seq ?_ | refine vw_region (by kernel_rfl) ?_ | refine vw_ret ?_ | refine vw_exit ?_ | ((show VOps _ _ _ _ (⟨some _, Go.Op.load _ _, _, _, _, none⟩ :: _) _ _); refine vops_loadNM tyOk rfl rfl rfl (by repeat (first | exact mem_here | apply mem_next | apply mem_past)) (by first | rfl | (rw [ints_length]; first | assumption | omega | (rw [ints_length]; first | assumption | omega | simp [*])) | simp [*]) ?_) | ((show VOps _ _ _ _ (⟨none, Go.Op.store _ _ _, _, _, _, none⟩ :: _) _ _); refine vops_storeAM tyOk rfl rfl rfl (by first | rfl | (rw [ints_length]; first | assumption | omega | (rw [ints_length]; first | assumption | omega | simp [*])) | simp [*]) (by first | exact ints_one | simp [Value.oneCell']) (by repeat (first | exact upd_here | apply upd_next | apply upd_past)) (by first | rfl | (rw [ints_length]; first | assumption | omega | (rw [ints_length]; first | assumption | omega | simp [*])) | simp [*]) ?_))
    have hfin : NewR 50 14 (reord rs q) (.slice p q.length cp) new := NewF.r (m := 0) hN hrl.symm (by rw [List.take_of_length_le (by omega)])
    exact schG_ok tyOk rfl rfl rfl rfl rfl (by repeat (first | exact mem_here | apply mem_next | apply mem_past)) hrl.symm hfin (by repeat (first | exact sub_hereL | exact sub_refl | apply sub_cons | apply sub_app)) rfl rfl

end Go.Proofs.Ytlfflmoegfibgaa

/- A part of the proof: P14. No conditions of its own. -/
namespace Go.Proofs.Ytlfflmoegfibgaa
open Go.VL
attribute [local irreducible] VWr VOps VD Calls

set_option maxHeartbeats 1000000 in
set_option maxRecDepth 100000 in
theorem c_l01Circle (n : Int) (h2 : 2 ≤ n) (h14 : n ≤ 14) (w : World) : Calls Try.prog 154 [Value.int .i64 n].toArray w (Res w (SchR n (circRows n))) := by
  have hrm : robinR n ≤ n ∧ n - 1 ≤ robinR n := by unfold robinR; omega
  have hrd : n - 1 + n % 2 = robinR n := rfl
  have hfz : ∀ j : Nat, j < 14 → n ≤ j → (freeTo n).getD j 0 = 0 := fun j hj hn => by rw [freeTo_get n j hj, if_neg (by omega)]
  refine calls_of_vw Try.func154 rfl Try.ntmps154 (by simp) ?_
  refine vw_seq (vw_region (by kernel_rfl) (vops_allocZ [.int .i64 0, .slice none 0 0] tyOk rfl rfl (by simp) (fun bz hbz => ?_)))
  repeat (first | refine vops_q tyOk rfl ?_ | refine vops_nil ?_ | refine vw_seq ?_ | refine vw_region (by kernel_rfl) ?_ | refine vops_p tyOk rfl (by (try simp only [inR]); omega) ?_ | refine vops_build0 tyOk rfl rfl (fun be hbe => ?_) | refine vops_build2 rfl rfl (by kernel_rfl) ?_)
  refine vops_allocZ [.int .i64 0, .slice none 0 0] tyOk rfl rfl (by simp) (fun bo hbo => ?_)
  repeat (first | refine vops_q tyOk rfl ?_ | refine vops_nil ?_ | refine vw_seq ?_ | refine vw_region (by kernel_rfl) ?_ | refine vw_block ?_ | ((show VOps _ _ _ _ (⟨none, Go.Op.store _ _ _, _, _, _, none⟩ :: _) _ _); refine vops_storeAM tyOk rfl rfl rfl (by first | rfl | (rw [ints_length]; first | assumption | omega | (rw [ints_length]; first | assumption | omega | simp [*])) | simp [*]) (by first | exact ints_one | simp [Value.oneCell']) (by repeat (first | exact upd_here | apply upd_next | apply upd_past)) (by first | rfl | (rw [ints_length]; first | assumption | omega | (rw [ints_length]; first | assumption | omega | simp [*])) | simp [*]) ?_))
  refine vw_loopW (fun m f own => ∃ (i : Nat) (p : Option Addr) (cp : Nat) (new : Own), (i : Int) ≤ robinR n ∧ m = (robinR n).toNat - i ∧ f 5 = .int .i64 i ∧ f 3 = .int .i64 (robinR n) ∧ f 0 = .int .i64 n ∧ f 2 = .pointer (some ⟨bz, 0, none⟩) ∧ f 4 = .pointer (some ⟨bo, 0, none⟩) ∧
      NewF 50 14 i ((circRows n).take i).flatten (.slice p i cp) new ∧
      own = new ++ [(bo, ⟨[.int .i64 n, .slice p i cp], 32, 2, none⟩), (bz, ⟨[.int .i64 0, .slice none 0 0], 32, 2, none⟩)]) (robinR n).toNat
    ⟨[(be, _)] ++ [(bo, _), (bz, _)], (by repeat (first | exact ole_nil | exact ole_refl | (apply ole_cons; (repeat (first | exact pm1_here | apply pm1_next | apply pm1_past))) | (apply ole_app; (repeat (first | exact pm_here | exact pm_last | apply pm_next | apply pm_past))))), 0, _, _, [_], by omega, by omega, rfl, rfl, rfl, rfl, rfl, NewF.empty, rfl⟩ ?_
  rintro m f own ⟨i, p, cp, new, hi, rfl, h5, h3, h0, h2', h4, hN, rfl⟩
  rw [upd_of h5, upd_of h3, upd_of h0, upd_of h2', upd_of h4]
  repeat (first | refine vops_q tyOk rfl ?_ | refine vops_nil ?_ | refine vw_seq ?_ | refine vw_region (by kernel_rfl) ?_ | refine vw_cond rfl ?_)
  refine bs_dec (fun h7 => ?_) (fun h7 => ?_)
  · repeat (first | refine vops_q tyOk rfl ?_ | refine vw_seq ?_ | refine vw_region (by kernel_rfl) ?_ | refine vw_skip ?_ | refine vw_block ?_ | (apply vops_callp ent94 rfl; (intro w' hg; exact c_l01Free n (by omega) h14 w')))
    refine vops_allocZ (ints (List.replicate 14 0)) tyOk rfl rfl (by simp [ints]) (fun br hbr => ?_)
    have hfl := freeTo_length n
    repeat (first | refine vops_q tyOk rfl ?_ | refine vops_nil ?_ | refine vw_seq ?_ | refine vw_region (by kernel_rfl) ?_ | refine vw_block ?_ | ((show VOps _ _ _ _ (⟨none, Go.Op.store _ _ _, _, _, _, none⟩ :: _) _ _); refine vops_storeAM tyOk rfl rfl rfl (by first | rfl | (rw [ints_length]; first | assumption | omega | (rw [ints_length]; first | assumption | omega | simp [*])) | simp [*]) (by first | exact ints_one | simp [Value.oneCell']) (by repeat (first | exact upd_here | apply upd_next | apply upd_past)) (by first | rfl | (rw [ints_length]; first | assumption | omega | (rw [ints_length]; first | assumption | omega | simp [*])) | simp [*]) ?_))
    refine vw_loopW (fun m f own => ∃ a : Int, 0 ≤ a ∧ a ≤ robinR n ∧ m = (robinR n - a).toNat ∧ f 7 = .int .i64 a ∧ f 5 = .int .i64 i ∧ f 3 = .int .i64 (robinR n) ∧ f 0 = .int .i64 n ∧ f 2 = .pointer (some ⟨bz, 0, none⟩) ∧ f 4 = .pointer (some ⟨bo, 0, none⟩) ∧ f 6 = .pointer (some ⟨br, 0, none⟩) ∧
        own = (br, ⟨ints (circTo (freeTo n) i (robinR n) a), 50, 14, none⟩) :: (new ++ [(bo, ⟨[.int .i64 n, .slice p i cp], 32, 2, none⟩), (bz, ⟨[.int .i64 0, .slice none 0 0], 32, 2, none⟩)])) (robinR n).toNat
      ⟨_, ole_refl, 0, by omega, by omega, by omega, rfl, rfl, rfl, rfl, rfl, rfl, rfl, by rw [circTo_zero hfl]; rfl⟩ ?_
    rintro m f own ⟨a, ha0, ha1, rfl, h7', h5, h3, h0, h2', h4, h6, rfl⟩
    rw [upd_of h7', upd_of h5, upd_of h3, upd_of h0, upd_of h2', upd_of h4, upd_of h6]
    have hl := circTo_length (freeTo n) i (robinR n) a
    repeat (first | refine vops_q tyOk rfl ?_ | refine vops_nil ?_ | refine vw_seq ?_ | refine vw_region (by kernel_rfl) ?_ | refine vw_cond rfl ?_)
    refine bs_dec (fun hlt => ?_) (fun hge => ?_)
    · repeat (first | refine vops_q tyOk rfl ?_ | refine vops_nil ?_ | refine vw_seq ?_ | refine vw_region (by kernel_rfl) ?_ | refine vops_p tyOk rfl (by (try simp only [inR]); omega) ?_ | refine vw_skip ?_ | refine vw_block ?_ | ((show VOps _ _ _ _ (⟨none, Go.Op.store _ _ _, _, _, _, none⟩ :: _) _ _); refine vops_storeIM tyOk rfl rfl rfl rfl (by repeat (first | exact upd_here | apply upd_next | apply upd_past)) (by omega) ?_))
      refine ⟨(robinR n - (a + 1)).toNat, by omega, _, ole_refl, a + 1, by omega, by omega, rfl, rfl, rfl, rfl, rfl, rfl, rfl, rfl, ?_⟩
      rw [← circTo_set ha0 (by omega)]
    · obtain rfl : a = robinR n := by omega
      have hst : ((circRows n).take (i + 1)).flatten = ((circRows n).take i).flatten ++ circRow n i := by rw [List.take_add_one, circRows_get (by omega)]; simp
      have hrow := circRow_length n i
      repeat (first | refine vops_q tyOk rfl ?_ | refine vops_nil ?_ | refine vw_seq ?_ | refine vw_region (by kernel_rfl) ?_ | refine vops_p tyOk rfl (by (try simp only [inR]); omega) ?_ | refine vw_cond rfl ?_ | refine vw_exit ?_)
      refine bs_dec (fun h8 => ?_) (fun h8 => ?_)
      · repeat (first | refine vops_q tyOk rfl ?_ | refine vops_nil ?_ | refine vw_seq ?_ | refine vw_region (by kernel_rfl) ?_ | refine vops_p tyOk rfl (by (try simp only [inR]); omega) ?_ | refine vops_storeIM tyOk rfl rfl rfl rfl (by repeat (first | exact upd_here | apply upd_next | apply upd_past)) (by (try simp only [List.length_set]); omega) ?_ | refine vops_loadM tyOk rfl rfl rfl (by repeat (first | exact mem_here | apply mem_next | apply mem_past)) (by rfl) ?_)
        rw [circ_even h8 h2 (by omega) (by omega) hfz]
        repeat (first | refine vops_q tyOk rfl ?_ | refine vops_nil ?_ | refine vw_region (by kernel_rfl) ?_ | refine vops_p tyOk rfl (by (try simp only [inR]); omega) ?_ | refine vops_litR (k := 14) tyOk rfl rfl (List.cons_ne_nil _ _) rfl hrow rfl (by omega) (by omega) (fun be hbe => ?_) | refine vops_append1 (k := 14) tyOk rfl rfl (List.cons_ne_nil _ _) rfl rfl (by decide) rfl hN (by repeat (first | exact pm_here | exact pm_last | apply pm_next | apply pm_past)) rfl (by repeat (first | exact mem_here | apply mem_next | apply mem_past)) (by first | assumption | omega) (by omega) (fun p' cap' new' hN' => ?_) | ((show VOps _ _ _ _ (⟨some _, Go.Op.load _ _, _, _, _, none⟩ :: _) _ _); refine vops_loadNM tyOk rfl rfl rfl (by repeat (first | exact mem_here | apply mem_next | apply mem_past)) (by first | rfl | (rw [ints_length]; first | assumption | omega | (rw [ints_length]; first | assumption | omega | simp [*])) | simp [*]) ?_) | ((show VOps _ _ _ _ (⟨none, Go.Op.store _ _ _, _, _, _, none⟩ :: _) _ _); refine vops_storeM tyOk rfl rfl rfl rfl rfl (by repeat (first | exact upd_here | apply upd_next | apply upd_past)) (by simp) ?_))
        exact ⟨(robinR n).toNat - (i + 1), by omega, new' ++ [(bo, _), (bz, _)], (by repeat (first | exact ole_nil | exact ole_refl | (apply ole_cons; (repeat (first | exact pm1_here | apply pm1_next | apply pm1_past))) | (apply ole_app; (repeat (first | exact pm_here | exact pm_last | apply pm_next | apply pm_past))))), i + 1, p', cap', new', by omega, rfl, rfl, rfl, rfl, rfl, rfl, hN'.cast hst.symm, rfl⟩
      · rw [circ_odd h8 hfz]
        repeat (first | refine vops_q tyOk rfl ?_ | refine vops_nil ?_ | refine vw_region (by kernel_rfl) ?_ | refine vops_p tyOk rfl (by (try simp only [inR]); omega) ?_ | refine vw_skip ?_ | refine vops_litR (k := 14) tyOk rfl rfl (List.cons_ne_nil _ _) rfl hrow rfl (by omega) (by omega) (fun be hbe => ?_) | refine vops_append1 (k := 14) tyOk rfl rfl (List.cons_ne_nil _ _) rfl rfl (by decide) rfl hN (by repeat (first | exact pm_here | exact pm_last | apply pm_next | apply pm_past)) rfl (by repeat (first | exact mem_here | apply mem_next | apply mem_past)) (by first | assumption | omega) (by omega) (fun p' cap' new' hN' => ?_) | ((show VOps _ _ _ _ (⟨some _, Go.Op.load _ _, _, _, _, none⟩ :: _) _ _); first | refine vops_loadM tyOk rfl rfl rfl (by repeat (first | exact mem_here | apply mem_next | apply mem_past)) (by rfl) ?_ | refine vops_loadNM tyOk rfl rfl rfl (by repeat (first | exact mem_here | apply mem_next | apply mem_past)) (by first | rfl | (rw [ints_length]; first | assumption | omega | (rw [ints_length]; first | assumption | omega | simp [*])) | simp [*]) ?_) | ((show VOps _ _ _ _ (⟨none, Go.Op.store _ _ _, _, _, _, none⟩ :: _) _ _); refine vops_storeM tyOk rfl rfl rfl rfl rfl (by repeat (first | exact upd_here | apply upd_next | apply upd_past)) (by simp) ?_))
        exact ⟨(robinR n).toNat - (i + 1), by omega, new' ++ [(bo, _), (bz, _)], (by repeat (first | exact ole_nil | exact ole_refl | (apply ole_cons; (repeat (first | exact pm1_here | apply pm1_next | apply pm1_past))) | (apply ole_app; (repeat (first | exact pm_here | exact pm_last | apply pm_next | apply pm_past))))), i + 1, p', cap', new', by omega, rfl, rfl, rfl, rfl, rfl, rfl, hN'.cast hst.symm, rfl⟩
  · have hik : i = (circRows n).length := by rw [circRows_length]; omega
    repeat (first | refine vops_nil ?_ | refine vw_seq ?_ | refine vw_region (by kernel_rfl) ?_ | refine vw_ret ?_ | refine vw_exit ?_ | ((show VOps _ _ _ _ (⟨some _, Go.Op.load _ _, _, _, _, none⟩ :: _) _ _); refine vops_loadNM tyOk rfl rfl rfl (by repeat (first | exact mem_here | apply mem_next | apply mem_past)) (by first | rfl | (rw [ints_length]; first | assumption | omega | (rw [ints_length]; first | assumption | omega | simp [*])) | simp [*]) ?_) | ((show VOps _ _ _ _ (⟨none, Go.Op.store _ _ _, _, _, _, none⟩ :: _) _ _); refine vops_storeAM tyOk rfl rfl rfl (by first | rfl | (rw [ints_length]; first | assumption | omega | (rw [ints_length]; first | assumption | omega | simp [*])) | simp [*]) (by first | exact ints_one | simp [Value.oneCell']) (by repeat (first | exact upd_here | apply upd_next | apply upd_past)) (by first | rfl | (rw [ints_length]; first | assumption | omega | (rw [ints_length]; first | assumption | omega | simp [*])) | simp [*]) ?_))
    have hfin : NewR 50 14 (circRows n) (.slice p i cp) new := NewF.r (m := 0) hN hik (by rw [List.take_of_length_le (by omega)])
    exact schG_ok tyOk rfl rfl rfl rfl rfl (by repeat (first | exact mem_here | apply mem_next | apply mem_past)) hik hfin (by repeat (first | exact sub_hereL | exact sub_refl | apply sub_cons | apply sub_app)) rfl rfl

end Go.Proofs.Ytlfflmoegfibgaa

/- A part of the proof: P15. No conditions of its own. -/
namespace Go.Proofs.Ytlfflmoegfibgaa
open Go.VL
attribute [local irreducible] VWr VOps VD Calls

/-- A round whose teams are renumbered, as far as k. -/
def renTo (p r : List Int) : Nat → List Int
  | 0 => List.replicate 14 0
  | k + 1 => (renTo p r k).set (p.getD k 0).toNat (p.getD (r.getD k 0).toNat 0)
theorem renTo_length (p r : List Int) : ∀ k, (renTo p r k).length = 14
  | 0 => rfl
  | k + 1 => by rw [renTo, List.length_set]; exact renTo_length p r k
def renamed (n : Int) (p : List Int) (rs : List (List Int)) : List (List Int) := rs.map fun r => renTo p r n.toNat
theorem renamed_length (n : Int) (p : List Int) (rs : List (List Int)) : (renamed n p rs).length = rs.length := by simp [renamed]
theorem renamed14 (n : Int) (p : List Int) (rs : List (List Int)) : ∀ r ∈ renamed n p rs, r.length = 14 := by
  intro r h
  obtain ⟨x, _, rfl⟩ := List.mem_map.1 h
  exact renTo_length p x n.toNat
theorem renamed_get {n : Int} {p : List Int} {rs : List (List Int)} {i : Nat} {r : List Int} (h : rs[i]? = some r) : (renamed n p rs)[i]? = some (renTo p r n.toNat) := by
  unfold renamed; rw [List.getElem?_map, h]; rfl
open Classical in
noncomputable def renumber (n : Int) (rs : List (List Int)) (p : List Int) : (Int × List (List Int)) × Int :=
  if IsSch n rs then (if IsPerm n p then ((n, renamed n p rs), 0) else ((0, []), 2)) else ((0, []), 1)
open Classical in
set_option maxHeartbeats 1000000 in
set_option maxRecDepth 100000 in
theorem c_l01Renamed (n : Int) (v u : Value) (rs : List (List Int)) (q : List Int) (w : World) (hv : RdS w v rs) (hu : RdI w u q) (hr : ∀ r ∈ rs, r.length = 14) (hl : rs.length ≤ 1048576) (_hl2 : q.length ≤ 1048576) (h : IsSch n rs) (h2 : IsPerm n q) :
    Calls Try.prog 179 [.agg #[.int .i64 n, v], u].toArray w (Res w (SchR n (renamed n q rs))) := by
  obtain ⟨a, cap, rfl⟩ := hv.len
  obtain ⟨a2, cap2, rfl⟩ := hu.len
  have hn := h.1
  have hn' := h.2.1
  have hql := h2.1
  have hq14 := renamed14 n q rs
  have hrl := renamed_length n q rs
  refine calls_of_vw Try.func179 rfl Try.ntmps179 (by simp) ?_
  refine vw_seq (vw_region (by kernel_rfl) (vops_box [.int .i64 n, .slice a rs.length cap] rfl (fun b0 hb0 => ?_)))
  refine vops_allocZ [.int .i64 0, .slice none 0 0] tyOk rfl rfl (by simp) (fun bz hbz => ?_)
  repeat (first | refine vops_q tyOk rfl ?_ | refine vops_nil ?_ | refine vw_seq ?_ | refine vw_region (by kernel_rfl) ?_ | refine vops_build0 tyOk rfl rfl (fun be hbe => ?_) | ((show VOps _ _ _ _ (⟨some _, Go.Op.load _ _, _, _, _, none⟩ :: _) _ _); refine vops_loadM tyOk rfl rfl rfl (by repeat (first | exact mem_here | apply mem_next | apply mem_past)) (by rfl) ?_) | refine vops_build2 rfl rfl (by kernel_rfl) ?_)
  refine vops_allocZ [.int .i64 0, .slice none 0 0] tyOk rfl rfl (by simp) (fun bo hbo => ?_)
  repeat (first | refine vops_q tyOk rfl ?_ | refine vops_nil ?_ | refine vw_seq ?_ | refine vw_region (by kernel_rfl) ?_ | refine vw_block ?_ | ((show VOps _ _ _ _ (⟨none, Go.Op.store _ _ _, _, _, _, none⟩ :: _) _ _); refine vops_storeAM tyOk rfl rfl rfl (by first | rfl | (rw [ints_length]; first | assumption | omega | (rw [ints_length]; first | assumption | omega | simp [*])) | simp [*]) (by first | exact ints_one | simp [Value.oneCell']) (by repeat (first | exact upd_here | apply upd_next | apply upd_past)) (by first | rfl | (rw [ints_length]; first | assumption | omega | (rw [ints_length]; first | assumption | omega | simp [*])) | simp [*]) ?_))
  refine vw_loopW (fun m f own => ∃ (i : Nat) (p : Option Addr) (cp : Nat) (new : Own), i ≤ rs.length ∧ m = rs.length - i ∧ f 6 = .int .i64 i ∧ f 1 = .slice a2 q.length cap2 ∧ f 2 = .pointer (some ⟨b0, 0, none⟩) ∧ f 4 = .pointer (some ⟨bz, 0, none⟩) ∧ f 5 = .pointer (some ⟨bo, 0, none⟩) ∧
      NewF 50 14 i ((renamed n q rs).take i).flatten (.slice p i cp) new ∧
      own = new ++ [(bo, ⟨[.int .i64 n, .slice p i cp], 32, 2, none⟩), (bz, ⟨[.int .i64 0, .slice none 0 0], 32, 2, none⟩), (b0, ⟨[.int .i64 n, .slice a rs.length cap], 32, 2, none⟩)]) rs.length
    ⟨[(be, _)] ++ [(bo, _), (bz, _), (b0, _)], (by repeat (first | exact ole_nil | exact ole_refl | (apply ole_cons; (repeat (first | exact pm1_here | apply pm1_next | apply pm1_past))) | (apply ole_app; (repeat (first | exact pm_here | exact pm_last | apply pm_next | apply pm_past))))), 0, _, _, [_], by omega, by omega, rfl, rfl, rfl, rfl, rfl, NewF.empty, rfl⟩ ?_
  rintro m f own ⟨i, p, cp, new, hi, rfl, h6, h1, h2', h4, h5, hN, rfl⟩
  rw [upd_of h6, upd_of h1, upd_of h2', upd_of h4, upd_of h5]
  repeat (first | refine vops_q tyOk rfl ?_ | refine vops_nil ?_ | refine vw_seq ?_ | refine vw_region (by kernel_rfl) ?_ | refine vw_cond rfl ?_ | ((show VOps _ _ _ _ (⟨some _, Go.Op.load _ _, _, _, _, none⟩ :: _) _ _); refine vops_loadM tyOk rfl rfl rfl (by repeat (first | exact mem_here | apply mem_next | apply mem_past)) (by rfl) ?_))
  refine bs_dec (fun h7 => ?_) (fun h7 => ?_)
  · obtain ⟨r, hri⟩ : ∃ r, rs[i]? = some r := ⟨_, List.getElem?_eq_getElem (by omega)⟩
    have hrl2 := hr r (List.mem_of_getElem? hri)
    have hrd := h.2.2.2 i r hri
    obtain ⟨b3, o3, cap3, he, hrow⟩ := hv.row hr hri
    cases he
    repeat (first | refine vw_seq ?_ | refine vw_region (by kernel_rfl) ?_ | refine vw_skip ?_ | refine vw_block ?_ | refine vops_buildC (ints (List.replicate 14 0)) tyOk rfl rfl (by kernel_rfl) ?_)
    refine vops_allocZ (ints (List.replicate 14 0)) tyOk rfl rfl (by simp [ints]) (fun br hbr => ?_)
    repeat (first | refine vops_q tyOk rfl ?_ | refine vops_nil ?_ | refine vw_seq ?_ | refine vw_region (by kernel_rfl) ?_ | refine vw_block ?_ | ((show VOps _ _ _ _ (⟨none, Go.Op.store _ _ _, _, _, _, none⟩ :: _) _ _); refine vops_storeAM tyOk rfl rfl rfl (by first | rfl | (rw [ints_length]; first | assumption | omega | (rw [ints_length]; first | assumption | omega | simp [*])) | simp [*]) (by first | exact ints_one | simp [Value.oneCell']) (by repeat (first | exact upd_here | apply upd_next | apply upd_past)) (by first | rfl | (rw [ints_length]; first | assumption | omega | (rw [ints_length]; first | assumption | omega | simp [*])) | simp [*]) ?_))
    refine vw_loopW (fun m f own => ∃ (k : Nat) (c : Int), c = k ∧ c ≤ n ∧ m = (n - c).toNat ∧ f 8 = .int .i64 c ∧ f 7 = .pointer (some ⟨br, 0, none⟩) ∧ f 6 = .int .i64 i ∧ f 1 = .slice a2 q.length cap2 ∧ f 2 = .pointer (some ⟨b0, 0, none⟩) ∧ f 4 = .pointer (some ⟨bz, 0, none⟩) ∧ f 5 = .pointer (some ⟨bo, 0, none⟩) ∧
        own = (br, ⟨ints (renTo q r k), 50, 14, none⟩) :: (new ++ [(bo, ⟨[.int .i64 n, .slice p i cp], 32, 2, none⟩), (bz, ⟨[.int .i64 0, .slice none 0 0], 32, 2, none⟩), (b0, ⟨[.int .i64 n, .slice (some ⟨b3, o3, none⟩) rs.length cap], 32, 2, none⟩)])) n.toNat
      ⟨_, ole_refl, 0, 0, by omega, by omega, by omega, rfl, rfl, rfl, rfl, rfl, rfl, rfl, rfl⟩ ?_
    rintro m f own ⟨k, c, hck, hcn, rfl, h8, h7', h6, h1, h2', h4, h5, rfl⟩
    rw [upd_of h8, upd_of h7', upd_of h6, upd_of h1, upd_of h2', upd_of h4, upd_of h5]
    have hrt := renTo_length q r k
    repeat (first | refine vops_q tyOk rfl ?_ | refine vops_nil ?_ | refine vw_seq ?_ | refine vw_region (by kernel_rfl) ?_ | refine vw_cond rfl ?_ | ((show VOps _ _ _ _ (⟨some _, Go.Op.load _ _, _, _, _, none⟩ :: _) _ _); refine vops_loadM tyOk rfl rfl rfl (by repeat (first | exact mem_here | apply mem_next | apply mem_past)) (by rfl) ?_))
    refine bs_dec (fun h9 => ?_) (fun h9 => ?_)
    · have hkc : c.toNat = k := by omega
      obtain ⟨b4, o4, cap4, he, hcell⟩ := hu.at (i := 0) (by omega)
      cases he
      have hc1 := hcell c.toNat (by omega)
      have hrk := hrd.2.2 c.toNat (by omega)
      unfold RdAt at hrk
      have hrk2 := hrk.2 (by omega)
      have hc2 := hcell (r.getD c.toNat 0).toNat (by omega)
      have hp1 := h2.2.1 _ (mem_getD (l := q) (i := c.toNat) (by omega))
      repeat (first | refine vw_seq ?_ | refine vw_skip ?_ | refine vw_block ?_)
      refine vw_draw [0, 1, 2, 3, 4, 5, 6, 7, 8, 9, 10, 11, 12, 13, 14, 15] (by kernel_rfl) (by kernel_rfl) (by kernel_rfl) rfl ?_
      repeat' (first | refine vd_q tyOk rfl (by first | trivial | rfl) rfl (by kernel_rfl) (by kernel_rfl) ?_ | refine vd_p tyOk rfl (by first | trivial | rfl) rfl (by kernel_rfl) (by kernel_rfl) (by (try simp only [inR]); omega) ?_ | refine vops_nil ?_ | refine vd_nil (by kernel_rfl) ?_ | refine vd_load tyOk rfl (by first | trivial | rfl) rfl rfl rfl (by kernel_rfl) (by kernel_rfl) (by kernel_rfl) (sees_mem (by repeat (first | exact mem_here | apply mem_next | apply mem_past)) (by rfl)) (by repeat (first | exact sub_hereL | exact sub_refl | apply sub_cons | apply sub_app)) ?_ | refine ⟨fun h => Bool.noConfusion (show false = true from h), ?_⟩ | refine vd_load tyOk rfl (by first | trivial | rfl) rfl rfl rfl (by kernel_rfl) (by kernel_rfl) (by kernel_rfl) (sees_old hc1 (by simp)) (by repeat (first | exact sub_hereL | exact sub_refl | apply sub_cons | apply sub_app)) ?_ | refine vd_load tyOk rfl (by first | trivial | rfl) rfl rfl rfl (by kernel_rfl) (by kernel_rfl) (by kernel_rfl) (sees_old hc2 (by simp)) (by repeat (first | exact sub_hereL | exact sub_refl | apply sub_cons | apply sub_app)) ?_ | refine vd_load tyOk rfl (by first | trivial | rfl) rfl rfl rfl (by kernel_rfl) (by kernel_rfl) (by kernel_rfl) (sees_old (hrow c.toNat _ (ints_get (by omega))) (by simp)) (by repeat (first | exact sub_hereL | exact sub_refl | apply sub_cons | apply sub_app)) ?_ | ((show VOps _ _ _ _ (⟨none, Go.Op.store _ _ _, _, _, _, none⟩ :: _) _ _); refine vops_storeIM tyOk rfl rfl rfl rfl (by repeat (first | exact upd_here | apply upd_next | apply upd_past)) (by omega) ?_) | refine vd_one rfl (by kernel_rfl) (by kernel_rfl) rfl ?_)
      repeat (first | refine vops_q tyOk rfl ?_ | refine vops_nil ?_ | refine vw_region (by kernel_rfl) ?_ | refine vops_p tyOk rfl (by (try simp only [inR]); omega) ?_)
      refine ⟨(n - (c + 1)).toNat, by omega, _, ole_refl, k + 1, c + 1, by omega, by omega, rfl, rfl, rfl, rfl, rfl, rfl, rfl, rfl, ?_⟩
      rw [renTo, ← hkc]
    · obtain rfl : c = n := by omega
      have hst : ((renamed c q rs).take (i + 1)).flatten = ((renamed c q rs).take i).flatten ++ renTo q r k := by
        rw [List.take_add_one, renamed_get hri, hck]; simp
      repeat (first | refine vops_q tyOk rfl ?_ | refine vops_nil ?_ | refine vw_region (by kernel_rfl) ?_ | refine vops_p tyOk rfl (by (try simp only [inR]); omega) ?_ | refine vw_exit ?_ | refine vops_litR (k := 14) tyOk rfl rfl (List.cons_ne_nil _ _) rfl hrt rfl (by omega) (by omega) (fun be hbe => ?_) | refine vops_append1 (k := 14) tyOk rfl rfl (List.cons_ne_nil _ _) rfl rfl (by decide) rfl hN (by repeat (first | exact pm_here | exact pm_last | apply pm_next | apply pm_past)) rfl (by repeat (first | exact mem_here | apply mem_next | apply mem_past)) (by first | assumption | omega) (by omega) (fun p' cap' new' hN' => ?_) | ((show VOps _ _ _ _ (⟨some _, Go.Op.load _ _, _, _, _, none⟩ :: _) _ _); first | refine vops_loadM tyOk rfl rfl rfl (by repeat (first | exact mem_here | apply mem_next | apply mem_past)) (by rfl) ?_ | refine vops_loadNM tyOk rfl rfl rfl (by repeat (first | exact mem_here | apply mem_next | apply mem_past)) (by first | rfl | (rw [ints_length]; first | assumption | omega | (rw [ints_length]; first | assumption | omega | simp [*])) | simp [*]) ?_) | ((show VOps _ _ _ _ (⟨none, Go.Op.store _ _ _, _, _, _, none⟩ :: _) _ _); refine vops_storeM tyOk rfl rfl rfl rfl rfl (by repeat (first | exact upd_here | apply upd_next | apply upd_past)) (by simp) ?_))
      exact ⟨rs.length - (i + 1), by omega, new' ++ [(bo, _), (bz, _), (b0, _)], (by repeat (first | exact ole_nil | exact ole_refl | (apply ole_cons; (repeat (first | exact pm1_here | apply pm1_next | apply pm1_past))) | (apply ole_app; (repeat (first | exact pm_here | exact pm_last | apply pm_next | apply pm_past))))), i + 1, p', cap', new', by omega, rfl, rfl, rfl, rfl, rfl, rfl, hN'.cast hst.symm, rfl⟩
  · obtain rfl : i = rs.length := by omega
    repeat (first | refine vops_nil ?_ | refine vw_seq ?_ | refine vw_region (by kernel_rfl) ?_ | refine vw_ret ?_ | refine vw_exit ?_ | ((show VOps _ _ _ _ (⟨some _, Go.Op.load _ _, _, _, _, none⟩ :: _) _ _); refine vops_loadNM tyOk rfl rfl rfl (by repeat (first | exact mem_here | apply mem_next | apply mem_past)) (by first | rfl | (rw [ints_length]; first | assumption | omega | (rw [ints_length]; first | assumption | omega | simp [*])) | simp [*]) ?_) | ((show VOps _ _ _ _ (⟨none, Go.Op.store _ _ _, _, _, _, none⟩ :: _) _ _); refine vops_storeAM tyOk rfl rfl rfl (by first | rfl | (rw [ints_length]; first | assumption | omega | (rw [ints_length]; first | assumption | omega | simp [*])) | simp [*]) (by first | exact ints_one | simp [Value.oneCell']) (by repeat (first | exact upd_here | apply upd_next | apply upd_past)) (by first | rfl | (rw [ints_length]; first | assumption | omega | (rw [ints_length]; first | assumption | omega | simp [*])) | simp [*]) ?_))
    have hfin : NewR 50 14 (renamed n q rs) (.slice p rs.length cp) new := NewF.r (m := 0) hN hrl.symm (by rw [List.take_of_length_le (by omega)])
    exact schG_ok tyOk rfl rfl rfl rfl rfl (by repeat (first | exact mem_here | apply mem_next | apply mem_past)) hrl.symm hfin (by repeat (first | exact sub_hereL | exact sub_refl | apply sub_cons | apply sub_app)) rfl rfl

end Go.Proofs.Ytlfflmoegfibgaa

/- A part of the proof: P4. No conditions of its own. -/
namespace Go.Proofs.Ytlfflmoegfibgaa
open Go.VL
attribute [local irreducible] VWr VOps VD Calls

end Go.Proofs.Ytlfflmoegfibgaa

/- A part of the proof: P5. No conditions of its own. -/
namespace Go.Proofs.Ytlfflmoegfibgaa
open Go.VL
attribute [local irreducible] VWr VOps VD Calls

open Classical in
/-- The code of a schedule and teams. -/
noncomputable def teamsCode (n : Int) (rs : List (List Int)) (l : List Int) : Int := if IsSch n rs then (if ∀ x ∈ l, 0 ≤ x ∧ x < n then 0 else 2) else 1
/-- The opponents of a team. -/
def oppOf (a : Int) (rs : List (List Int)) : List Int := rs.map fun r => if r.getD a.toNat 0 = a then -1 else r.getD a.toNat 0
open Classical in
noncomputable def opponents (n : Int) (rs : List (List Int)) (a : Int) : List Int × Int :=
  if IsSch n rs then (if 0 ≤ a ∧ a < n then (oppOf a rs, 0) else ([], 2)) else ([], 1)
end Go.Proofs.Ytlfflmoegfibgaa

/- A part of the proof: PS7. No conditions of its own. -/
namespace Go.Proofs.Ytlfflmoegfibgaa
open Go.VL
attribute [local irreducible] VWr VOps VD Calls

end Go.Proofs.Ytlfflmoegfibgaa

/- A part of the proof: PS8. No conditions of its own. -/
namespace Go.Proofs.Ytlfflmoegfibgaa
open Go.VL
attribute [local irreducible] VWr VOps VD Calls

theorem circ_rd : ∀ k : Nat, k < 15 → 2 ≤ k → ∀ i : Nat, i < 14 → (i : Int) < robinR k → IsRd (k : Int) (circRow k i) := by decide +kernel
theorem circ_sch {n : Int} (h2 : 2 ≤ n) (h14 : n ≤ 14) : IsSch n (circRows n) := by
  obtain ⟨k, rfl⟩ : ∃ k : Nat, n = (k : Int) := ⟨n.toNat, by omega⟩
  refine ⟨h2, h14, by rw [circRows_length]; unfold robinR; omega, fun i r hi => ?_⟩
  have hlt : i < (circRows k).length := (List.getElem?_eq_some_iff.1 hi).1
  rw [circRows_length] at hlt
  unfold circRows at hi
  rw [List.getElem?_map, List.getElem?_range hlt] at hi
  obtain rfl : circRow k i = r := by simpa using hi
  exact circ_rd k (by omega) (by omega) i (by unfold robinR at hlt; omega) (by omega)
theorem reord_sch {n : Int} {rs : List (List Int)} {q : List Int} (h : IsSch n rs) (hl : q.length ≤ 40) (hq : ∀ x ∈ q, 0 ≤ x ∧ x < rs.length) : IsSch n (reord rs q) := by
  refine ⟨h.1, h.2.1, by rw [reord_length]; exact hl, fun i r hi => ?_⟩
  have hlt : i < q.length := by have := (List.getElem?_eq_some_iff.1 hi).1; rwa [reord_length] at this
  have hx := hq _ (mem_getD hlt)
  obtain ⟨r', hr'⟩ : ∃ r', rs[(q.getD i 0).toNat]? = some r' := ⟨_, List.getElem?_eq_getElem (by omega)⟩
  rw [reord_get hlt hr'] at hi
  obtain rfl := Option.some.inj hi
  exact h.2.2.2 _ _ hr'
theorem getD_setP (l : List Int) (i j : Nat) (x : Int) : (l.set i x).getD j 0 = if i = j ∧ i < l.length then x else l.getD j 0 := by
  rw [List.getD_eq_getElem?_getD, List.getElem?_set, List.getD_eq_getElem?_getD]
  by_cases h : i = j
  · subst h
    rw [if_pos rfl]
    by_cases h2 : i < l.length
    · rw [if_pos h2, if_pos ⟨rfl, h2⟩]; rfl
    · rw [if_neg h2, if_neg (fun e => h2 e.2), List.getElem?_eq_none (by omega)]
  · rw [if_neg h, if_neg (fun e => h e.1)]
theorem nodup_getDP {l : List Int} (h : l.Nodup) {i j : Nat} (hi : i < l.length) (hj : j < l.length) (hij : i ≠ j) : l.getD i 0 ≠ l.getD j 0 := by
  have key : ∀ a b : Nat, a < b → b < l.length → l.getD a 0 ≠ l.getD b 0 := fun a b hab hb e => by
    refine List.pairwise_iff_getElem.1 h a b (by omega) hb hab ?_
    rw [List.getD_eq_getElem?_getD, List.getD_eq_getElem?_getD, List.getElem?_eq_getElem (by omega), List.getElem?_eq_getElem hb] at e
    exact e
  rcases Nat.lt_or_gt_of_ne hij with h1 | h1
  · exact key i j h1 hj
  · exact fun e => key j i h1 hi e.symm
/-- Into numbers below k, each once: then all of them. -/
theorem onto_inj : ∀ (k : Nat) (f : Nat → Nat), (∀ x, x < k → f x < k) → (∀ x y, x < k → y < k → f x = f y → x = y) → ∀ z, z < k → ∃ x, x < k ∧ f x = z
  | 0, _, _, _, z, hz => by omega
  | k + 1, f, hf, hi, z, hz => by
    by_cases hzk : f k = z
    · exact ⟨k, by omega, hzk⟩
    have hfk := hf k (by omega)
    have := onto_inj k (fun x => if f x = k then f k else f x)
      (fun x hx => by
        show (if f x = k then f k else f x) < k
        by_cases h : f x = k
        · rw [if_pos h]
          have : f k ≠ k := fun e => by have := hi x k (by omega) (by omega) (by omega); omega
          omega
        · rw [if_neg h]; have := hf x (by omega); omega)
      (fun x y hx hy e => by
        have e' : (if f x = k then f k else f x) = (if f y = k then f k else f y) := e
        by_cases h1 : f x = k
        · by_cases h2 : f y = k
          · exact hi x y (by omega) (by omega) (by omega)
          · rw [if_pos h1, if_neg h2] at e'
            have := hi k y (by omega) (by omega) e'; omega
        · by_cases h2 : f y = k
          · rw [if_neg h1, if_pos h2] at e'
            have := hi x k (by omega) (by omega) e'; omega
          · rw [if_neg h1, if_neg h2] at e'
            exact hi x y (by omega) (by omega) e')
    by_cases hz2 : z = k
    · -- k is met by the one whose value k is
      by_cases hex : ∃ x, x < k ∧ f x = k
      · obtain ⟨x, hx, he⟩ := hex
        exact ⟨x, by omega, by omega⟩
      · -- then f maps k + 1 numbers below k, which the inner function shows to be met already
        have hlt : ∀ x, x < k → f x < k := fun x hx => by
          have := hf x (by omega)
          have : f x ≠ k := fun e => hex ⟨x, hx, e⟩
          omega
        obtain ⟨x, hx, he⟩ := onto_inj k f hlt (fun x y hx hy e => hi x y (by omega) (by omega) e) (f k) (by omega)
        have := hi x k (by omega) (by omega) he; omega
    · obtain ⟨x, hx, he⟩ := this z (by omega)
      have he' : (if f x = k then f k else f x) = z := he
      by_cases h : f x = k
      · rw [if_pos h] at he'; exact absurd he' hzk
      · rw [if_neg h] at he'; exact ⟨x, by omega, he'⟩

theorem rep_getD (m x : Nat) : (List.replicate m (0 : Int)).getD x 0 = 0 := by
  rw [List.getD_eq_getElem?_getD, List.getElem?_replicate]; split <;> rfl
theorem renTo_at {n : Int} {p r : List Int} (hn : n ≤ 14) (hp : IsPerm n p) {a : Nat} (ha : (a : Int) < n) : ∀ k : Nat, (k : Int) ≤ n → (renTo p r k).getD (p.getD a 0).toNat 0 = if a < k then p.getD (r.getD a 0).toNat 0 else 0
  | 0, _ => by
    rw [if_neg (by omega), renTo]
    exact rep_getD _ _
  | k + 1, hk => by
    have hl := hp.1
    have pa := hp.2.1 _ (mem_getD (l := p) (i := a) (by omega))
    have pk := hp.2.1 _ (mem_getD (l := p) (i := k) (by omega))
    rw [renTo, getD_setP, renTo_length, renTo_at hn hp ha k (by omega)]
    by_cases hak : a = k
    · subst hak
      rw [if_pos ⟨rfl, by omega⟩, if_pos (by omega)]
    · have hne := nodup_getDP hp.2.2 (i := a) (j := k) (by omega) (by omega) hak
      rw [if_neg fun e => hne (by omega)]
      by_cases hlt : a < k
      · rw [if_pos hlt, if_pos (by omega)]
      · rw [if_neg hlt, if_neg (by omega)]
theorem renTo_hi {n : Int} {p r : List Int} (hp : IsPerm n p) {x : Nat} (hx : n ≤ x) : ∀ k : Nat, (k : Int) ≤ n → (renTo p r k).getD x 0 = 0
  | 0, _ => by
    rw [renTo]
    exact rep_getD _ _
  | k + 1, hk => by
    have hl := hp.1
    have pk := hp.2.1 _ (mem_getD (l := p) (i := k) (by omega))
    rw [renTo, getD_setP, if_neg fun e => by omega]
    exact renTo_hi hp hx k (by omega)
theorem renTo_rd {n : Int} {p r : List Int} (hp : IsPerm n p) (h : IsRd n r) : IsRd n (renTo p r n.toNat) := by
  obtain ⟨h2, h14, hall⟩ := h
  have hl := hp.1
  refine ⟨h2, h14, fun x hx => ⟨fun hnx => renTo_hi hp hnx _ (by omega), fun hxn => ?_⟩⟩
  obtain ⟨a, ha, hax⟩ := onto_inj n.toNat (fun a => (p.getD a 0).toNat) (fun a ha => by
      have := hp.2.1 _ (mem_getD (l := p) (i := a) (by omega)); show (p.getD a 0).toNat < _; omega)
    (fun a b ha hb e => by
      have pa := hp.2.1 _ (mem_getD (l := p) (i := a) (by omega))
      have pb := hp.2.1 _ (mem_getD (l := p) (i := b) (by omega))
      have e' : (p.getD a 0).toNat = (p.getD b 0).toNat := e
      by_cases hab : a = b
      · exact hab
      · exact absurd (show p.getD a 0 = p.getD b 0 by omega) (nodup_getDP hp.2.2 (by omega) (by omega) hab)) x (by omega)
  have hax' : (p.getD a 0).toNat = x := hax
  have pa := hp.2.1 _ (mem_getD (l := p) (i := a) (by omega))
  obtain ⟨b0, b1, b2⟩ := (hall a (by omega)).2 (by omega)
  have hat := renTo_at (r := r) h14 hp (a := a) (by omega) n.toNat (by omega)
  rw [hax', if_pos ha] at hat
  rw [hat]
  have pb := hp.2.1 _ (mem_getD (l := p) (i := (r.getD a 0).toNat) (by omega))
  have hbt := renTo_at (r := r) h14 hp (a := (r.getD a 0).toNat) (by omega) n.toNat (by omega)
  rw [if_pos (by omega), b2, Int.toNat_natCast] at hbt
  exact ⟨pb.1, by omega, by rw [hbt]; omega⟩
theorem renamed_sch {n : Int} {p : List Int} {rs : List (List Int)} (hp : IsPerm n p) (h : IsSch n rs) : IsSch n (renamed n p rs) := by
  refine ⟨h.1, h.2.1, by rw [renamed_length]; exact h.2.2.1, fun i r hi => ?_⟩
  unfold renamed at hi
  rw [List.getElem?_map] at hi
  obtain ⟨r', hr', rfl⟩ := Option.map_eq_some_iff.1 hi
  exact renTo_rd hp (h.2.2.2 _ _ hr')
end Go.Proofs.Ytlfflmoegfibgaa

/- A part of the proof: PS9. No conditions of its own. -/
namespace Go.Proofs.Ytlfflmoegfibgaa
open Go.VL
attribute [local irreducible] VWr VOps VD Calls

/-- A schedule that has been drawn, behind its source. -/
def DrawnS (b : Nat) (a : Option Addr) (n cap : Nat) (v : Value) (new : Own) : Prop := ∃ (k : Nat) (rs : List (List Int)) (p : Option Addr) (c : Nat) (newS : Own) (i h : Int), IsSch k rs ∧ (∀ r ∈ rs, r.length = 14) ∧ v = .agg #[.int .i64 k, .slice p rs.length c] ∧ NewR 50 14 rs (.slice p rs.length c) newS ∧ 0 ≤ i ∧ i ≤ n ∧ 0 ≤ h ∧ h < 18446744073709551616 ∧ new = Src b a n cap i h ++ newS
theorem ord_perm {k : Nat} {l : List Int} (h : OrdTo k l) : IsPerm k l := by
  refine ⟨by rw [h.len], fun x hx => ?_, ?_⟩
  · obtain ⟨j, hj, rfl⟩ := List.mem_map.1 (h.mem_iff.1 hx)
    have := List.mem_range.1 hj; omega
  · refine h.nodup_iff.2 ?_
    exact List.nodup_range.map _ (fun x y hne e => hne (by omega))

theorem ord_in {k : Nat} {l : List Int} (h : OrdTo k l) : ∀ x ∈ l, 0 ≤ x ∧ x < k := (ord_perm h).2.1
theorem ord_le {k : Nat} {l : List Int} (h : OrdTo k l) (hk : k ≤ 1048576) : l.length ≤ 1048576 := by rw [h.len]; exact hk
set_option maxHeartbeats 2000000 in
set_option maxRecDepth 100000 in
theorem c_l01DrawRobin (b : Nat) (a : Option Addr) (cs : List Nat) (cap : Nat) (i0 h00 : Int) (w : World) (hS : SrcIn w b a cs cap i0 h00) :
    Calls Try.prog 155 [.pointer (some ⟨b, 0, none⟩)].toArray w (ResM w (Src b a cs.length cap i0 h00) (DrawnS b a cs.length cap)) := by
  have hC := hS.ctx
  have hi1 := hS.i0
  have hi2 := hS.i1
  have hh1 := hS.h0
  have hh2 := hS.h1
  obtain ⟨i', hi'⟩ : ∃ i', i' = i0 := ⟨_, rfl⟩
  obtain ⟨h', hh'⟩ : ∃ h', h' = h00 := ⟨_, rfl⟩
  refine calls_of_vwM Try.func155 rfl Try.ntmps155 (by simp) hS.ok ?_
  rw [← hi', ← hh'] at hC ⊢
  rw [← hi'] at hi1 hi2
  rw [← hh'] at hh1 hh2
  refine vw_seq (vw_region (by kernel_rfl) (vops_allocZ [.int .i64 0, .slice none 0 0] tyOk rfl rfl (by simp) (fun b2 hb2 => ?_)))
  repeat (first | refine vops_q tyOk rfl ?_ | refine vops_nil ?_ | refine vw_seq ?_ | refine vw_region (by kernel_rfl) ?_ | refine vops_litI [2, 3, 4, 4, 5, 6, 6, 7, 8, 8, 9, 10, 12, 14] tyOk rfl rfl (List.cons_ne_nil _ _) (by rfl) rfl (by omega) (by omega) (fun bt hbt => ?_) | (apply vops_callM (own0 := Src b a cs.length cap i' h') ent121 rfl; (case hp => (repeat (first | exact pm_here | exact pm_last | apply pm_next | apply pm_past))); (case h => (intro w' hg; exact c_pick (l := [2, 3, 4, 4, 5, 6, 6, 7, 8, 8, 9, 10, 12, 14]) hC hg hi1 hi2 hh1 hh2 (by repeat (first | exact mem_here | apply mem_next | apply mem_past)) rfl (by simp) (by simp))); (rintro _ newM ⟨x, hx, rfl, i', h', hi1, hi2, hh1, hh2, rfl⟩)))
  obtain ⟨k, rfl, hk2, hk14⟩ : ∃ k : Nat, x = (k : Int) ∧ 2 ≤ k ∧ k ≤ 14 := by
    have hx' : 2 ≤ x ∧ x ≤ 14 := by simp at hx; omega
    exact ⟨x.toNat, by omega, by omega, by omega⟩
  have hsch := circ_sch (n := (k : Int)) (by omega) (by omega)
  have h14 := circRows14 (k : Int)
  have hcc : ∀ w', Calls Try.prog 154 [Value.int .i64 k].toArray w' (Res w' (SchR k (circRows (k : Int)))) := fun w' => c_l01Circle (k : Int) (by omega) (by omega) w'
  generalize circRows (k : Int) = rs at *
  repeat (first | refine vops_q tyOk rfl ?_ | refine vops_nil ?_ | refine vw_seq ?_ | refine vw_region (by kernel_rfl) ?_ | (apply vops_call ent154 rfl; (intro w' hg; exact hcc w'); (rintro _ newN ⟨p, cp, rfl, hN⟩)) | refine vops_allocZ [.int .i64 0, .slice none 0 0] tyOk rfl rfl (by simp) (fun b3 hb3 => ?_) | ((show VOps _ _ _ _ (⟨none, Go.Op.store _ _ _, _, _, _, none⟩ :: _) _ _); refine vops_storeAM tyOk rfl rfl rfl (by first | rfl | (rw [ints_length]; first | assumption | omega | (rw [ints_length]; first | assumption | omega | simp [*])) | simp [*]) (by first | exact ints_one | simp [Value.oneCell']) (by repeat (first | exact upd_here | apply upd_next | apply upd_past)) (by first | rfl | (rw [ints_length]; first | assumption | omega | (rw [ints_length]; first | assumption | omega | simp [*])) | simp [*]) ?_))
  have hrl : rs.length ≤ 40 := hsch.2.2.1
  repeat (first | refine vops_q tyOk rfl ?_ | refine vops_nil ?_ | refine vw_cond rfl ?_ | (apply vops_callM ent123 rfl; (case h => (intro w' hg; exact c_next (hC.at (cap := cap) hg hi1 hi2 hh1 hh2) (by omega))); (case hp => (repeat (first | exact pm_here | exact pm_last | apply pm_next | apply pm_past))); (rintro _ newM ⟨x, rfl, hx0, hx1, i', h', hi1, hi2, hh1, hh2, rfl⟩)))
  refine bs_dec (fun hy => ?_) (fun hy => ?_)
  · skip
    refine vw_drawB [(b3, _)] [0, 1, 2, 3, 4, 5, 6] (by kernel_rfl) (by kernel_rfl) (by kernel_rfl) rfl (by repeat (first | exact ole_nil | exact ole_refl | (apply ole_cons; (repeat (first | exact pm1_here | apply pm1_next | apply pm1_past))) | (apply ole_app; (repeat (first | exact pm_here | exact pm_last | apply pm_next | apply pm_past))))) ?_
    repeat' (first | refine vd_q tyOk rfl (by first | trivial | rfl) rfl (by kernel_rfl) (by kernel_rfl) ?_ | refine vops_nil ?_ | refine vd_nil (by kernel_rfl) ?_ | refine ⟨fun _ _ _ h => List.mem_append_right _ h, ?_⟩ | refine vd_load tyOk rfl (by first | trivial | rfl) rfl rfl rfl (by kernel_rfl) (by kernel_rfl) (by kernel_rfl) (sees_mem (by repeat (first | exact mem_here | apply mem_next | apply mem_past)) (by rfl)) (by repeat (first | exact sub_hereL | exact sub_refl | apply sub_cons | apply sub_app)) ?_ | refine vd_loadNM tyOk rfl (by first | trivial | rfl) rfl rfl rfl (by repeat (first | exact mem_here | apply mem_next | apply mem_past)) (by first | rfl | (rw [ints_length]; first | assumption | omega | (rw [ints_length]; first | assumption | omega | simp [*])) | simp [*]) (by kernel_rfl) (by kernel_rfl) (by kernel_rfl) (by repeat (first | exact sub_hereL | exact sub_refl | apply sub_cons | apply sub_app)) ?_ | refine ⟨fun h => Bool.noConfusion (show false = true from h), ?_⟩ | refine ⟨fun _ p hp _ => (show Go.VL.Sub _ _ from (by repeat (first | exact sub_hereL | exact sub_refl | apply sub_cons | apply sub_app))) p hp, ?_⟩ | (apply vops_callM ent122 rfl; (case h => (intro w' hg; exact c_order (cap := cap) (n := k) hC hg hi1 hi2 hh1 hh2 (by omega))); (case hp => (repeat (first | exact pm_here | exact pm_last | apply pm_next | apply pm_past))); (rintro _ newM ⟨l, pl, cl, newl, i', h', rfl, hO, hNl, hi1, hi2, hh1, hh2, rfl⟩)) | (apply vops_call ent179 rfl; (intro w' hg; exact c_l01Renamed (k : Int) _ _ rs l w' (NewR.see (by assumption) (by repeat (first | exact sub_hereL | exact sub_refl | apply sub_cons | apply sub_app)) _ hg) (NewI.see (by assumption) (by repeat (first | exact sub_hereL | exact sub_refl | apply sub_cons | apply sub_app)) _ hg) h14 (by omega) (ord_le hO (by omega)) hsch (ord_perm hO)); (rintro _ newN ⟨p, cp, rfl, hN⟩)) | ((show VOps _ _ _ _ (⟨none, Go.Op.store _ _ _, _, _, _, none⟩ :: _) _ _); refine vops_storeAM tyOk rfl rfl rfl (by first | rfl | (rw [ints_length]; first | assumption | omega | (rw [ints_length]; first | assumption | omega | simp [*])) | simp [*]) (by first | exact ints_one | simp [Value.oneCell']) (by repeat (first | exact upd_here | apply upd_next | apply upd_past)) (by first | rfl | (rw [ints_length]; first | assumption | omega | (rw [ints_length]; first | assumption | omega | simp [*])) | simp [*]) ?_) | refine vd_one rfl (by kernel_rfl) (by kernel_rfl) rfl ?_)
    have hs1 := renamed_sch (ord_perm hO) hsch
    have h141 := renamed14 (k : Int) l rs
    generalize renamed (k : Int) l rs = rs1 at *
    show VWr _ _ _ _ _ _ _ _
    refine vw_le (own' := Src b a cs.length cap i' h' ++ (newN ++ [(b3, ⟨[.int .i64 k, .slice p rs1.length cp], 32, 2, none⟩), (b2, ⟨[.int .i64 0, .slice none 0 0], 32, 2, none⟩)])) (by repeat (first | exact ole_nil | exact ole_refl | (apply ole_cons; (repeat (first | exact pm1_here | apply pm1_next | apply pm1_past))) | (apply ole_app; (repeat (first | exact pm_here | exact pm_last | apply pm_next | apply pm_past))))) ?_
    have hl2 : rs1.length ≤ 40 := hs1.2.2.1
    repeat (first | refine vops_q tyOk rfl ?_ | refine vops_nil ?_ | refine vw_seq ?_ | refine vw_region (by kernel_rfl) ?_ | refine vw_cond rfl ?_ | (apply vops_callM ent123 rfl; (case h => (intro w' hg; exact c_next (hC.at (cap := cap) hg hi1 hi2 hh1 hh2) (by omega))); (case hp => (repeat (first | exact pm_here | exact pm_last | apply pm_next | apply pm_past))); (rintro _ newM ⟨x, rfl, hx0, hx1, i', h', hi1, hi2, hh1, hh2, rfl⟩)))
    refine bs_dec (fun hz => ?_) (fun hz => ?_)
    · skip
      refine vw_drawB [(b3, _)] [0, 1, 2, 3, 4, 5, 6, 7] (by kernel_rfl) (by kernel_rfl) (by kernel_rfl) rfl (by repeat (first | exact ole_nil | exact ole_refl | (apply ole_cons; (repeat (first | exact pm1_here | apply pm1_next | apply pm1_past))) | (apply ole_app; (repeat (first | exact pm_here | exact pm_last | apply pm_next | apply pm_past))))) ?_
      repeat' (first | refine vd_q tyOk rfl (by first | trivial | rfl) rfl (by kernel_rfl) (by kernel_rfl) ?_ | refine vops_nil ?_ | refine vd_nil (by kernel_rfl) ?_ | refine ⟨fun _ _ _ h => List.mem_append_right _ h, ?_⟩ | refine vd_load tyOk rfl (by first | trivial | rfl) rfl rfl rfl (by kernel_rfl) (by kernel_rfl) (by kernel_rfl) (sees_mem (by repeat (first | exact mem_here | apply mem_next | apply mem_past)) (by rfl)) (by repeat (first | exact sub_hereL | exact sub_refl | apply sub_cons | apply sub_app)) ?_ | refine vd_loadNM tyOk rfl (by first | trivial | rfl) rfl rfl rfl (by repeat (first | exact mem_here | apply mem_next | apply mem_past)) (by first | rfl | (rw [ints_length]; first | assumption | omega | (rw [ints_length]; first | assumption | omega | simp [*])) | simp [*]) (by kernel_rfl) (by kernel_rfl) (by kernel_rfl) (by repeat (first | exact sub_hereL | exact sub_refl | apply sub_cons | apply sub_app)) ?_ | refine ⟨fun h => Bool.noConfusion (show false = true from h), ?_⟩ | refine ⟨fun _ p hp _ => (show Go.VL.Sub _ _ from (by repeat (first | exact sub_hereL | exact sub_refl | apply sub_cons | apply sub_app))) p hp, ?_⟩ | (apply vops_callM ent122 rfl; (case h => (intro w' hg; exact c_order (cap := cap) (n := rs1.length) hC hg hi1 hi2 hh1 hh2 (by omega))); (case hp => (repeat (first | exact pm_here | exact pm_last | apply pm_next | apply pm_past))); (rintro _ newM ⟨l2, pl2, cl2, newl2, i', h', rfl, hO2, hNl2, hi1, hi2, hh1, hh2, rfl⟩)) | (apply vops_call ent114 rfl; (intro w' hg; exact c_l01Reordered (k : Int) _ _ rs1 l2 w' (NewR.see (by assumption) (by repeat (first | exact sub_hereL | exact sub_refl | apply sub_cons | apply sub_app)) _ hg) (NewI.see (by assumption) (by repeat (first | exact sub_hereL | exact sub_refl | apply sub_cons | apply sub_app)) _ hg) h141 (by omega) (ord_le hO2 (by omega)) (ord_in hO2)); (rintro _ newN ⟨p, cp, rfl, hN⟩)) | ((show VOps _ _ _ _ (⟨none, Go.Op.store _ _ _, _, _, _, none⟩ :: _) _ _); refine vops_storeAM tyOk rfl rfl rfl (by first | rfl | (rw [ints_length]; first | assumption | omega | (rw [ints_length]; first | assumption | omega | simp [*])) | simp [*]) (by first | exact ints_one | simp [Value.oneCell']) (by repeat (first | exact upd_here | apply upd_next | apply upd_past)) (by first | rfl | (rw [ints_length]; first | assumption | omega | (rw [ints_length]; first | assumption | omega | simp [*])) | simp [*]) ?_) | refine vd_one rfl (by kernel_rfl) (by kernel_rfl) rfl ?_)
      have hs2 : IsSch k (reord rs1 l2) := reord_sch hs1 (by rw [hO2.len]; exact hl2) (ord_in hO2)
      have h142 : ∀ r ∈ reord rs1 l2, r.length = 14 := reord14 h141 (ord_in hO2)
      show VWr _ _ _ _ _ _ _ _
      refine vw_le (own' := Src b a cs.length cap i' h' ++ (newN ++ [(b3, ⟨[.int .i64 k, .slice p (reord rs1 l2).length cp], 32, 2, none⟩), (b2, ⟨[.int .i64 0, .slice none 0 0], 32, 2, none⟩)])) (by repeat (first | exact ole_nil | exact ole_refl | (apply ole_cons; (repeat (first | exact pm1_here | apply pm1_next | apply pm1_past))) | (apply ole_app; (repeat (first | exact pm_here | exact pm_last | apply pm_next | apply pm_past))))) ?_
      refine vw_nodup (fun hnd => ?_)
      repeat (first | refine vops_nil ?_ | refine vw_seq ?_ | refine vw_region (by kernel_rfl) ?_ | refine vw_ret ?_ | ((show VOps _ _ _ _ (⟨some _, Go.Op.load _ _, _, _, _, none⟩ :: _) _ _); refine vops_loadNM tyOk rfl rfl rfl (by repeat (first | exact mem_here | apply mem_next | apply mem_past)) (by first | rfl | (rw [ints_length]; first | assumption | omega | (rw [ints_length]; first | assumption | omega | simp [*])) | simp [*]) ?_) | ((show VOps _ _ _ _ (⟨none, Go.Op.store _ _ _, _, _, _, none⟩ :: _) _ _); refine vops_storeAM tyOk rfl rfl rfl (by first | rfl | (rw [ints_length]; first | assumption | omega | (rw [ints_length]; first | assumption | omega | simp [*])) | simp [*]) (by first | exact ints_one | simp [Value.oneCell']) (by repeat (first | exact upd_here | apply upd_next | apply upd_past)) (by first | rfl | (rw [ints_length]; first | assumption | omega | (rw [ints_length]; first | assumption | omega | simp [*])) | simp [*]) ?_))
      refine ⟨_, Src b a cs.length cap i' h' ++ newN, rv_cell (cs := [.int .i64 k, .slice p (reord rs1 l2).length cp]) tyOk rfl rfl rfl rfl rfl (fun j v hj => by rw [Nat.zero_add]; exact sees_mem (by repeat (first | exact mem_here | apply mem_next | apply mem_past)) hj), ?_, ?_, k, (reord rs1 l2), p, cp, newN, i', h', hs2, h142, rfl, hN, hi1, hi2, hh1, hh2, rfl⟩
      · exact nodup_sub hnd ((List.sublist_append_left _ _).append_left _)
      · exact fun q hq => by rw [← List.append_assoc]; exact List.mem_append_left _ hq
    · show VWr _ _ _ _ _ _ _ _
      refine vw_le (own' := Src b a cs.length cap i' h' ++ (newN ++ [(b3, ⟨[.int .i64 k, .slice p rs1.length cp], 32, 2, none⟩), (b2, ⟨[.int .i64 0, .slice none 0 0], 32, 2, none⟩)])) (by repeat (first | exact ole_nil | exact ole_refl | (apply ole_cons; (repeat (first | exact pm1_here | apply pm1_next | apply pm1_past))) | (apply ole_app; (repeat (first | exact pm_here | exact pm_last | apply pm_next | apply pm_past))))) ?_
      refine vw_nodup (fun hnd => ?_)
      repeat (first | refine vops_nil ?_ | refine vw_seq ?_ | refine vw_region (by kernel_rfl) ?_ | refine vw_skip ?_ | refine vw_ret ?_ | ((show VOps _ _ _ _ (⟨some _, Go.Op.load _ _, _, _, _, none⟩ :: _) _ _); refine vops_loadNM tyOk rfl rfl rfl (by repeat (first | exact mem_here | apply mem_next | apply mem_past)) (by first | rfl | (rw [ints_length]; first | assumption | omega | (rw [ints_length]; first | assumption | omega | simp [*])) | simp [*]) ?_) | ((show VOps _ _ _ _ (⟨none, Go.Op.store _ _ _, _, _, _, none⟩ :: _) _ _); refine vops_storeAM tyOk rfl rfl rfl (by first | rfl | (rw [ints_length]; first | assumption | omega | (rw [ints_length]; first | assumption | omega | simp [*])) | simp [*]) (by first | exact ints_one | simp [Value.oneCell']) (by repeat (first | exact upd_here | apply upd_next | apply upd_past)) (by first | rfl | (rw [ints_length]; first | assumption | omega | (rw [ints_length]; first | assumption | omega | simp [*])) | simp [*]) ?_))
      refine ⟨_, Src b a cs.length cap i' h' ++ newN, rv_cell (cs := [.int .i64 k, .slice p rs1.length cp]) tyOk rfl rfl rfl rfl rfl (fun j v hj => by rw [Nat.zero_add]; exact sees_mem (by repeat (first | exact mem_here | apply mem_next | apply mem_past)) hj), ?_, ?_, k, rs1, p, cp, newN, i', h', hs1, h141, rfl, hN, hi1, hi2, hh1, hh2, rfl⟩
      · exact nodup_sub hnd ((List.sublist_append_left _ _).append_left _)
      · exact fun q hq => by rw [← List.append_assoc]; exact List.mem_append_left _ hq
  · show VWr _ _ _ _ _ _ _ _
    refine vw_le (own' := Src b a cs.length cap i' h' ++ (newN ++ [(b3, ⟨[.int .i64 k, .slice p rs.length cp], 32, 2, none⟩), (b2, ⟨[.int .i64 0, .slice none 0 0], 32, 2, none⟩)])) (by repeat (first | exact ole_nil | exact ole_refl | (apply ole_cons; (repeat (first | exact pm1_here | apply pm1_next | apply pm1_past))) | (apply ole_app; (repeat (first | exact pm_here | exact pm_last | apply pm_next | apply pm_past))))) ?_
    have hl2 : rs.length ≤ 40 := hsch.2.2.1
    repeat (first | refine vops_q tyOk rfl ?_ | refine vops_nil ?_ | refine vw_seq ?_ | refine vw_region (by kernel_rfl) ?_ | refine vw_cond rfl ?_ | refine vw_skip ?_ | (apply vops_callM ent123 rfl; (case h => (intro w' hg; exact c_next (hC.at (cap := cap) hg hi1 hi2 hh1 hh2) (by omega))); (case hp => (repeat (first | exact pm_here | exact pm_last | apply pm_next | apply pm_past))); (rintro _ newM ⟨x, rfl, hx0, hx1, i', h', hi1, hi2, hh1, hh2, rfl⟩)))
    refine bs_dec (fun hz => ?_) (fun hz => ?_)
    · skip
      refine vw_drawB [(b3, _)] [0, 1, 2, 3, 4, 5, 6, 7] (by kernel_rfl) (by kernel_rfl) (by kernel_rfl) rfl (by repeat (first | exact ole_nil | exact ole_refl | (apply ole_cons; (repeat (first | exact pm1_here | apply pm1_next | apply pm1_past))) | (apply ole_app; (repeat (first | exact pm_here | exact pm_last | apply pm_next | apply pm_past))))) ?_
      repeat' (first | refine vd_q tyOk rfl (by first | trivial | rfl) rfl (by kernel_rfl) (by kernel_rfl) ?_ | refine vops_nil ?_ | refine vd_nil (by kernel_rfl) ?_ | refine ⟨fun _ _ _ h => List.mem_append_right _ h, ?_⟩ | refine vd_load tyOk rfl (by first | trivial | rfl) rfl rfl rfl (by kernel_rfl) (by kernel_rfl) (by kernel_rfl) (sees_mem (by repeat (first | exact mem_here | apply mem_next | apply mem_past)) (by rfl)) (by repeat (first | exact sub_hereL | exact sub_refl | apply sub_cons | apply sub_app)) ?_ | refine vd_loadNM tyOk rfl (by first | trivial | rfl) rfl rfl rfl (by repeat (first | exact mem_here | apply mem_next | apply mem_past)) (by first | rfl | (rw [ints_length]; first | assumption | omega | (rw [ints_length]; first | assumption | omega | simp [*])) | simp [*]) (by kernel_rfl) (by kernel_rfl) (by kernel_rfl) (by repeat (first | exact sub_hereL | exact sub_refl | apply sub_cons | apply sub_app)) ?_ | refine ⟨fun h => Bool.noConfusion (show false = true from h), ?_⟩ | refine ⟨fun _ p hp _ => (show Go.VL.Sub _ _ from (by repeat (first | exact sub_hereL | exact sub_refl | apply sub_cons | apply sub_app))) p hp, ?_⟩ | (apply vops_callM ent122 rfl; (case h => (intro w' hg; exact c_order (cap := cap) (n := rs.length) hC hg hi1 hi2 hh1 hh2 (by omega))); (case hp => (repeat (first | exact pm_here | exact pm_last | apply pm_next | apply pm_past))); (rintro _ newM ⟨l2, pl2, cl2, newl2, i', h', rfl, hO2, hNl2, hi1, hi2, hh1, hh2, rfl⟩)) | (apply vops_call ent114 rfl; (intro w' hg; exact c_l01Reordered (k : Int) _ _ rs l2 w' (NewR.see (by assumption) (by repeat (first | exact sub_hereL | exact sub_refl | apply sub_cons | apply sub_app)) _ hg) (NewI.see (by assumption) (by repeat (first | exact sub_hereL | exact sub_refl | apply sub_cons | apply sub_app)) _ hg) h14 (by omega) (ord_le hO2 (by omega)) (ord_in hO2)); (rintro _ newN ⟨p, cp, rfl, hN⟩)) | ((show VOps _ _ _ _ (⟨none, Go.Op.store _ _ _, _, _, _, none⟩ :: _) _ _); refine vops_storeAM tyOk rfl rfl rfl (by first | rfl | (rw [ints_length]; first | assumption | omega | (rw [ints_length]; first | assumption | omega | simp [*])) | simp [*]) (by first | exact ints_one | simp [Value.oneCell']) (by repeat (first | exact upd_here | apply upd_next | apply upd_past)) (by first | rfl | (rw [ints_length]; first | assumption | omega | (rw [ints_length]; first | assumption | omega | simp [*])) | simp [*]) ?_) | refine vd_one rfl (by kernel_rfl) (by kernel_rfl) rfl ?_)
      have hs2 : IsSch k (reord rs l2) := reord_sch hsch (by rw [hO2.len]; exact hl2) (ord_in hO2)
      have h142 : ∀ r ∈ reord rs l2, r.length = 14 := reord14 h14 (ord_in hO2)
      show VWr _ _ _ _ _ _ _ _
      refine vw_le (own' := Src b a cs.length cap i' h' ++ (newN ++ [(b3, ⟨[.int .i64 k, .slice p (reord rs l2).length cp], 32, 2, none⟩), (b2, ⟨[.int .i64 0, .slice none 0 0], 32, 2, none⟩)])) (by repeat (first | exact ole_nil | exact ole_refl | (apply ole_cons; (repeat (first | exact pm1_here | apply pm1_next | apply pm1_past))) | (apply ole_app; (repeat (first | exact pm_here | exact pm_last | apply pm_next | apply pm_past))))) ?_
      refine vw_nodup (fun hnd => ?_)
      repeat (first | refine vops_nil ?_ | refine vw_seq ?_ | refine vw_region (by kernel_rfl) ?_ | refine vw_ret ?_ | ((show VOps _ _ _ _ (⟨some _, Go.Op.load _ _, _, _, _, none⟩ :: _) _ _); refine vops_loadNM tyOk rfl rfl rfl (by repeat (first | exact mem_here | apply mem_next | apply mem_past)) (by first | rfl | (rw [ints_length]; first | assumption | omega | (rw [ints_length]; first | assumption | omega | simp [*])) | simp [*]) ?_) | ((show VOps _ _ _ _ (⟨none, Go.Op.store _ _ _, _, _, _, none⟩ :: _) _ _); refine vops_storeAM tyOk rfl rfl rfl (by first | rfl | (rw [ints_length]; first | assumption | omega | (rw [ints_length]; first | assumption | omega | simp [*])) | simp [*]) (by first | exact ints_one | simp [Value.oneCell']) (by repeat (first | exact upd_here | apply upd_next | apply upd_past)) (by first | rfl | (rw [ints_length]; first | assumption | omega | (rw [ints_length]; first | assumption | omega | simp [*])) | simp [*]) ?_))
      refine ⟨_, Src b a cs.length cap i' h' ++ newN, rv_cell (cs := [.int .i64 k, .slice p (reord rs l2).length cp]) tyOk rfl rfl rfl rfl rfl (fun j v hj => by rw [Nat.zero_add]; exact sees_mem (by repeat (first | exact mem_here | apply mem_next | apply mem_past)) hj), ?_, ?_, k, (reord rs l2), p, cp, newN, i', h', hs2, h142, rfl, hN, hi1, hi2, hh1, hh2, rfl⟩
      · exact nodup_sub hnd ((List.sublist_append_left _ _).append_left _)
      · exact fun q hq => by rw [← List.append_assoc]; exact List.mem_append_left _ hq
    · show VWr _ _ _ _ _ _ _ _
      refine vw_le (own' := Src b a cs.length cap i' h' ++ (newN ++ [(b3, ⟨[.int .i64 k, .slice p rs.length cp], 32, 2, none⟩), (b2, ⟨[.int .i64 0, .slice none 0 0], 32, 2, none⟩)])) (by repeat (first | exact ole_nil | exact ole_refl | (apply ole_cons; (repeat (first | exact pm1_here | apply pm1_next | apply pm1_past))) | (apply ole_app; (repeat (first | exact pm_here | exact pm_last | apply pm_next | apply pm_past))))) ?_
      refine vw_nodup (fun hnd => ?_)
      repeat (first | refine vops_nil ?_ | refine vw_seq ?_ | refine vw_region (by kernel_rfl) ?_ | refine vw_skip ?_ | refine vw_ret ?_ | ((show VOps _ _ _ _ (⟨some _, Go.Op.load _ _, _, _, _, none⟩ :: _) _ _); refine vops_loadNM tyOk rfl rfl rfl (by repeat (first | exact mem_here | apply mem_next | apply mem_past)) (by first | rfl | (rw [ints_length]; first | assumption | omega | (rw [ints_length]; first | assumption | omega | simp [*])) | simp [*]) ?_) | ((show VOps _ _ _ _ (⟨none, Go.Op.store _ _ _, _, _, _, none⟩ :: _) _ _); refine vops_storeAM tyOk rfl rfl rfl (by first | rfl | (rw [ints_length]; first | assumption | omega | (rw [ints_length]; first | assumption | omega | simp [*])) | simp [*]) (by first | exact ints_one | simp [Value.oneCell']) (by repeat (first | exact upd_here | apply upd_next | apply upd_past)) (by first | rfl | (rw [ints_length]; first | assumption | omega | (rw [ints_length]; first | assumption | omega | simp [*])) | simp [*]) ?_))
      refine ⟨_, Src b a cs.length cap i' h' ++ newN, rv_cell (cs := [.int .i64 k, .slice p rs.length cp]) tyOk rfl rfl rfl rfl rfl (fun j v hj => by rw [Nat.zero_add]; exact sees_mem (by repeat (first | exact mem_here | apply mem_next | apply mem_past)) hj), ?_, ?_, k, rs, p, cp, newN, i', h', hsch, h14, rfl, hN, hi1, hi2, hh1, hh2, rfl⟩
      · exact nodup_sub hnd ((List.sublist_append_left _ _).append_left _)
      · exact fun q hq => by rw [← List.append_assoc]; exact List.mem_append_left _ hq
end Go.Proofs.Ytlfflmoegfibgaa

