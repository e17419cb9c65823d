import Derived.Test.YtbnanjkhpeneeaaP39
import Derived.Test.YtbnanjkhpeneeaaSE
import Derived.Test.YtbnanjkhpeneeaaVLArr
/- A part of the proof: P40. No conditions of its own. -/
namespace Go.Proofs.Ytbnanjkhpeneeaa
open Go.VL
attribute [local irreducible] VWr VOps VD Calls

open Classical in
/-- The components of two rounds. -/
noncomputable def compsOf (n : Int) (r q : List Int) : List (List Int) × Int := if IsRd n r ∧ IsRd n q then (comps n r q n.toNat, 0) else ([], 2)
theorem compsOf_ok (n : Int) (r q : List Int) : (compsOf n r q).1.length ≤ 1048576 ∧ (∀ l ∈ (compsOf n r q).1, l.length ≤ 1048576) ∧ sumLen (compsOf n r q).1 ≤ 1048576 := by
  unfold compsOf
  split
  · rename_i h
    have h14 := h.1.2.1
    have h1 := comps_length n r q n.toNat
    have h2 : ∀ l ∈ comps n r q n.toNat, l.length ≤ 14 := fun l hl => by
      obtain ⟨a, _, rfl⟩ := comps_mem hl
      have := compOf_length n r q a
      omega
    refine ⟨by show (comps n r q n.toNat).length ≤ _; omega, fun l hl => by have := h2 l hl; omega, ?_⟩
    show sumLen (comps n r q n.toNat) ≤ _
    have h3 : ∀ ls : List (List Int), (∀ l ∈ ls, l.length ≤ 14) → sumLen ls ≤ ls.length * 14 := by
      intro ls
      induction ls with
      | nil => intro _; simp [sumLen]
      | cons l ls ih =>
        intro hh
        have a1 := hh l List.mem_cons_self
        have a2 := ih fun x hx => hh x (List.mem_cons_of_mem _ hx)
        have e : sumLen (l :: ls) = l.length + sumLen ls := by simp [sumLen]
        rw [e, List.length_cons]; omega
    have := h3 _ h2
    omega
  · simp [sumLen]

open Classical in
set_option maxHeartbeats 1000000 in
set_option maxRecDepth 100000 in
theorem c_impl_ComponentsOf (n : Int) (r q : List Int) (hrl : r.length = 14) (hql : q.length = 14) (w : World) :
    Calls Try.prog 13 [.int .i64 n, .agg (ints r).toArray, .agg (ints q).toArray].toArray w (Res w (PairLL 32 2 (compsOf n r q))) := by
  refine calls_of_vw Try.func13 rfl Try.ntmps13 (by simp) ?_
  refine vw_seq (vw_region (by kernel_rfl) (vops_box (ints r) rfl (fun b4 hb4 => ?_)))
  refine vops_box (ints q) rfl (fun b5 hb5 => ?_)
  by_cases h : IsRd n r ∧ IsRd n q
  · have hn := h.1.1
    obtain ⟨k, rfl⟩ : ∃ k : Nat, n = k := ⟨n.toNat, by omega⟩
    have hT1 : ∀ w', Calls Try.prog 53 [.int .i64 k, .agg (ints r).toArray].toArray w' (Res w' (Is (.bool true))) := fun w' => by
      have := c_IsRound k r hrl w'; rwa [decide_eq_true h.1] at this
    have hT2 : ∀ w', Calls Try.prog 53 [.int .i64 k, .agg (ints q).toArray].toArray w' (Res w' (Is (.bool true))) := fun w' => by
      have := c_IsRound k q hql w'; rwa [decide_eq_true h.2] at this
    have hgood : compsOf k r q = (comps k r q k, 0) := by rw [compsOf, if_pos h, Int.toNat_natCast]
    repeat (first | refine vops_q tyOk rfl ?_ | refine vops_nil ?_ | refine vw_seq ?_ | refine vw_region (by kernel_rfl) ?_ | refine vops_guardT rfl rfl ?_ | refine vops_guardF rfl rfl ?_ | refine vops_guardU rfl rfl ?_ | with_reducible refine bs_nbeq rfl ?_ | with_reducible refine bs_true ?_ | with_reducible refine bs_false ?_ | with_reducible refine bs_ntrue ?_ | with_reducible refine bs_nfalse ?_ | refine vops_p tyOk rfl (by (try simp only [inR]); omega) ?_ | refine vw_cond rfl ?_ | refine vw_skip ?_ | refine vw_block ?_ | refine vw_ret ?_ | refine vw_exit ?_ | refine vops_loadNM tyOk rfl rfl rfl (by repeat (first | exact mem_here | apply mem_next | apply mem_past)) (by rw [ints_length]; first | exact hrl | exact hql) ?_ | (apply vops_callp ent53 rfl; (intro w' hg; exact hT1 w')) | (apply vops_callp ent53 rfl; (intro w' hg; exact hT2 w')) | refine vops_loadM tyOk rfl rfl rfl (by repeat (first | exact mem_here | apply mem_next | apply mem_past)) (by rfl) ?_ | refine vops_loadM tyOk rfl rfl rfl (by repeat (first | exact mem_here | apply mem_next | apply mem_past)) (by exact ints_get0 (by omega)) ?_ | refine vops_loadNM tyOk rfl rfl rfl (by repeat (first | exact mem_here | apply mem_next | apply mem_past)) (by first | rfl | (rw [ints_length]; first | assumption | omega | (rw [ints_length]; first | assumption | omega | simp [*])) | simp [*]) ?_ | refine vops_storeIM tyOk rfl rfl rfl rfl (by repeat (first | exact upd_here | apply upd_next | apply upd_past)) (by omega) ?_ | refine vops_storeM tyOk rfl rfl rfl rfl rfl (by repeat (first | exact upd_here | apply upd_next | apply upd_past)) (by simp) ?_ | refine vops_storeAM tyOk rfl rfl rfl (by first | rfl | (rw [ints_length]; first | assumption | omega | (rw [ints_length]; first | assumption | omega | simp [*])) | simp [*]) (by first | exact ints_one | simp [Value.oneCell']) (by repeat (first | exact upd_here | apply upd_next | apply upd_past)) (by first | rfl | (rw [ints_length]; first | assumption | omega | (rw [ints_length]; first | assumption | omega | simp [*])) | simp [*]) ?_ | refine vops_build2 rfl rfl (by kernel_rfl) ?_ | refine vops_buildZ tyOk rfl (by kernel_rfl) ?_ | refine vops_slice tyOk rfl rfl rfl rfl rfl (by omega) ?_)
    apply vops_call ent54 rfl
    · intro w' hg; exact c_joinedTeams k r q h.1 h.2 hrl hql w'
    rintro _ newN ⟨vs, ns, outer, hR, hO, rfl⟩
    obtain ⟨p, cp, rfl⟩ := hO.form
    refine vops_nodup (fun hnd => ?_)
    repeat (first | refine vops_q tyOk rfl ?_ | refine vops_nil ?_ | refine vw_seq ?_ | refine vw_region (by kernel_rfl) ?_ | refine vops_guardT rfl rfl ?_ | refine vops_guardF rfl rfl ?_ | refine vops_guardU rfl rfl ?_ | with_reducible refine bs_nbeq rfl ?_ | with_reducible refine bs_true ?_ | with_reducible refine bs_false ?_ | with_reducible refine bs_ntrue ?_ | with_reducible refine bs_nfalse ?_ | refine vops_p tyOk rfl (by (try simp only [inR]); omega) ?_ | refine vw_cond rfl ?_ | refine vw_skip ?_ | refine vw_block ?_ | refine vw_ret ?_ | refine vw_exit ?_ | refine vops_loadM tyOk rfl rfl rfl (by repeat (first | exact mem_here | apply mem_next | apply mem_past)) (by rfl) ?_ | refine vops_loadM tyOk rfl rfl rfl (by repeat (first | exact mem_here | apply mem_next | apply mem_past)) (by exact ints_get0 (by omega)) ?_ | refine vops_loadNM tyOk rfl rfl rfl (by repeat (first | exact mem_here | apply mem_next | apply mem_past)) (by first | rfl | (rw [ints_length]; first | assumption | omega | (rw [ints_length]; first | assumption | omega | simp [*])) | simp [*]) ?_ | refine vops_storeIM tyOk rfl rfl rfl rfl (by repeat (first | exact upd_here | apply upd_next | apply upd_past)) (by omega) ?_ | refine vops_storeM tyOk rfl rfl rfl rfl rfl (by repeat (first | exact upd_here | apply upd_next | apply upd_past)) (by simp) ?_ | refine vops_storeAM tyOk rfl rfl rfl (by first | rfl | (rw [ints_length]; first | assumption | omega | (rw [ints_length]; first | assumption | omega | simp [*])) | simp [*]) (by first | exact ints_one | simp [Value.oneCell']) (by repeat (first | exact upd_here | apply upd_next | apply upd_past)) (by first | rfl | (rw [ints_length]; first | assumption | omega | (rw [ints_length]; first | assumption | omega | simp [*])) | simp [*]) ?_ | refine vops_build2 rfl rfl (by kernel_rfl) ?_ | refine vops_buildZ tyOk rfl (by kernel_rfl) ?_ | refine vops_slice tyOk rfl rfl rfl rfl rfl (by omega) ?_)
    exact pairLL_ok rfl rfl rfl hR hO rfl (nodup_sub hnd (List.sublist_append_left _ _)) (fun x hx => List.mem_append_left _ hx) hgood
  · have he : compsOf n r q = ([], 2) := by rw [compsOf, if_neg h]
    repeat' (first | refine vops_q tyOk rfl ?_ | refine vops_nil ?_ | refine vw_seq ?_ | refine vw_region (by kernel_rfl) ?_ | refine vops_guardT rfl rfl ?_ | refine vops_guardF rfl rfl ?_ | refine vops_guardU rfl rfl ?_ | with_reducible refine bs_nbeq rfl ?_ | with_reducible refine bs_true ?_ | with_reducible refine bs_false ?_ | with_reducible refine bs_ntrue ?_ | with_reducible refine bs_nfalse ?_ | refine vops_p tyOk rfl (by (try simp only [inR]); omega) ?_ | refine vw_cond rfl ?_ | refine vw_skip ?_ | refine vw_block ?_ | refine vw_ret ?_ | refine vw_exit ?_ | (with_reducible refine bs_dec (fun _ => ?_) (fun _ => ?_)) <;> try (exfalso; omega) | (with_reducible refine bs_ndec (fun _ => ?_) (fun _ => ?_)) <;> try (exfalso; omega) | with_reducible refine bs_nany (fun _ => ?_) (fun _ => ?_) | with_reducible refine bs_any (fun _ => ?_) (fun _ => ?_) | refine vops_loadNM tyOk rfl rfl rfl (by repeat (first | exact mem_here | apply mem_next | apply mem_past)) (by rw [ints_length]; first | exact hrl | exact hql) ?_ | (apply vops_callp ent53 rfl; (intro w _; exact c_IsRound _ _ hrl w)) | (apply vops_callp ent53 rfl; (intro w _; exact c_IsRound _ _ hql w)) | refine vops_loadM tyOk rfl rfl rfl (by repeat (first | exact mem_here | apply mem_next | apply mem_past)) (by rfl) ?_ | refine vops_loadM tyOk rfl rfl rfl (by repeat (first | exact mem_here | apply mem_next | apply mem_past)) (by exact ints_get0 (by omega)) ?_ | refine vops_loadNM tyOk rfl rfl rfl (by repeat (first | exact mem_here | apply mem_next | apply mem_past)) (by first | rfl | (rw [ints_length]; first | assumption | omega | (rw [ints_length]; first | assumption | omega | simp [*])) | simp [*]) ?_ | refine vops_storeIM tyOk rfl rfl rfl rfl (by repeat (first | exact upd_here | apply upd_next | apply upd_past)) (by omega) ?_ | refine vops_storeM tyOk rfl rfl rfl rfl rfl (by repeat (first | exact upd_here | apply upd_next | apply upd_past)) (by simp) ?_ | refine vops_storeAM tyOk rfl rfl rfl (by first | rfl | (rw [ints_length]; first | assumption | omega | (rw [ints_length]; first | assumption | omega | simp [*])) | simp [*]) (by first | exact ints_one | simp [Value.oneCell']) (by repeat (first | exact upd_here | apply upd_next | apply upd_past)) (by first | rfl | (rw [ints_length]; first | assumption | omega | (rw [ints_length]; first | assumption | omega | simp [*])) | simp [*]) ?_ | refine vops_build2 rfl rfl (by kernel_rfl) ?_ | refine vops_buildZ tyOk rfl (by kernel_rfl) ?_ | refine vops_slice tyOk rfl rfl rfl rfl rfl (by omega) ?_)
    all_goals first
      | exact pairLL_err rfl rfl rfl he
      | (exfalso; apply h; exact ⟨by assumption, by assumption⟩)

open Classical in
set_option maxHeartbeats 2000000 in
set_option maxRecDepth 100000 in
theorem c_spec_ComponentsOf (n : Int) (r q : List Int) (hrl : r.length = 14) (hql : q.length = 14) (w : World) :
    Calls Try.prog 14 [.int .i64 n, .agg (ints r).toArray, .agg (ints q).toArray].toArray w (Res w (PairLL 32 2 (compsOf n r q))) := by
  refine calls_of_vw Try.func14 rfl Try.ntmps14 (by simp) ?_
  refine vw_seq (vw_region (by kernel_rfl) (vops_box (ints r) rfl (fun b5 hb5 => ?_)))
  refine vops_box (ints q) rfl (fun b6 hb6 => ?_)
  by_cases h12 : (2 ≤ n ∧ n ≤ 14) ∧ ∀ r' ∈ [r, q], IsRd n r'
  case neg =>
    have he : compsOf n r q = ([], 2) := by rw [compsOf, if_neg fun hh => h12 ⟨⟨hh.1.1, hh.1.2.1⟩, fun r' hr' => by
      rcases List.mem_cons.1 hr' with rfl | hr'
      · exact hh.1
      · have : r' = q := by simpa using hr'
        rw [this]; exact hh.2⟩]
    have hC : ∀ w' v, RdS w' v [r, q] → Calls Try.prog 55 [.int .i64 n, v].toArray w' (Res w' (Is (.int .i64 2))) := fun w' v hv => by
      have := c_l02Rounds n v [r, q] w' hv (by simp [hrl, hql]) (by simp); rwa [roundsCode, if_neg h12] at this
    repeat (first | refine vops_q tyOk rfl ?_ | refine vops_nil ?_ | refine vw_seq ?_ | refine vw_region (by kernel_rfl) ?_ | refine vops_guardT rfl rfl ?_ | refine vops_guardF rfl rfl ?_ | refine vops_guardU rfl rfl ?_ | with_reducible refine bs_nbeq rfl ?_ | with_reducible refine bs_true ?_ | with_reducible refine bs_false ?_ | with_reducible refine bs_ntrue ?_ | with_reducible refine bs_nfalse ?_ | refine vops_p tyOk rfl (by (try simp only [inR]); omega) ?_ | refine vw_cond rfl ?_ | refine vw_skip ?_ | refine vw_block ?_ | refine vw_ret ?_ | refine vw_exit ?_ | refine vops_loadNM tyOk rfl rfl rfl (by repeat (first | exact mem_here | apply mem_next | apply mem_past)) (by rw [ints_length]; first | exact hrl | exact hql) ?_ | refine vops_litR2 tyOk rfl rfl (List.cons_ne_nil _ _) rfl rfl hrl hql rfl (fun bq hbq => ?_) | (apply vops_callp ent55 rfl; (intro w' hg; exact hC w' _ (rds_two (by repeat (first | exact mem_here | apply mem_next | apply mem_past)) hg))) | refine bs_dec (fun _ => ?_) (fun hh => absurd rfl hh) | refine bs_dec (fun hh => absurd hh (by decide)) (fun _ => ?_) | refine bs_ndec2 (fun hh => absurd rfl hh) (fun _ => ?_) | refine bs_ndec2 (fun _ => ?_) (fun hh => absurd hh (by decide)) | refine vops_loadM tyOk rfl rfl rfl (by repeat (first | exact mem_here | apply mem_next | apply mem_past)) (by rfl) ?_ | refine vops_loadM tyOk rfl rfl rfl (by repeat (first | exact mem_here | apply mem_next | apply mem_past)) (by exact ints_get0 (by omega)) ?_ | refine vops_loadNM tyOk rfl rfl rfl (by repeat (first | exact mem_here | apply mem_next | apply mem_past)) (by first | rfl | (rw [ints_length]; first | assumption | omega | (rw [ints_length]; first | assumption | omega | simp [*])) | simp [*]) ?_ | refine vops_storeIM tyOk rfl rfl rfl rfl (by repeat (first | exact upd_here | apply upd_next | apply upd_past)) (by omega) ?_ | refine vops_storeM tyOk rfl rfl rfl rfl rfl (by repeat (first | exact upd_here | apply upd_next | apply upd_past)) (by simp) ?_ | refine vops_storeAM tyOk rfl rfl rfl (by first | rfl | (rw [ints_length]; first | assumption | omega | (rw [ints_length]; first | assumption | omega | simp [*])) | simp [*]) (by first | exact ints_one | simp [Value.oneCell']) (by repeat (first | exact upd_here | apply upd_next | apply upd_past)) (by first | rfl | (rw [ints_length]; first | assumption | omega | (rw [ints_length]; first | assumption | omega | simp [*])) | simp [*]) ?_ | refine vops_build2 rfl rfl (by kernel_rfl) ?_ | refine vops_buildZ tyOk rfl (by kernel_rfl) ?_ | refine vops_slice tyOk rfl rfl rfl rfl rfl (by omega) ?_)
    exact pairLL_err rfl rfl rfl he
  have hr : IsRd n r := h12.2 r (by simp)
  have hq : IsRd n q := h12.2 q (by simp)
  have hn14 := hr.2.1
  have hn := hr.1
  have hC : ∀ w' v, RdS w' v [r, q] → Calls Try.prog 55 [.int .i64 n, v].toArray w' (Res w' (Is (.int .i64 0))) := fun w' v hv => by
    have := c_l02Rounds n v [r, q] w' hv (by simp [hrl, hql]) (by simp); rwa [roundsCode, if_pos h12] at this
  obtain ⟨k, rfl⟩ : ∃ k : Nat, n = k := ⟨n.toNat, by omega⟩
  have hgood : compsOf k r q = (comps k r q k, 0) := by rw [compsOf, if_pos ⟨hr, hq⟩, Int.toNat_natCast]
  repeat (first | refine vops_q tyOk rfl ?_ | refine vops_nil ?_ | refine vw_seq ?_ | refine vw_region (by kernel_rfl) ?_ | refine vops_guardT rfl rfl ?_ | refine vops_guardF rfl rfl ?_ | refine vops_guardU rfl rfl ?_ | with_reducible refine bs_nbeq rfl ?_ | with_reducible refine bs_true ?_ | with_reducible refine bs_false ?_ | with_reducible refine bs_ntrue ?_ | with_reducible refine bs_nfalse ?_ | refine vops_p tyOk rfl (by (try simp only [inR]); omega) ?_ | refine vw_cond rfl ?_ | refine vw_skip ?_ | refine vw_block ?_ | refine vw_ret ?_ | refine vw_exit ?_ | refine vops_loadNM tyOk rfl rfl rfl (by repeat (first | exact mem_here | apply mem_next | apply mem_past)) (by rw [ints_length]; first | exact hrl | exact hql) ?_ | refine vops_litR2 tyOk rfl rfl (List.cons_ne_nil _ _) rfl rfl hrl hql rfl (fun bq hbq => ?_) | (apply vops_callp ent55 rfl; (intro w' hg; exact hC w' _ (rds_two (by repeat (first | exact mem_here | apply mem_next | apply mem_past)) hg))) | refine bs_dec (fun _ => ?_) (fun hh => absurd rfl hh) | refine bs_dec (fun hh => absurd hh (by decide)) (fun _ => ?_) | refine bs_ndec2 (fun hh => absurd rfl hh) (fun _ => ?_) | refine bs_ndec2 (fun _ => ?_) (fun hh => absurd hh (by decide)) | refine vops_loadM tyOk rfl rfl rfl (by repeat (first | exact mem_here | apply mem_next | apply mem_past)) (by rfl) ?_ | refine vops_loadM tyOk rfl rfl rfl (by repeat (first | exact mem_here | apply mem_next | apply mem_past)) (by exact ints_get0 (by omega)) ?_ | refine vops_loadNM tyOk rfl rfl rfl (by repeat (first | exact mem_here | apply mem_next | apply mem_past)) (by first | rfl | (rw [ints_length]; first | assumption | omega | (rw [ints_length]; first | assumption | omega | simp [*])) | simp [*]) ?_ | refine vops_storeIM tyOk rfl rfl rfl rfl (by repeat (first | exact upd_here | apply upd_next | apply upd_past)) (by omega) ?_ | refine vops_storeM tyOk rfl rfl rfl rfl rfl (by repeat (first | exact upd_here | apply upd_next | apply upd_past)) (by simp) ?_ | refine vops_storeAM tyOk rfl rfl rfl (by first | rfl | (rw [ints_length]; first | assumption | omega | (rw [ints_length]; first | assumption | omega | simp [*])) | simp [*]) (by first | exact ints_one | simp [Value.oneCell']) (by repeat (first | exact upd_here | apply upd_next | apply upd_past)) (by first | rfl | (rw [ints_length]; first | assumption | omega | (rw [ints_length]; first | assumption | omega | simp [*])) | simp [*]) ?_ | refine vops_build2 rfl rfl (by kernel_rfl) ?_ | refine vops_buildZ tyOk rfl (by kernel_rfl) ?_ | refine vops_slice tyOk rfl rfl rfl rfl rfl (by omega) ?_)
  apply vops_call ent56 rfl
  · intro w' hg; exact c_l02Components k r q hr hq hrl hql w'
  rintro _ newN ⟨vs, ns, outer, hR, hO, rfl⟩
  obtain ⟨p, cp, rfl⟩ := hO.form
  refine vops_nodup (fun hnd => ?_)
  repeat (first | refine vops_q tyOk rfl ?_ | refine vops_nil ?_ | refine vw_seq ?_ | refine vw_region (by kernel_rfl) ?_ | refine vops_guardT rfl rfl ?_ | refine vops_guardF rfl rfl ?_ | refine vops_guardU rfl rfl ?_ | with_reducible refine bs_nbeq rfl ?_ | with_reducible refine bs_true ?_ | with_reducible refine bs_false ?_ | with_reducible refine bs_ntrue ?_ | with_reducible refine bs_nfalse ?_ | refine vops_p tyOk rfl (by (try simp only [inR]); omega) ?_ | refine vw_cond rfl ?_ | refine vw_skip ?_ | refine vw_block ?_ | refine vw_ret ?_ | refine vw_exit ?_ | refine vops_loadM tyOk rfl rfl rfl (by repeat (first | exact mem_here | apply mem_next | apply mem_past)) (by rfl) ?_ | refine vops_loadM tyOk rfl rfl rfl (by repeat (first | exact mem_here | apply mem_next | apply mem_past)) (by exact ints_get0 (by omega)) ?_ | refine vops_loadNM tyOk rfl rfl rfl (by repeat (first | exact mem_here | apply mem_next | apply mem_past)) (by first | rfl | (rw [ints_length]; first | assumption | omega | (rw [ints_length]; first | assumption | omega | simp [*])) | simp [*]) ?_ | refine vops_storeIM tyOk rfl rfl rfl rfl (by repeat (first | exact upd_here | apply upd_next | apply upd_past)) (by omega) ?_ | refine vops_storeM tyOk rfl rfl rfl rfl rfl (by repeat (first | exact upd_here | apply upd_next | apply upd_past)) (by simp) ?_ | refine vops_storeAM tyOk rfl rfl rfl (by first | rfl | (rw [ints_length]; first | assumption | omega | (rw [ints_length]; first | assumption | omega | simp [*])) | simp [*]) (by first | exact ints_one | simp [Value.oneCell']) (by repeat (first | exact upd_here | apply upd_next | apply upd_past)) (by first | rfl | (rw [ints_length]; first | assumption | omega | (rw [ints_length]; first | assumption | omega | simp [*])) | simp [*]) ?_ | refine vops_build2 rfl rfl (by kernel_rfl) ?_ | refine vops_buildZ tyOk rfl (by kernel_rfl) ?_ | refine vops_slice tyOk rfl rfl rfl rfl rfl (by omega) ?_)
  exact pairLL_ok rfl rfl rfl hR hO rfl (nodup_sub hnd (List.sublist_append_left _ _)) (fun x hx => List.mem_append_left _ hx) hgood
end Go.Proofs.Ytbnanjkhpeneeaa
