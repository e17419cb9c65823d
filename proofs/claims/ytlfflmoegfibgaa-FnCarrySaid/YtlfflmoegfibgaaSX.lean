import Derived.Test.YtlfflmoegfibgaaSA
import Derived.Test.YtlfflmoegfibgaaVLA
import Derived.Test.YtlfflmoegfibgaaVLAlloc
import Derived.Test.YtlfflmoegfibgaaVLLol
import Derived.Test.YtlfflmoegfibgaaVLRanF
import Derived.Test.YtlfflmoegfibgaaVLTable
/- Parts of the proof, one after another. No conditions of their own. -/
/- A part of the proof: P3. No conditions of its own. -/
namespace Go.Proofs.Ytlfflmoegfibgaa
open Go.VL
attribute [local irreducible] VWr VOps VD Calls

open Classical in
/-- The code of a schedule and the number of a round. -/
noncomputable def codeOf (n : Int) (rs : List (List Int)) (i : Int) : Int := if IsSch n rs then (if 0 ≤ i ∧ i < rs.length then 0 else 2) else 1
/-- The free teams of a round, as far as k. -/
def freeOf (r : List Int) (k : Nat) : List Int := collect (fun a => decide (r.getD a 0 = (a : Int))) (fun a => (a : Int)) k
open Classical in
noncomputable def freeTeams (n : Int) (rs : List (List Int)) (i : Int) : List Int × Int :=
  if IsSch n rs then (if 0 ≤ i ∧ i < rs.length then (freeOf (rs.getD i.toNat []) n.toNat, 0) else ([], 2)) else ([], 1)

end Go.Proofs.Ytlfflmoegfibgaa

/- A part of the proof: P7. No conditions of its own. -/
namespace Go.Proofs.Ytlfflmoegfibgaa
open Go.VL
attribute [local irreducible] VWr VOps VD Calls

/-- A new list of rounds, as a value. -/
def RsR (rs : List (List Int)) (u : Value) (new : Own) : Prop := ∃ p cap, u = .slice p rs.length cap ∧ NewR 50 14 rs (.slice p rs.length cap) new
set_option maxRecDepth 100000 in
theorem c_joinRounds (v u : Value) (rs qs : List (List Int)) (w : World) (hv : RdS w v rs) (hu : RdS w u qs) (hr : ∀ r ∈ rs, r.length = 14) (hq : ∀ r ∈ qs, r.length = 14) (hl : rs.length ≤ 1048576) (hl2 : qs.length ≤ 1048576) :
    Calls Try.prog 160 [v, u].toArray w (Res w (RsR (rs ++ qs))) := by
  obtain ⟨a, cap, rfl⟩ := hv.len
  obtain ⟨a2, cap2, rfl⟩ := hu.len
  refine calls_of_vw Try.func160 rfl Try.ntmps160 (by simp) ?_
  repeat (first | refine vops_q tyOk rfl ?_ | refine vops_nil ?_ | refine vw_seq ?_ | refine vw_region (by kernel_rfl) ?_ | refine vops_p tyOk rfl (by (try simp only [inR]); omega) ?_)
  refine vops_makeCap (k := 14) (n := rs.length + qs.length) tyOk rfl rfl (List.cons_ne_nil _ _) rfl rfl rfl (by omega) (by decide) (by omega) (fun b hb => ?_)
  have hN : NewF 50 14 0 [] (.slice (some ⟨b, 0, none⟩) 0 (rs.length + qs.length)) [(b, ⟨ints [], 50, (rs.length + qs.length) * 14, none⟩)] := NewF.mk rfl (by omega) (by simp only [maxLen]; omega)
  repeat (first | refine vops_q tyOk rfl ?_ | refine vops_nil ?_ | refine vw_seq ?_ | refine vw_region (by kernel_rfl) ?_)
  refine vops_appendL (k := 14) tyOk rfl rfl (List.cons_ne_nil _ _) rfl rfl (by decide) rfl hN (R := []) (by simp) rfl (fun w' hg => rdS_f (hv.same hg.fr) hr) (by omega) (fun p' cp' new' hN' => ?_)
  repeat (first | refine vops_q tyOk rfl ?_ | refine vops_nil ?_ | refine vw_seq ?_ | refine vw_region (by kernel_rfl) ?_)
  refine vops_appendL (k := 14) tyOk rfl rfl (List.cons_ne_nil _ _) rfl rfl (by decide) rfl hN' (R := []) (by simp) rfl (fun w' hg => rdS_f (hu.same hg.fr) hq) (by omega) (fun p2 cp2 new2 hN2 => ?_)
  repeat (first | refine vops_q tyOk rfl ?_ | refine vops_nil ?_ | refine vw_ret ?_)
  have hfin : NewR 50 14 (rs ++ qs) (.slice p2 (0 + rs.length + qs.length) cp2) new2 := NewF.r (m := 0) hN2 (by simp) (by simp)
  refine out1 rfl rfl (SlAt.nodup hfin) (by repeat (first | exact sub_hereL | exact sub_refl | apply sub_cons | apply sub_app)) ?_
  have he : 0 + rs.length + qs.length = (rs ++ qs).length := by simp
  rw [he] at hfin ⊢
  exact ⟨p2, cp2, rfl, hfin⟩

set_option maxRecDepth 100000 in
theorem c_l01Copy (n : Int) (v : Value) (rs : List (List Int)) (w : World) (hv : RdS w v rs) (hr : ∀ r ∈ rs, r.length = 14) (hl : rs.length ≤ 1048576) :
    Calls Try.prog 181 [.agg #[.int .i64 n, v]].toArray w (Res w (SchR n rs)) := by
  obtain ⟨a, cap, rfl⟩ := hv.len
  refine calls_of_vw Try.func181 rfl Try.ntmps181 (by simp) ?_
  refine vw_seq (vw_region (by kernel_rfl) (vops_box [.int .i64 n, .slice a rs.length cap] rfl (fun b0 hb0 => ?_)))
  repeat (first | refine vops_nil ?_ | refine vw_seq ?_ | refine vops_allocZ [.int .i64 0, .slice none 0 0] tyOk rfl rfl (by simp) (fun bz hbz => ?_))
  refine vw_draw [0, 1, 3, 4, 2, 5, 6, 7] (by kernel_rfl) (by kernel_rfl) (by kernel_rfl) rfl ?_
  repeat' (first | refine vd_q tyOk rfl (by first | trivial | rfl) rfl (by kernel_rfl) (by kernel_rfl) ?_ | refine vops_nil ?_ | refine ⟨fun _ _ _ h => List.mem_cons_of_mem _ h, ?_⟩ | refine vd_load tyOk rfl (by first | trivial | rfl) rfl rfl rfl (by kernel_rfl) (by kernel_rfl) (by kernel_rfl) (sees_mem (by repeat (first | exact mem_here | apply mem_next | apply mem_past)) (by rfl)) (by repeat (first | exact sub_hereL | exact sub_refl | apply sub_cons | apply sub_app)) ?_ | refine vops_build0 tyOk rfl rfl (fun be hbe => ?_) | refine vd_one rfl (by kernel_rfl) (by kernel_rfl) rfl ?_)
  refine vops_appendL (k := 14) tyOk rfl rfl (List.cons_ne_nil _ _) rfl rfl (by decide) rfl NewF.empty (by repeat (first | exact pm_here | exact pm_last | apply pm_next | apply pm_past)) rfl (fun w' hg => rdS_f (hv.same hg.fr) hr) (by omega) (fun p' cp' new' hN' => ?_)
  have hfin : NewR 50 14 rs (.slice p' (0 + rs.length) cp') new' := NewF.r (m := 0) hN' (by simp) (by simp)
  repeat' (first | refine vops_nil ?_ | refine vd_nil (by kernel_rfl) ?_ | refine vd_build2 rfl (by first | trivial | rfl) rfl rfl (by kernel_rfl) (by kernel_rfl) (by kernel_rfl) ?_ | refine ⟨fun h => Bool.noConfusion (show false = true from h), ?_⟩ | refine ⟨fun _ p hp _ => (show Go.VL.Sub _ _ from (by repeat (first | exact sub_hereL | exact sub_refl | apply sub_cons | apply sub_app))) p hp, ?_⟩ | ((show VOps _ _ _ _ (⟨none, Go.Op.store _ _ _, _, _, _, none⟩ :: _) _ _); refine vops_storeAM tyOk rfl rfl rfl (by first | rfl | (rw [ints_length]; first | assumption | omega | (rw [ints_length]; first | assumption | omega | simp [*])) | simp [*]) (by first | exact ints_one | simp [Value.oneCell']) (by repeat (first | exact upd_here | apply upd_next | apply upd_past)) (by first | rfl | (rw [ints_length]; first | assumption | omega | (rw [ints_length]; first | assumption | omega | simp [*])) | simp [*]) ?_) | refine vd_one rfl (by kernel_rfl) (by kernel_rfl) rfl ?_)
  repeat (first | refine vw_ret ?_)
  exact schG_ok tyOk rfl rfl rfl rfl rfl (by repeat (first | exact mem_here | apply mem_next | apply mem_past)) (by simp) hfin (by repeat (first | exact sub_hereL | exact sub_refl | apply sub_cons | apply sub_app)) rfl rfl

end Go.Proofs.Ytlfflmoegfibgaa

/- A part of the proof: P8. No conditions of its own. -/
namespace Go.Proofs.Ytlfflmoegfibgaa
open Go.VL
attribute [local irreducible] VWr VOps VD Calls

open Classical in
noncomputable def addRound (n : Int) (rs : List (List Int)) (r : List Int) : (Int × List (List Int)) × Int :=
  if IsSch n rs then (if IsRd n r then (if rs.length = 40 then ((0, []), 3) else ((n, rs ++ [r]), 0)) else ((0, []), 2)) else ((0, []), 1)
end Go.Proofs.Ytlfflmoegfibgaa

/- A part of the proof: P9. No conditions of its own. -/
namespace Go.Proofs.Ytlfflmoegfibgaa
open Go.VL
attribute [local irreducible] VWr VOps VD Calls

theorem take14 {rs : List (List Int)} (h : ∀ r ∈ rs, r.length = 14) (k l : Nat) : ∀ r ∈ (rs.take k).drop l, r.length = 14 := fun r hr => h r (List.mem_of_mem_take (List.mem_of_mem_drop hr))
open Classical in
noncomputable def dropRound (n : Int) (rs : List (List Int)) (i : Int) : (Int × List (List Int)) × Int :=
  if IsSch n rs then (if 0 ≤ i ∧ i < rs.length then ((n, (rs.take i.toNat).drop 0 ++ (rs.take rs.length).drop (i.toNat + 1)), 0) else ((0, []), 2)) else ((0, []), 1)
end Go.Proofs.Ytlfflmoegfibgaa

/- A part of the proof: P11. No conditions of its own. -/
namespace Go.Proofs.Ytlfflmoegfibgaa
open Go.VL
attribute [local irreducible] VWr VOps VD Calls

open Classical in
set_option maxHeartbeats 1000000 in
set_option maxRecDepth 100000 in
theorem c_isPermutation (v : Value) (l : List Int) (n : Int) (w : World) (hv : RdI w v l) (hl : l.length ≤ 1048576) (h0 : 0 ≤ n) (h1 : n ≤ 1048576) :
    Calls Try.prog 116 [v, .int .i64 n].toArray w (Res w (Is (.bool (decide (IsPerm n l))))) := by
  obtain ⟨a, cap, rfl⟩ := hv.len
  refine calls_of_vw Try.func116 rfl Try.ntmps116 (by simp) ?_
  repeat (first | refine vops_q tyOk rfl ?_ | refine vops_nil ?_ | refine vw_seq ?_ | refine vw_region (by kernel_rfl) ?_ | refine vw_cond rfl ?_)
  refine bs_ndec2 (fun h => ?_) (fun h => ?_)
  · repeat (first | refine vops_q tyOk rfl ?_ | refine vops_nil ?_ | refine vw_seq ?_ | refine vw_region (by kernel_rfl) ?_ | refine vw_ret ?_)
    exact rv_bool rfl rfl (decide_eq_false fun hh => h hh.1).symm
  obtain ⟨k, rfl⟩ : ∃ k : Nat, n = (k : Int) := ⟨n.toNat, by omega⟩
  repeat (first | refine vops_q tyOk rfl ?_ | refine vw_seq ?_ | refine vw_region (by kernel_rfl) ?_ | refine vw_skip ?_)
  refine vops_makeBools (n := k) tyOk rfl rfl rfl rfl rfl rfl rfl (by decide) (by omega) (fun b hb => ?_)
  repeat (first | refine vops_q tyOk rfl ?_ | refine vops_nil ?_ | refine vw_seq ?_ | refine vw_region (by kernel_rfl) ?_ | refine vw_block ?_)
  refine vw_loop (fun m f own => ∃ i : Nat, i ≤ l.length ∧ m = l.length - i ∧ f 16 = .int .i64 i ∧ f 15 = .int .i64 l.length ∧ f 14 = .slice a l.length cap ∧ f 1 = .int .i64 k ∧ f 5 = .slice (some ⟨b, 0, none⟩) k k ∧ own = [(b, ⟨bools (seenOf l i k), 4, k, none⟩)] ∧
      (∀ j : Nat, j < i → 0 ≤ l.getD j 0 ∧ l.getD j 0 < k) ∧ (l.take i).Nodup) l.length
    ⟨0, by omega, by omega, rfl, rfl, rfl, rfl, rfl, by rw [seenOf_zero], fun j hj => by omega, by simp⟩ ?_
  rintro m f own ⟨i, hi, rfl, h16, h15, h14, h1', h5, rfl, hall, hnd⟩
  rw [upd_of h16, upd_of h15, upd_of h14, upd_of h1', upd_of h5]
  repeat (first | refine vops_q tyOk rfl ?_ | refine vops_nil ?_ | refine vw_seq ?_ | refine vw_region (by kernel_rfl) ?_ | refine vw_cond rfl ?_)
  refine bs_dec (fun h4 => ?_) (fun h4 => ?_)
  · have hil : i < l.length := by omega
    obtain ⟨b', o, cap', he, hcell⟩ := hv.at (i := i) hil
    cases he
    have hc := hcell i hil
    repeat (first | refine vops_q tyOk rfl ?_ | refine vops_nil ?_ | refine vw_seq ?_ | refine vw_region (by kernel_rfl) ?_ | refine vops_guardF rfl rfl ?_ | refine vops_p tyOk rfl (by (try simp only [inR]); omega) ?_ | refine vw_skip ?_ | refine vw_block ?_ | refine vops_load tyOk rfl rfl rfl (sees_old hc (by simp)) ?_ | (apply vops_callp ent91 rfl; (intro w _; exact c_isBelow _ _ w)))
    refine bs_ndec2 (fun h6 => ?_) (fun h6 => ?_)
    · repeat (first | refine vops_q tyOk rfl ?_ | refine vops_nil ?_ | refine vw_seq ?_ | refine vw_region (by kernel_rfl) ?_ | refine vops_guardF rfl rfl ?_ | with_reducible refine bs_true ?_ | refine vw_cond rfl ?_ | refine vw_ret ?_)
      exact rv_bool rfl rfl (decide_eq_false fun hh => h6 (hh.2.1 _ (mem_getD hil))).symm
    repeat (first | refine vops_q tyOk rfl ?_ | refine vops_nil ?_ | refine vops_guardF rfl rfl ?_ | with_reducible refine bs_false ?_ | refine vops_p tyOk rfl (by (try simp only [inR]); omega) ?_ | refine vw_cond rfl ?_ | refine vops_loadM tyOk rfl rfl rfl (by repeat (first | exact mem_here | apply mem_next | apply mem_past)) (by exact bools_get (by simp only [seenOf_length]; omega)) ?_)
    rw [seenOf_get (by omega)]
    refine bs_dec (fun h7 => ?_) (fun h7 => ?_)
    · repeat (first | refine vops_q tyOk rfl ?_ | refine vops_nil ?_ | refine vw_seq ?_ | refine vw_region (by kernel_rfl) ?_ | refine vw_ret ?_)
      refine rv_bool rfl rfl (decide_eq_false fun hh => not_nodup hil ?_ hh.2.2).symm
      rwa [show (((l.getD i 0).toNat : Nat) : Int) = l.getD i 0 by omega] at h7
    have h7' : l.getD i 0 ∉ l.take i := by rwa [show (((l.getD i 0).toNat : Nat) : Int) = l.getD i 0 by omega] at h7
    repeat (first | refine vops_q tyOk rfl ?_ | refine vops_nil ?_ | refine vw_region (by kernel_rfl) ?_ | refine vops_p tyOk rfl (by (try simp only [inR]); omega) ?_ | refine vw_skip ?_ | refine vops_storeBM tyOk rfl rfl rfl rfl (by repeat (first | exact upd_here | apply upd_next | apply upd_past)) (by simp only [seenOf_length]; omega) ?_)
    refine ⟨l.length - (i + 1), by omega, i + 1, by omega, rfl, rfl, rfl, rfl, rfl, rfl, ?_, fun j hj => ?_, nodup_snoc hil hnd h7'⟩
    · rw [← seenOf_set hil h6.1 h6.2]
    · by_cases hji : j = i
      · subst hji; exact h6
      · exact hall j (by omega)
  · obtain rfl : i = l.length := by omega
    repeat (first | refine vops_q tyOk rfl ?_ | refine vops_nil ?_ | refine vw_seq ?_ | refine vw_region (by kernel_rfl) ?_ | refine vw_ret ?_ | refine vw_exit ?_)
    refine rv_bool rfl rfl (decide_eq_true ⟨h, fun x hx => ?_, by rwa [List.take_length] at hnd⟩).symm
    obtain ⟨j, hj⟩ := List.mem_iff_getElem?.1 hx
    have := hall j (List.getElem?_eq_some_iff.1 hj).1
    rwa [List.getD_eq_getElem?_getD, hj] at this

open Classical in
set_option maxHeartbeats 1000000 in
set_option maxRecDepth 100000 in
theorem c_l01Order (v : Value) (l : List Int) (n : Int) (w : World) (hv : RdI w v l) (hl : l.length ≤ 1048576) (h0 : 0 ≤ n) (h1 : n ≤ 1048576) :
    Calls Try.prog 167 [v, .int .i64 n].toArray w (Res w (Is (.bool (decide (IsPerm n l))))) := by
  obtain ⟨a, cap, rfl⟩ := hv.len
  refine calls_of_vw Try.func167 rfl Try.ntmps167 (by simp) ?_
  obtain ⟨k, rfl⟩ : ∃ k : Nat, n = (k : Int) := ⟨n.toNat, by omega⟩
  repeat (first | refine vops_q tyOk rfl ?_ | refine vops_nil ?_ | refine vw_seq ?_ | refine vw_region (by kernel_rfl) ?_)
  refine vops_makeBools (n := k) tyOk rfl rfl rfl rfl rfl rfl rfl (by decide) (by omega) (fun b hb => ?_)
  repeat (first | refine vops_q tyOk rfl ?_ | refine vops_nil ?_ | refine vw_seq ?_ | refine vw_region (by kernel_rfl) ?_ | refine vw_block ?_)
  refine vw_loop (fun m f own => ∃ i : Nat, i ≤ l.length ∧ m = l.length - i ∧ f 6 = .int .i64 i ∧ f 0 = .slice a l.length cap ∧ f 1 = .int .i64 k ∧ f 5 = .slice (some ⟨b, 0, none⟩) k k ∧ own = [(b, ⟨bools (seenOf l i k), 4, k, none⟩)] ∧
      (∀ j : Nat, j < i → 0 ≤ l.getD j 0 ∧ l.getD j 0 < k) ∧ (l.take i).Nodup) l.length
    ⟨0, by omega, by omega, rfl, rfl, rfl, rfl, by rw [seenOf_zero], fun j hj => by omega, by simp⟩ ?_
  rintro m f own ⟨i, hi, rfl, h6, h0', h1', h5, rfl, hall, hnd⟩
  rw [upd_of h6, upd_of h0', upd_of h1', upd_of h5]
  repeat (first | refine vops_q tyOk rfl ?_ | refine vops_nil ?_ | refine vw_seq ?_ | refine vw_region (by kernel_rfl) ?_ | refine vw_cond rfl ?_)
  refine bs_dec (fun h4 => ?_) (fun h4 => ?_)
  · have hil : i < l.length := by omega
    obtain ⟨b', o, cap', he, hcell⟩ := hv.at (i := i) hil
    cases he
    have hc := hcell i hil
    repeat (first | refine vops_q tyOk rfl ?_ | refine vw_seq ?_ | refine vw_region (by kernel_rfl) ?_ | refine vops_guardF rfl rfl ?_ | refine vops_p tyOk rfl (by (try simp only [inR]); omega) ?_ | refine vw_skip ?_ | refine vw_block ?_ | refine vops_load tyOk rfl rfl rfl (sees_old hc (by simp)) ?_ | (apply vops_callp ent134 rfl; (intro w _; exact c_l01In _ _ _ w)))
    refine bs_ndec2 (fun h6 => ?_) (fun h6 => ?_)
    · repeat (first | refine vops_q tyOk rfl ?_ | refine vops_nil ?_ | refine vw_seq ?_ | refine vw_region (by kernel_rfl) ?_ | refine vops_guardF rfl rfl ?_ | with_reducible refine bs_true ?_ | refine vw_cond rfl ?_ | refine vw_ret ?_)
      exact rv_bool rfl rfl (decide_eq_false fun hh => h6 (by have := hh.2.1 _ (mem_getD hil); omega)).symm
    have h6' : 0 ≤ l.getD i 0 ∧ l.getD i 0 < k := by omega
    repeat (first | refine vops_q tyOk rfl ?_ | refine vops_nil ?_ | refine vops_guardF rfl rfl ?_ | with_reducible refine bs_false ?_ | refine vops_p tyOk rfl (by (try simp only [inR]); omega) ?_ | refine vw_cond rfl ?_ | refine vops_load tyOk rfl rfl rfl (sees_old hc (by simp)) ?_ | refine vops_loadM tyOk rfl rfl rfl (by repeat (first | exact mem_here | apply mem_next | apply mem_past)) (by exact bools_get (by simp only [seenOf_length]; omega)) ?_)
    rw [seenOf_get (by omega)]
    refine bs_dec (fun h7 => ?_) (fun h7 => ?_)
    · repeat (first | refine vops_q tyOk rfl ?_ | refine vops_nil ?_ | refine vw_seq ?_ | refine vw_region (by kernel_rfl) ?_ | refine vw_ret ?_)
      refine rv_bool rfl rfl (decide_eq_false fun hh => not_nodup hil ?_ hh.2.2).symm
      rwa [show (((l.getD i 0).toNat : Nat) : Int) = l.getD i 0 by omega] at h7
    have h7' : l.getD i 0 ∉ l.take i := by rwa [show (((l.getD i 0).toNat : Nat) : Int) = l.getD i 0 by omega] at h7
    repeat (first | refine vops_q tyOk rfl ?_ | refine vops_nil ?_ | refine vw_region (by kernel_rfl) ?_ | refine vops_p tyOk rfl (by (try simp only [inR]); omega) ?_ | refine vw_skip ?_ | refine vops_load tyOk rfl rfl rfl (sees_old hc (by simp)) ?_ | refine vops_storeBM tyOk rfl rfl rfl rfl (by repeat (first | exact upd_here | apply upd_next | apply upd_past)) (by simp only [seenOf_length]; omega) ?_)
    refine ⟨l.length - (i + 1), by omega, i + 1, by omega, rfl, rfl, rfl, rfl, rfl, ?_, fun j hj => ?_, nodup_snoc hil hnd h7'⟩
    · rw [← seenOf_set hil h6'.1 h6'.2]
    · by_cases hji : j = i
      · subst hji; exact h6'
      · exact hall j (by omega)
  · obtain rfl : i = l.length := by omega
    repeat (first | refine vops_q tyOk rfl ?_ | refine vops_nil ?_ | refine vw_seq ?_ | refine vw_region (by kernel_rfl) ?_ | refine vw_ret ?_ | refine vw_exit ?_)
    refine rv_bool rfl rfl ?_
    refine decide_eq_decide.2 ⟨fun h => ⟨h, fun x hx => ?_, by rwa [List.take_length] at hnd⟩, fun h => h.1⟩
    obtain ⟨j, hj⟩ := List.mem_iff_getElem?.1 hx
    have := hall j (List.getElem?_eq_some_iff.1 hj).1
    rwa [List.getD_eq_getElem?_getD, hj] at this
end Go.Proofs.Ytlfflmoegfibgaa

/- A part of the proof: P21. No conditions of its own. -/
namespace Go.Proofs.Ytlfflmoegfibgaa
open Go.VL
attribute [local irreducible] VWr VOps VD Calls

/-- How many numbers. -/
def sumLen : List (List Int) → Nat
  | [] => 0
  | l :: ls => l.length + sumLen ls
/-- All numbered from k on. -/
def markLL (k : Int) : List (List Int) → List (List Int)
  | [] => []
  | l :: ls => iota k l.length :: markLL (k + l.length) ls
/-- i rows numbered, the others as they were. -/
def mkTo (k : Int) (ls : List (List Int)) (i : Nat) : List (List Int) := markLL k (ls.take i) ++ ls.drop i
/-- One of the rows, and the others. -/
theorem RowsAt.split {ei : Nat} : ∀ {ls : List (List Int)} {vs : List Value} {ns : List Own}, Go.VL.RowsAt ei ls vs ns → ∀ {i : Nat} {l : List Int}, ls[i]? = some l →
    ∃ u n ns1 ns2, vs[i]? = some u ∧ ns = ns1 ++ n :: ns2 ∧ NewI ei l u n ∧ ∀ l' n', NewI ei l' u n' → Go.VL.RowsAt ei (ls.set i l') vs (ns1 ++ n' :: ns2)
  | [], [], [], _, i, l, hl => by simp at hl
  | l0 :: ls, u0 :: vs, n0 :: ns, h, 0, l, hl => by
    have e : l0 = l := by simpa using hl
    subst e
    exact ⟨u0, n0, [], ns, rfl, rfl, h.1, fun l' n' hn => ⟨hn, h.2⟩⟩
  | l0 :: ls, u0 :: vs, n0 :: ns, h, i + 1, l, hl => by
    obtain ⟨u, n, ns1, ns2, h1, h2, h3, h4⟩ := RowsAt.split h.2 (i := i) (l := l) (by simpa using hl)
    exact ⟨u, n, n0 :: ns1, ns2, by simpa using h1, by rw [h2]; rfl, h3, fun l' n' hn => ⟨h.1, h4 l' n' hn⟩⟩
  | [], _ :: _, _, h, _, _, _ => h.elim
  | [], [], _ :: _, h, _, _, _ => h.elim
  | _ :: _, [], _, h, _, _, _ => h.elim
  | _ :: _, _ :: _, [], h, _, _, _ => h.elim
def MarkedLL (eo ei : Nat) (ls : List (List Int)) (k0 : Int) (v : Value) (u : Value) (new : Own) : Prop := u = .int .i64 (k0 + sumLen ls) ∧ NewLL eo ei (markLL k0 ls) v new
theorem rdI_F {w : World} {v : Value} {l : List Int} (h : RdI w v l) : RdF w 1 l.length v l := by
  rcases h with ⟨a, cap, h1, rfl⟩ | ⟨b, o, cap, h1, h2⟩
  · exact .inl ⟨a, cap, h1, rfl, rfl⟩
  · exact .inr ⟨b, o, cap, h1, by simp, h2⟩

end Go.Proofs.Ytlfflmoegfibgaa

/- A part of the proof: P13. No conditions of its own. -/
namespace Go.Proofs.Ytlfflmoegfibgaa
open Go.VL
attribute [local irreducible] VWr VOps VD Calls

def robinR (n : Int) : Int := n - 1 + n % 2
theorem c_robinRounds (n : Int) (h0 : 2 ≤ n) (h1 : n ≤ 14) (w : World) : Calls Try.prog 130 [Value.int .i64 n].toArray w (Res w (Is (.int .i64 (robinR n)))) := by
  refine calls_of_vw Try.func130 rfl Try.ntmps130 (by simp) ?_
  repeat (first | refine vops_q tyOk rfl ?_ | refine vops_nil ?_ | refine vw_seq ?_ | refine vw_region (by kernel_rfl) ?_ | refine vops_p tyOk rfl (by (try simp only [inR]); omega) ?_ | refine vw_ret ?_)
  exact rv_int rfl rfl rfl

set_option maxRecDepth 100000 in
theorem c_l01Free (n : Int) (h2 : 0 ≤ n) (h14 : n ≤ 14) (w : World) : Calls Try.prog 94 [Value.int .i64 n].toArray w (Res w (Is (.agg (ints (freeTo n)).toArray))) := by
  refine calls_of_vw Try.func94 rfl Try.ntmps94 (by simp) ?_
  refine vw_seq (vw_region (by kernel_rfl) (vops_allocZ (ints (freeTo 0)) tyOk rfl rfl (by simp [ints, freeTo]) (fun b1 hb1 => ?_)))
  repeat (first | refine vops_nil ?_ | refine vw_seq ?_ | refine vw_region (by kernel_rfl) ?_ | refine vops_buildC (ints (freeTo 0)) tyOk rfl rfl (by kernel_rfl) ?_)
  refine vops_allocZ (ints (freeTo 0)) tyOk rfl rfl (by simp [ints, freeTo]) (fun b2 hb2 => ?_)
  have hl0 := freeTo_length 0
  repeat (first | refine vops_q tyOk rfl ?_ | refine vops_nil ?_ | refine vw_seq ?_ | refine vw_region (by kernel_rfl) ?_ | refine vw_block ?_ | ((show VOps _ _ _ _ (⟨none, Go.Op.store _ _ _, _, _, _, none⟩ :: _) _ _); refine vops_storeAM tyOk rfl rfl rfl (by first | rfl | (rw [ints_length]; first | assumption | omega | (rw [ints_length]; first | assumption | omega | simp [*])) | simp [*]) (by first | exact ints_one | simp [Value.oneCell']) (by repeat (first | exact upd_here | apply upd_next | apply upd_past)) (by first | rfl | (rw [ints_length]; first | assumption | omega | (rw [ints_length]; first | assumption | omega | simp [*])) | simp [*]) ?_))
  refine vw_loop (fun m f own => ∃ a : Int, 0 ≤ a ∧ a ≤ n ∧ m = (n - a).toNat ∧ f 4 = .int .i64 a ∧ f 0 = .int .i64 n ∧ f 2 = .pointer (some ⟨b1, 0, none⟩) ∧ f 3 = .pointer (some ⟨b2, 0, none⟩) ∧ own = [(b2, ⟨ints (freeTo a), 50, 14, none⟩), (b1, ⟨ints (freeTo 0), 50, 14, none⟩)]) n.toNat
    ⟨0, by omega, by omega, by omega, rfl, rfl, rfl, rfl, rfl⟩ ?_
  rintro m f own ⟨a, ha0, ha1, rfl, h5, h6, h2', h3, rfl⟩
  rw [upd_of h5, upd_of h6, upd_of h2', upd_of h3]
  repeat (first | refine vops_q tyOk rfl ?_ | refine vops_nil ?_ | refine vw_seq ?_ | refine vw_region (by kernel_rfl) ?_ | refine vw_cond rfl ?_)
  refine bs_dec (fun hlt => ?_) (fun hge => ?_)
  · have hl := freeTo_length a
    repeat (first | refine vops_q tyOk rfl ?_ | refine vops_nil ?_ | refine vw_seq ?_ | refine vw_region (by kernel_rfl) ?_ | refine vops_p tyOk rfl (by (try simp only [inR]); omega) ?_ | refine vw_skip ?_ | refine vw_block ?_ | ((show VOps _ _ _ _ (⟨none, Go.Op.store _ _ _, _, _, _, none⟩ :: _) _ _); refine vops_storeIM tyOk rfl rfl rfl rfl (by repeat (first | exact upd_here | apply upd_next | apply upd_past)) (by omega) ?_))
    exact ⟨(n - (a + 1)).toNat, by omega, a + 1, by omega, by omega, rfl, rfl, rfl, rfl, rfl, by rw [← freeTo_set ha0 (by omega)]⟩
  · obtain rfl : a = n := by omega
    have hl := freeTo_length a
    repeat (first | refine vops_nil ?_ | refine vw_seq ?_ | refine vw_region (by kernel_rfl) ?_ | refine vw_ret ?_ | refine vw_exit ?_ | ((show VOps _ _ _ _ (⟨some _, Go.Op.load _ _, _, _, _, none⟩ :: _) _ _); refine vops_loadNM tyOk rfl rfl rfl (by repeat (first | exact mem_here | apply mem_next | apply mem_past)) (by first | rfl | (rw [ints_length]; first | assumption | omega | (rw [ints_length]; first | assumption | omega | simp [*])) | simp [*]) ?_) | ((show VOps _ _ _ _ (⟨none, Go.Op.store _ _ _, _, _, _, none⟩ :: _) _ _); refine vops_storeAM tyOk rfl rfl rfl (by first | rfl | (rw [ints_length]; first | assumption | omega | (rw [ints_length]; first | assumption | omega | simp [*])) | simp [*]) (by first | exact ints_one | simp [Value.oneCell']) (by repeat (first | exact upd_here | apply upd_next | apply upd_past)) (by first | rfl | (rw [ints_length]; first | assumption | omega | (rw [ints_length]; first | assumption | omega | simp [*])) | simp [*]) ?_))
    exact rvc_ints 1 tyOk rfl rfl rfl rfl rfl rfl rfl

/-- The rule of the circle, over what was there, as far as k. -/
def circTo (base : List Int) (i m k : Int) : List Int := (List.range 14).map fun (j : Nat) => if (j : Int) < k then (2 * i + m - j) % m else base.getD j 0
theorem circTo_length (base : List Int) (i m k : Int) : (circTo base i m k).length = 14 := by simp [circTo]
theorem circTo_zero {base : List Int} (hb : base.length = 14) (i m : Int) : circTo base i m 0 = base := by
  apply List.ext_getElem (by simp [circTo, hb])
  intro j h1 h2
  simp only [circTo, List.getElem_map, List.getElem_range]
  rw [if_neg (by omega)]; simp [h2]
theorem circTo_set {base : List Int} {i m k : Int} (h0 : 0 ≤ k) (h1 : k < 14) : (circTo base i m k).set k.toNat ((2 * i + m - k) % m) = circTo base i m (k + 1) := by
  apply List.ext_getElem (by simp [circTo])
  intro j h2 h3
  have hj : j < 14 := by simpa [circTo] using h3
  rw [List.getElem_set]
  simp only [circTo, List.getElem_map, List.getElem_range]
  split
  · rename_i hh; subst hh; rw [if_pos (by omega), show ((k.toNat : Nat) : Int) = k by omega]
  · rename_i hh
    by_cases hk : (j : Int) < k
    · rw [if_pos hk, if_pos (by omega)]
    · rw [if_neg hk, if_neg (by omega)]
/-- A round of the circle. -/
def circRow (n i : Int) : List Int := (List.range 14).map fun (j : Nat) => if n % 2 = 0 ∧ (j : Int) = n - 1 then i else if n % 2 = 0 ∧ (j : Int) = i then n - 1 else if (j : Int) < robinR n then (2 * i + robinR n - j) % robinR n else 0
theorem circRow_length (n i : Int) : (circRow n i).length = 14 := by simp [circRow]
theorem circ_odd {base : List Int} {n i : Int} (h : n % 2 ≠ 0) (hb : ∀ j : Nat, j < 14 → n ≤ j → base.getD j 0 = 0) : circTo base i (robinR n) (robinR n) = circRow n i := by
  have hr : robinR n = n := by unfold robinR; omega
  apply List.ext_getElem (by simp [circTo, circRow])
  intro j h1 h2
  have hj : j < 14 := by simpa [circTo] using h1
  simp only [circTo, circRow, List.getElem_map, List.getElem_range]
  rw [if_neg (show ¬ (n % 2 = 0 ∧ (j : Int) = n - 1) from fun hh => h hh.1), if_neg (show ¬ (n % 2 = 0 ∧ (j : Int) = i) from fun hh => h hh.1)]
  by_cases hk : (j : Int) < robinR n
  · rw [if_pos hk, if_pos hk]
  · rw [if_neg hk, if_neg hk]; exact hb j hj (by omega)
theorem circ_even {base : List Int} {n i : Int} (h : n % 2 = 0) (h2 : 2 ≤ n) (hi : 0 ≤ i) (hi2 : i < robinR n) (hb : ∀ j : Nat, j < 14 → n ≤ j → base.getD j 0 = 0) :
    ((circTo base i (robinR n) (robinR n)).set i.toNat (n - 1)).set (n - 1).toNat i = circRow n i := by
  have hr : robinR n = n - 1 := by unfold robinR; omega
  apply List.ext_getElem (by simp [circTo, circRow])
  intro j h1 h3
  have hj : j < 14 := by simpa [circTo] using h1
  rw [List.getElem_set, List.getElem_set]
  simp only [circTo, circRow, List.getElem_map, List.getElem_range]
  by_cases e1 : (n - 1).toNat = j
  · rw [if_pos e1, if_pos (show n % 2 = 0 ∧ (j : Int) = n - 1 by omega)]
  · rw [if_neg e1, if_neg (show ¬ (n % 2 = 0 ∧ (j : Int) = n - 1) by omega)]
    by_cases e2 : i.toNat = j
    · rw [if_pos e2, if_pos (show n % 2 = 0 ∧ (j : Int) = i by omega)]
    · rw [if_neg e2, if_neg (show ¬ (n % 2 = 0 ∧ (j : Int) = i) by omega)]
      by_cases hk : (j : Int) < robinR n
      · rw [if_pos hk, if_pos hk]
      · rw [if_neg hk, if_neg hk]; exact hb j hj (by omega)

/-- The rounds of the circle. -/
def circRows (n : Int) : List (List Int) := (List.range (robinR n).toNat).map fun (i : Nat) => circRow n i
theorem circRows_length (n : Int) : (circRows n).length = (robinR n).toNat := by simp [circRows]
theorem circRows14 (n : Int) : ∀ r ∈ circRows n, r.length = 14 := by
  intro r h
  obtain ⟨x, _, rfl⟩ := List.mem_map.1 h
  exact circRow_length n x
theorem circRows_get {n : Int} {i : Nat} (h : i < (robinR n).toNat) : (circRows n)[i]? = some (circRow n i) := by simp [circRows, h]
open Classical in
noncomputable def circle (n : Int) : (Int × List (List Int)) × Int := if 2 ≤ n ∧ n ≤ 14 then ((n, circRows n), 0) else ((0, []), 2)
end Go.Proofs.Ytlfflmoegfibgaa

/- A part of the proof: P18. No conditions of its own. -/
namespace Go.Proofs.Ytlfflmoegfibgaa
open Go.VL
attribute [local irreducible] VWr VOps VD Calls

/-- A pair, laid into a round. -/
def lay (r p : List Int) : List Int := (r.set (p.getD 0 0).toNat (p.getD 1 0)).set (p.getD 1 0).toNat (p.getD 0 0)
theorem lay_length (r p : List Int) : (lay r p).length = r.length := by simp [lay]
def layAll (r : List Int) : List (List Int) → List Int
  | [] => r
  | p :: ps => layAll (lay r p) ps
def canLay (r p : List Int) : Prop := r.getD (p.getD 0 0).toNat 0 = p.getD 0 0 ∧ r.getD (p.getD 1 0).toNat 0 = p.getD 1 0
instance (r p : List Int) : Decidable (canLay r p) := by unfold canLay; infer_instance
/-- The pairs, laid one by one, as long as both are free. -/
def place (r : List Int) : List (List Int) → Option (List Int)
  | [] => some r
  | p :: ps => if canLay r p then place (lay r p) ps else none
def PairOk (n : Int) (p : List Int) : Prop := p.length = 2 ∧ (0 ≤ p.getD 0 0 ∧ p.getD 0 0 < n) ∧ (0 ≤ p.getD 1 0 ∧ p.getD 1 0 < n) ∧ p.getD 0 0 ≠ p.getD 1 0
def PairsOk (n : Int) (ls : List (List Int)) : Prop := ∀ p ∈ ls, PairOk n p
open Classical in
noncomputable def roundOf (n : Int) (ls : List (List Int)) : List Int × Int :=
  if 2 ≤ n ∧ n ≤ 14 ∧ ls.length ≤ 14 ∧ PairsOk n ls then (match place (freeTo n) ls with | some r => (r, 0) | none => (List.replicate 14 0, 5)) else (List.replicate 14 0, 2)
theorem drop_cons {α : Type} {l : List α} {i : Nat} {x : α} (h : l[i]? = some x) : l.drop i = x :: l.drop (i + 1) := by
  have hlt := (List.getElem?_eq_some_iff.1 h).1
  rw [List.drop_eq_getElem_cons hlt]
  have := List.getElem?_eq_getElem hlt
  rw [h] at this
  rw [Option.some.inj this]
/-- A round and a code. -/
def rdV (r : List Int × Int) : Value := .tuple #[.agg (ints r.1).toArray, .int .i64 r.2]
end Go.Proofs.Ytlfflmoegfibgaa

/- A part of the proof: P19. No conditions of its own. -/
namespace Go.Proofs.Ytlfflmoegfibgaa
open Go.VL
attribute [local irreducible] VWr VOps VD Calls

theorem dropNil {α : Type} {l : List α} {i : Nat} (h : l.length ≤ i) : l.drop i = [] := List.drop_eq_nil_of_le h
theorem layAll_step {ls : List (List Int)} {r p : List Int} {i : Nat} (h : ls[i]? = some p) : layAll r (ls.drop i) = layAll (lay r p) (ls.drop (i + 1)) := by
  rw [drop_cons h]; rfl

end Go.Proofs.Ytlfflmoegfibgaa

/- A part of the proof: P20. No conditions of its own. -/
namespace Go.Proofs.Ytlfflmoegfibgaa
open Go.VL
attribute [local irreducible] VWr VOps VD Calls

theorem rvc_intsM {P : Program} {T : Nat → Option TI} {Γ : Ctx} {f : Nat → Value} {own : Own} (hT : Go.VL.TyOk P T) {n p t b e m : Nat} {ti : TI} {fn : Func} {cs cs' : List Int} (h : fn.results = #[.cell p t]) (ht : T t = some ti) (ha : ti.isAgg = true) (hsz : ti.size = 14)
    (hp : f p = .pointer (some ⟨b, 0, none⟩)) (hm : (b, (⟨ints cs, e, m, none⟩ : Blk)) ∈ own) (hl : cs.length = 14) (hr : cs' = cs) : Out P Γ n fn (Is (.agg (ints cs').toArray)) .ret f own := by
  subst hr
  exact ⟨_, [], rv_cell hT h hp ht ha (by rw [ints_length, hl, hsz]) (fun j v hj => by rw [Nat.zero_add]; exact sees_mem hm hj), List.nodup_nil, sub_nil, rfl, rfl⟩

set_option maxHeartbeats 1000000 in
set_option maxRecDepth 100000 in
theorem c_l01Made (n : Int) (v : Value) (ls : List (List Int)) (h2 : 2 ≤ n) (h14 : n ≤ 14) (hp : PairsOk n ls) (w : World) (hv : RdII w v ls) (hl : ls.length ≤ 1048576) :
    Calls Try.prog 207 [.int .i64 n, v].toArray w (Res w (Is (.agg (ints (layAll (freeTo n) ls)).toArray))) := by
  obtain ⟨a, cap, rfl⟩ := hv.len
  refine calls_of_vw Try.func207 rfl Try.ntmps207 (by simp) ?_
  refine vw_seq (vw_region (by kernel_rfl) (vops_allocZ (ints (List.replicate 14 0)) tyOk rfl rfl (by simp [ints]) (fun b4 hb4 => ?_)))
  repeat (first | refine vops_q tyOk rfl ?_ | refine vops_nil ?_ | refine vw_seq ?_ | refine vw_region (by kernel_rfl) ?_ | refine vw_block ?_ | (apply vops_callp ent94 rfl; (intro w _; exact c_l01Free n (by omega) (by omega) w)) | refine vops_allocZ (ints (List.replicate 14 0)) tyOk rfl rfl (by simp [ints]) (fun b5 hb5 => ?_) | ((show VOps _ _ _ _ (⟨none, Go.Op.store _ _ _, _, _, _, none⟩ :: _) _ _); refine vops_storeAM tyOk rfl rfl rfl (by first | rfl | (rw [ints_length]; first | assumption | omega | (rw [ints_length]; first | assumption | omega | simp [*])) | simp [*]) (by first | exact ints_one | simp [Value.oneCell']) (by repeat (first | exact upd_here | apply upd_next | apply upd_past)) (by first | rfl | (rw [ints_length]; first | assumption | omega | (rw [ints_length]; first | assumption | omega | simp [*])) | simp [*]) ?_))
  refine vw_loop (fun m f own => ∃ (i : Nat) (r : List Int), i ≤ ls.length ∧ m = ls.length - i ∧ r.length = 14 ∧ f 6 = .int .i64 i ∧ f 1 = .slice a ls.length cap ∧ f 4 = .pointer (some ⟨b4, 0, none⟩) ∧ f 5 = .pointer (some ⟨b5, 0, none⟩) ∧
      own = [(b5, ⟨ints r, 50, 14, none⟩), (b4, ⟨ints (List.replicate 14 0), 50, 14, none⟩)] ∧ layAll (freeTo n) ls = layAll r (ls.drop i)) ls.length
    ⟨0, freeTo n, by omega, by omega, freeTo_length n, rfl, rfl, rfl, rfl, by simp [ints], by rw [List.drop_zero]⟩ ?_
  rintro m f own ⟨i, r, hi, rfl, hrl, h6, h1, h4, h5, rfl, hpl⟩
  rw [upd_of h6, upd_of h1, upd_of h4, upd_of h5]
  repeat (first | refine vops_q tyOk rfl ?_ | refine vops_nil ?_ | refine vw_seq ?_ | refine vw_region (by kernel_rfl) ?_ | refine vw_cond rfl ?_)
  refine bs_dec (fun h7 => ?_) (fun h7 => ?_)
  · obtain ⟨l, hli⟩ : ∃ l, ls[i]? = some l := ⟨_, List.getElem?_eq_getElem (by omega)⟩
    obtain ⟨hp2, hp0, hp1, hpn⟩ := hp l (List.mem_of_getElem? hli)
    obtain ⟨b', o, cap', x, he, hcx, hx⟩ := hv.at hli
    cases he
    obtain ⟨a3, c3, rfl⟩ := hx.len
    obtain ⟨b2, o2, cap2, he2, hcell⟩ := hx.at (i := 0) (by omega)
    cases he2
    have hc0 := hcell 0 (by omega)
    have hc1 := hcell 1 (by omega)
    have hsl : ∀ (k : Nat) (z : Int), (r.set k z).length = 14 := fun k z => by rw [List.length_set]; exact hrl
    repeat (first | refine vw_seq ?_ | refine vw_skip ?_ | refine vw_block ?_)
    refine vw_draw [0, 1, 2, 3, 4, 5, 6, 7, 8, 9, 10, 11, 12, 13] (by kernel_rfl) (by kernel_rfl) (by kernel_rfl) rfl ?_
    repeat' (first | refine vd_q tyOk rfl (by first | trivial | rfl) rfl (by kernel_rfl) (by kernel_rfl) ?_ | refine vd_p tyOk rfl (by first | trivial | rfl) rfl (by kernel_rfl) (by kernel_rfl) (by (try simp only [inR]); omega) ?_ | refine vops_nil ?_ | refine vd_nil (by kernel_rfl) ?_ | refine ⟨fun h => Bool.noConfusion (show false = true from h), ?_⟩ | refine vd_load tyOk rfl (by first | trivial | rfl) rfl rfl rfl (by kernel_rfl) (by kernel_rfl) (by kernel_rfl) (sees_old hcx (by simp)) (by repeat (first | exact sub_hereL | exact sub_refl | apply sub_cons | apply sub_app)) ?_ | refine vd_load tyOk rfl (by first | trivial | rfl) rfl rfl rfl (by kernel_rfl) (by kernel_rfl) (by kernel_rfl) (sees_old hc0 (by simp)) (by repeat (first | exact sub_hereL | exact sub_refl | apply sub_cons | apply sub_app)) ?_ | refine vd_load tyOk rfl (by first | trivial | rfl) rfl rfl rfl (by kernel_rfl) (by kernel_rfl) (by kernel_rfl) (sees_old hc1 (by simp)) (by repeat (first | exact sub_hereL | exact sub_refl | apply sub_cons | apply sub_app)) ?_ | ((show VOps _ _ _ _ (⟨none, Go.Op.store _ _ _, _, _, _, none⟩ :: _) _ _); refine vops_storeIM tyOk rfl rfl rfl rfl (by repeat (first | exact upd_here | apply upd_next | apply upd_past)) (by omega) ?_) | refine vd_one rfl (by kernel_rfl) (by kernel_rfl) rfl ?_)
    skip
    refine vw_draw [0, 1, 2, 3, 4, 5, 6, 7, 8, 9, 10, 11, 12, 13] (by kernel_rfl) (by kernel_rfl) (by kernel_rfl) rfl ?_
    repeat' (first | refine vd_q tyOk rfl (by first | trivial | rfl) rfl (by kernel_rfl) (by kernel_rfl) ?_ | refine vd_p tyOk rfl (by first | trivial | rfl) rfl (by kernel_rfl) (by kernel_rfl) (by (try simp only [inR]); omega) ?_ | refine vops_nil ?_ | refine vd_nil (by kernel_rfl) ?_ | refine ⟨fun h => Bool.noConfusion (show false = true from h), ?_⟩ | refine vd_load tyOk rfl (by first | trivial | rfl) rfl rfl rfl (by kernel_rfl) (by kernel_rfl) (by kernel_rfl) (sees_old hcx (by simp)) (by repeat (first | exact sub_hereL | exact sub_refl | apply sub_cons | apply sub_app)) ?_ | refine vd_load tyOk rfl (by first | trivial | rfl) rfl rfl rfl (by kernel_rfl) (by kernel_rfl) (by kernel_rfl) (sees_old hc0 (by simp)) (by repeat (first | exact sub_hereL | exact sub_refl | apply sub_cons | apply sub_app)) ?_ | refine vd_load tyOk rfl (by first | trivial | rfl) rfl rfl rfl (by kernel_rfl) (by kernel_rfl) (by kernel_rfl) (sees_old hc1 (by simp)) (by repeat (first | exact sub_hereL | exact sub_refl | apply sub_cons | apply sub_app)) ?_ | refine vops_storeIM tyOk rfl rfl rfl rfl (by repeat (first | exact upd_here | apply upd_next | apply upd_past)) (by rw [hsl]; omega) ?_ | refine vd_one rfl (by kernel_rfl) (by kernel_rfl) rfl ?_)
    repeat (first | refine vops_q tyOk rfl ?_ | refine vops_nil ?_ | refine vw_region (by kernel_rfl) ?_ | refine vops_p tyOk rfl (by (try simp only [inR]); omega) ?_)
    refine ⟨ls.length - (i + 1), by omega, i + 1, lay r l, by omega, rfl, by rw [lay_length]; exact hrl, rfl, rfl, rfl, rfl, rfl, ?_⟩
    rw [hpl, layAll_step hli]
  · obtain rfl : i = ls.length := by omega
    repeat (first | refine vops_nil ?_ | refine vw_seq ?_ | refine vw_region (by kernel_rfl) ?_ | refine vw_ret ?_ | refine vw_exit ?_ | ((show VOps _ _ _ _ (⟨some _, Go.Op.load _ _, _, _, _, none⟩ :: _) _ _); refine vops_loadNM tyOk rfl rfl rfl (by repeat (first | exact mem_here | apply mem_next | apply mem_past)) (by first | rfl | (rw [ints_length]; first | assumption | omega | (rw [ints_length]; first | assumption | omega | simp [*])) | simp [*]) ?_) | ((show VOps _ _ _ _ (⟨none, Go.Op.store _ _ _, _, _, _, none⟩ :: _) _ _); refine vops_storeAM tyOk rfl rfl rfl (by first | rfl | (rw [ints_length]; first | assumption | omega | (rw [ints_length]; first | assumption | omega | simp [*])) | simp [*]) (by first | exact ints_one | simp [Value.oneCell']) (by repeat (first | exact upd_here | apply upd_next | apply upd_past)) (by first | rfl | (rw [ints_length]; first | assumption | omega | (rw [ints_length]; first | assumption | omega | simp [*])) | simp [*]) ?_))
    refine rvc_intsM tyOk (cs := r) rfl rfl rfl rfl rfl (by repeat (first | exact mem_here | apply mem_next | apply mem_past)) hrl ?_
    rw [hpl, dropNil (Nat.le_refl _)]; rfl

/-- Who is in a pair. -/
def MetOf (n : Nat) (r : List Int) (met : List Bool) : Prop := met.length = n ∧ ∀ j : Nat, j < n → (met.getD j false = true ↔ r.getD j 0 ≠ j)

end Go.Proofs.Ytlfflmoegfibgaa

/- A part of the proof: P22. No conditions of its own. -/
namespace Go.Proofs.Ytlfflmoegfibgaa
open Go.VL
attribute [local irreducible] VWr VOps VD Calls

/-- The pairs of a round, as far as the team k. -/
def pairsTo (r : List Int) (k : Nat) : List (List Int) := ((List.range k).filter fun (a : Nat) => decide ((a : Int) < r.getD a 0)).map fun (a : Nat) => [(a : Int), r.getD a 0]
theorem pairsTo_yes {r : List Int} {k : Nat} (h : (k : Int) < r.getD k 0) : pairsTo r (k + 1) = pairsTo r k ++ [[(k : Int), r.getD k 0]] := by
  unfold pairsTo
  rw [List.range_succ, List.filter_append, List.map_append]
  have : ([k].filter fun (a : Nat) => decide ((a : Int) < r.getD a 0)) = [k] := by simp only [List.filter_cons, decide_eq_true h, if_true, List.filter_nil]
  rw [this]; rfl
theorem pairsTo_no {r : List Int} {k : Nat} (h : ¬ (k : Int) < r.getD k 0) : pairsTo r (k + 1) = pairsTo r k := by
  unfold pairsTo
  rw [List.range_succ, List.filter_append, List.map_append]
  have : ([k].filter fun (a : Nat) => decide ((a : Int) < r.getD a 0)) = [] := by simp only [List.filter_cons, decide_eq_false h, Bool.false_eq_true, if_false, List.filter_nil]
  rw [this]; simp
theorem pairsTo_le (r : List Int) (k : Nat) : (pairsTo r k).length ≤ k := by
  have := List.length_filter_le (fun (a : Nat) => decide ((a : Int) < r.getD a 0)) (List.range k)
  simpa [pairsTo] using this
theorem pairsTo_mono {r : List Int} {k n : Nat} (h : k ≤ n) : ∃ t, pairsTo r n = pairsTo r k ++ t := by
  obtain ⟨d, rfl⟩ : ∃ d, n = k + d := ⟨n - k, by omega⟩
  clear h
  induction d with
  | zero => exact ⟨[], by simp⟩
  | succ d ih =>
    obtain ⟨t, ht⟩ := ih
    by_cases hc : ((k + d : Nat) : Int) < r.getD (k + d) 0
    · exact ⟨t ++ [_], by rw [show k + (d + 1) = k + d + 1 by omega, pairsTo_yes hc, ht, List.append_assoc]⟩
    · exact ⟨t, by rw [show k + (d + 1) = k + d + 1 by omega, pairsTo_no hc, ht]⟩
theorem pairsTo_at {r : List Int} {k n : Nat} (h : (k : Int) < r.getD k 0) (hk : k < n) : (pairsTo r n)[(pairsTo r k).length]? = some [(k : Int), r.getD k 0] := by
  obtain ⟨t, ht⟩ := pairsTo_mono (r := r) (k := k + 1) (n := n) (by omega)
  rw [ht, pairsTo_yes h, List.append_assoc, List.getElem?_append_right (Nat.le_refl _), Nat.sub_self]; rfl
theorem pairsTo_pair {r p : List Int} {k : Nat} (h : p ∈ pairsTo r k) : p.length = 2 := by
  obtain ⟨a, _, rfl⟩ := List.mem_map.1 h; rfl
/-- What pairsIn hands on. -/
def pairVals (n : Int) (r : List Int) : List (List Value) := (pairsTo r n.toNat).map ints
def PairsCap (n : Int) (r : List Int) (b2 b3 : Nat) : Own := [(b3, ⟨ints r, 50, (ints r).length, none⟩), (b2, ⟨[.int .i64 n], 2, 1, none⟩)]
def PairsF (n : Int) (r : List Int) (v : Value) (new : Own) : Prop := ∃ b2 b3, v = .func (.func 175) #[] [.pointer (some ⟨b2, 0, none⟩), .pointer (some ⟨b3, 0, none⟩)].toArray ∧ new = PairsCap n r b2 b3 ∧ b3 ≠ b2

set_option maxRecDepth 100000 in
theorem c_pairsIn (n : Int) (r : List Int) (w : World) : Calls Try.prog 145 [.int .i64 n, .agg (ints r).toArray].toArray w (Res w (PairsF n r)) := by
  refine calls_of_vw Try.func145 rfl Try.ntmps145 (by simp) ?_
  refine vw_seq (vw_region (by kernel_rfl) (vops_box [.int .i64 n] rfl (fun b2 hb2 => ?_)))
  refine vops_box (ints r) rfl (fun b3 hb3 => ?_)
  have hne : b3 ≠ b2 := fun h => hb3 (by simp [ids, h])
  repeat (first | refine vops_q tyOk rfl ?_ | refine vops_nil ?_ | refine vw_seq ?_ | refine vw_region (by kernel_rfl) ?_ | refine vw_ret ?_ | refine vops_mkf rfl ?_)
  exact out1 rfl rfl (by simp [ids, hne]) (fun _ h => h) ⟨b2, b3, rfl, rfl, hne⟩

theorem outNone {P : Program} {Γ : Ctx} {f : Nat → Value} {own : Own} {n : Nat} {fn : Func} {S : Value → Own → Prop} {new : Own} (h : fn.results = #[]) (hn : (ids new).Nodup) (hs : Sub new own) (hS : S (.tuple #[]) new) : Out P Γ n fn S .ret f own :=
  ⟨_, new, fun _ _ _ _ => results_none h _ _ _, hn, hs, hS⟩

set_option maxHeartbeats 1000000 in
set_option maxRecDepth 100000 in
theorem it_pairs (n : Int) (r : List Int) (h2 : 0 ≤ n) (h14 : n ≤ 14) (hr : r.length = 14) (b2 b3 : Nat) : Iter Try.prog 175 [.pointer (some ⟨b2, 0, none⟩), .pointer (some ⟨b3, 0, none⟩)] (pairVals n r) (PairsCap n r b2 b3) := by
  intro Γ l J Jx own0 w hc hcap hdis h0 hy
  have hn : w.cell? ⟨b2, 0, none⟩ = some (.int .i64 n) := cell_of_blk hcap (List.mem_cons_of_mem _ List.mem_cons_self) rfl
  have hrow : ∀ (j : Nat) x, (ints r)[j]? = some x → w.cell? ⟨b3, 0 + j, none⟩ = some x := fun j x hx => by rw [Nat.zero_add]; exact cell_of_blk hcap List.mem_cons_self hx
  have hd2 : b2 ∉ ids own0 := hdis b2 (by simp [ids, PairsCap])
  have hd3 : b3 ∉ ids own0 := hdis b3 (by simp [ids, PairsCap])
  have hlen : (pairVals n r).length = (pairsTo r n.toNat).length := by simp [pairVals]
  refine calls_of_vwM Try.func175 rfl Try.ntmps175 (by simp) hc.ok ?_
  repeat (first | refine vops_q tyOk rfl ?_ | refine vops_nil ?_ | refine vw_seq ?_ | refine vw_region (by kernel_rfl) ?_ | refine vw_block ?_ | refine vops_load tyOk rfl rfl rfl (sees_old hn hd2) ?_)
  refine vw_loop (fun m f own => ∃ (k : Nat) (c : Int), c = k ∧ c ≤ n ∧ m = (n - c).toNat ∧ f 6 = .int .i64 c ∧ f 5 = .int .i64 n ∧ f 0 = .func (.yield l) #[] #[] ∧ f 2 = .pointer (some ⟨b3, 0, none⟩) ∧ J (pairsTo r k).length own) n.toNat
    ⟨0, 0, rfl, by omega, by omega, rfl, rfl, rfl, rfl, h0⟩ ?_
  rintro m f own ⟨k, c, hck, hcn, rfl, h6, h5, h0', h2', hJ⟩
  rw [upd_of h6, upd_of h5, upd_of h0', upd_of h2']
  repeat (first | refine vops_q tyOk rfl ?_ | refine vops_nil ?_ | refine vw_seq ?_ | refine vw_region (by kernel_rfl) ?_ | refine vw_cond rfl ?_)
  refine bs_dec (fun hlt => ?_) (fun hlt => ?_)
  · have hkc : c.toNat = k := by omega
    have hld := hrow c.toNat _ (ints_get (by omega))
    repeat (first | refine vops_q tyOk rfl ?_ | refine vops_nil ?_ | refine vw_seq ?_ | refine vw_region (by kernel_rfl) ?_ | refine vops_guardT rfl rfl ?_ | refine vops_p tyOk rfl (by (try simp only [inR]); omega) ?_ | refine vw_skip ?_ | refine vw_block ?_ | refine vops_load tyOk rfl rfl rfl (sees_old hld hd3) ?_)
    refine bs_dec (fun hp => ?_) (fun hp => ?_)
    · have hkp : (k : Int) < r.getD k 0 := by rw [← hkc] at *; omega
      have hat : (pairVals n r)[(pairsTo r k).length]? = some (ints [c, r.getD c.toNat 0]) := by
        unfold pairVals
        rw [List.getElem?_map, pairsTo_at hkp (by omega), hkc, hck]; rfl
      have hyk := hy _ _ hat own hJ
      repeat (first | refine vops_q tyOk rfl ?_ | refine vops_guardT rfl rfl ?_ | with_reducible refine bs_true ?_ | refine vops_p tyOk rfl (by (try simp only [inR]); omega) ?_ | refine vops_load tyOk rfl rfl rfl (sees_old hld hd3) ?_)
      refine vops_yield hc rfl rfl hyk (fun own' hJ' _ => ?_) (fun own' hJx hnd => ?_)
      · repeat (first | refine vops_q tyOk rfl ?_ | refine vops_nil ?_ | refine vw_region (by kernel_rfl) ?_ | refine vops_guardT rfl rfl ?_ | with_reducible refine bs_true ?_ | with_reducible refine bs_ntrue ?_ | refine vops_p tyOk rfl (by (try simp only [inR]); omega) ?_ | refine vw_cond rfl ?_ | refine vw_skip ?_)
        refine ⟨(n - (c + 1)).toNat, by omega, k + 1, c + 1, by omega, by omega, rfl, rfl, rfl, rfl, rfl, ?_⟩
        rw [pairsTo_yes hkp, List.length_append]; exact hJ'
      · repeat (first | refine vops_q tyOk rfl ?_ | refine vops_nil ?_ | refine vops_guardT rfl rfl ?_ | with_reducible refine bs_true ?_ | with_reducible refine bs_nfalse ?_ | refine vw_cond rfl ?_ | refine vw_ret ?_)
        exact outNone rfl hnd (fun _ h => h) (.inr hJx)
    · have hkp : ¬ (k : Int) < r.getD k 0 := by rw [← hkc] at *; omega
      repeat (first | refine vops_q tyOk rfl ?_ | refine vops_nil ?_ | refine vw_region (by kernel_rfl) ?_ | refine vops_guardT rfl rfl ?_ | with_reducible refine bs_false ?_ | refine vops_p tyOk rfl (by (try simp only [inR]); omega) ?_ | refine vw_cond rfl ?_ | refine vw_skip ?_)
      refine ⟨(n - (c + 1)).toNat, by omega, k + 1, c + 1, by omega, by omega, rfl, rfl, rfl, rfl, rfl, ?_⟩
      rw [pairsTo_no hkp]; exact hJ
  · obtain rfl : k = n.toNat := by omega
    refine vw_nodup (fun hnd => ?_)
    repeat (first | refine vw_exit ?_)
    exact outNone rfl hnd (fun _ h => h) (.inl (by rw [hlen]; exact hJ))
end Go.Proofs.Ytlfflmoegfibgaa

/- A part of the proof: P23. No conditions of its own. -/
namespace Go.Proofs.Ytlfflmoegfibgaa
open Go.VL
attribute [local irreducible] VWr VOps VD Calls

noncomputable def pairsOf (n : Int) (r : List Int) : List (List Int) × Int := if IsRd n r then (pairsTo r n.toNat, 0) else ([], 2)
end Go.Proofs.Ytlfflmoegfibgaa

/- A part of the proof: P41. No conditions of its own. -/
namespace Go.Proofs.Ytlfflmoegfibgaa
open Go.VL
attribute [local irreducible] VWr VOps VD Calls

/-- What is left of a bound when the sizes have been taken off it. -/
def LeftT (ls : List (List Int)) (left : Int) (v : Value) (new : Own) : Prop := new = [] ∧ ∃ r : Int, v = .int .i64 r ∧ (r = -1 ∨ (0 ≤ r ∧ r ≤ left ∧ (ls.length : Int) ≤ left ∧ (sumLen ls : Int) ≤ left ∧ ∀ l ∈ ls, (l.length : Int) ≤ left))
end Go.Proofs.Ytlfflmoegfibgaa

/- A part of the proof: R4. No conditions of its own. -/
namespace Go.Proofs.Ytlfflmoegfibgaa
open Go.VL
attribute [local irreducible] VWr VOps VD Calls

/-- n numbers from the place o on, numbered from c on. -/
def markP (q : List Int) (o n : Nat) (c : Int) : List Int := lst q.length fun t => if o ≤ t ∧ t < o + n then c + ((t - o : Nat) : Int) else q.getD t 0
def MarkedP (e bt N : Nat) (q : List Int) (o n : Nat) (c : Int) (v : Value) (new : Own) : Prop := v = .int .i64 (c + n) ∧ new = [(bt, ⟨ints (markP q o n c), e, N, none⟩)]
/-- i rows of the table numbered. -/
def markG (k0 : Int) (k : Nat) (g : Nat → Nat → Int) (i a b : Nat) : Int := if a < i then k0 + ((a * k + b : Nat) : Int) else g a b
def MarkedT (eo ei : Nat) (ls : List (List Int)) (k0 : Int) (v : Value) (u : Value) (new : Own) : Prop := u = .int .i64 (k0 + sumLen ls) ∧ NewT eo ei (markLL k0 ls) v new
/-! squares, as the laws take them -/
end Go.Proofs.Ytlfflmoegfibgaa

