import Derived.Test.YtngpongdpphncaaP9
import Derived.Test.YtngpongdpphncaaVLArr
/- A part of the proof: P13. No conditions of its own. -/
namespace Go.Proofs.Ytngpongdpphncaa
open Go.VL
attribute [local irreducible] VWr VOps VD Calls

def robinR (n : Int) : Int := n - 1 + n % 2
theorem c_robinRounds (n : Int) (h0 : 2 ≤ n) (h1 : n ≤ 14) (w : World) : Calls Try.prog 156 [Value.int .i64 n].toArray w (Res w (Is (.int .i64 (robinR n)))) := by
  refine calls_of_vw Try.func156 rfl Try.ntmps156 (by simp) ?_
  repeat (first | refine vops_q tyOk rfl ?_ | refine vops_nil ?_ | refine vw_seq ?_ | refine vw_region (by kernel_rfl) ?_ | refine vops_guardT rfl rfl ?_ | refine vops_guardF rfl rfl ?_ | refine vops_guardU rfl rfl ?_ | with_reducible refine bs_nbeq rfl ?_ | with_reducible refine bs_true ?_ | with_reducible refine bs_false ?_ | with_reducible refine bs_ntrue ?_ | with_reducible refine bs_nfalse ?_ | refine vops_p tyOk rfl (by (try simp only [inR]); omega) ?_ | refine vw_cond rfl ?_ | refine vw_skip ?_ | refine vw_block ?_ | refine vw_ret ?_ | refine vw_exit ?_ | refine vops_loadM tyOk rfl rfl rfl (by repeat (first | exact mem_here | apply mem_next | apply mem_past)) (by rfl) ?_ | refine vops_loadM tyOk rfl rfl rfl (by repeat (first | exact mem_here | apply mem_next | apply mem_past)) (by exact ints_get0 (by omega)) ?_ | refine vops_loadNM tyOk rfl rfl rfl (by repeat (first | exact mem_here | apply mem_next | apply mem_past)) (by first | rfl | (rw [ints_length]; first | assumption | omega | (rw [ints_length]; first | assumption | omega | simp [*])) | simp [*]) ?_ | refine vops_storeIM tyOk rfl rfl rfl rfl (by repeat (first | exact upd_here | apply upd_next | apply upd_past)) (by omega) ?_ | refine vops_storeM tyOk rfl rfl rfl rfl rfl (by repeat (first | exact upd_here | apply upd_next | apply upd_past)) (by simp) ?_ | refine vops_storeAM tyOk rfl rfl rfl (by first | rfl | (rw [ints_length]; first | assumption | omega | (rw [ints_length]; first | assumption | omega | simp [*])) | simp [*]) (by first | exact ints_one | simp [Value.oneCell']) (by repeat (first | exact upd_here | apply upd_next | apply upd_past)) (by first | rfl | (rw [ints_length]; first | assumption | omega | (rw [ints_length]; first | assumption | omega | simp [*])) | simp [*]) ?_ | refine vops_build2 rfl rfl (by kernel_rfl) ?_ | refine vops_buildZ tyOk rfl (by kernel_rfl) ?_ | refine vops_slice tyOk rfl rfl rfl rfl rfl (by omega) ?_)
  exact rv_int rfl rfl rfl

set_option maxRecDepth 100000 in
theorem c_l01Free (n : Int) (h2 : 0 ≤ n) (h14 : n ≤ 14) (w : World) : Calls Try.prog 128 [Value.int .i64 n].toArray w (Res w (Is (.agg (ints (freeTo n)).toArray))) := by
  refine calls_of_vw Try.func128 rfl Try.ntmps128 (by simp) ?_
  refine vw_seq (vw_region (by kernel_rfl) (vops_allocZ (ints (freeTo 0)) tyOk rfl rfl (by simp [ints, freeTo]) (fun b1 hb1 => ?_)))
  repeat (first | refine vops_q tyOk rfl ?_ | refine vops_nil ?_ | refine vw_seq ?_ | refine vw_region (by kernel_rfl) ?_ | refine vops_guardT rfl rfl ?_ | refine vops_guardF rfl rfl ?_ | refine vops_guardU rfl rfl ?_ | with_reducible refine bs_nbeq rfl ?_ | with_reducible refine bs_true ?_ | with_reducible refine bs_false ?_ | with_reducible refine bs_ntrue ?_ | with_reducible refine bs_nfalse ?_ | refine vops_p tyOk rfl (by (try simp only [inR]); omega) ?_ | refine vw_cond rfl ?_ | refine vw_skip ?_ | refine vw_block ?_ | refine vw_ret ?_ | refine vw_exit ?_ | refine vops_buildC (ints (freeTo 0)) tyOk rfl rfl (by kernel_rfl) ?_)
  refine vops_allocZ (ints (freeTo 0)) tyOk rfl rfl (by simp [ints, freeTo]) (fun b2 hb2 => ?_)
  have hl0 := freeTo_length 0
  repeat (first | refine vops_q tyOk rfl ?_ | refine vops_nil ?_ | refine vw_seq ?_ | refine vw_region (by kernel_rfl) ?_ | refine vops_guardT rfl rfl ?_ | refine vops_guardF rfl rfl ?_ | refine vops_guardU rfl rfl ?_ | with_reducible refine bs_nbeq rfl ?_ | with_reducible refine bs_true ?_ | with_reducible refine bs_false ?_ | with_reducible refine bs_ntrue ?_ | with_reducible refine bs_nfalse ?_ | refine vops_p tyOk rfl (by (try simp only [inR]); omega) ?_ | refine vw_cond rfl ?_ | refine vw_skip ?_ | refine vw_block ?_ | refine vw_ret ?_ | refine vw_exit ?_ | refine vops_loadM tyOk rfl rfl rfl (by repeat (first | exact mem_here | apply mem_next | apply mem_past)) (by rfl) ?_ | refine vops_loadM tyOk rfl rfl rfl (by repeat (first | exact mem_here | apply mem_next | apply mem_past)) (by exact ints_get0 (by omega)) ?_ | refine vops_loadNM tyOk rfl rfl rfl (by repeat (first | exact mem_here | apply mem_next | apply mem_past)) (by first | rfl | (rw [ints_length]; first | assumption | omega | (rw [ints_length]; first | assumption | omega | simp [*])) | simp [*]) ?_ | refine vops_storeIM tyOk rfl rfl rfl rfl (by repeat (first | exact upd_here | apply upd_next | apply upd_past)) (by omega) ?_ | refine vops_storeM tyOk rfl rfl rfl rfl rfl (by repeat (first | exact upd_here | apply upd_next | apply upd_past)) (by simp) ?_ | refine vops_storeAM tyOk rfl rfl rfl (by first | rfl | (rw [ints_length]; first | assumption | omega | (rw [ints_length]; first | assumption | omega | simp [*])) | simp [*]) (by first | exact ints_one | simp [Value.oneCell']) (by repeat (first | exact upd_here | apply upd_next | apply upd_past)) (by first | rfl | (rw [ints_length]; first | assumption | omega | (rw [ints_length]; first | assumption | omega | simp [*])) | simp [*]) ?_ | refine vops_build2 rfl rfl (by kernel_rfl) ?_ | refine vops_buildZ tyOk rfl (by kernel_rfl) ?_ | refine vops_slice tyOk rfl rfl rfl rfl rfl (by omega) ?_)
  refine vw_loop (fun m f own => ∃ a : Int, 0 ≤ a ∧ a ≤ n ∧ m = (n - a).toNat ∧ f 4 = .int .i64 a ∧ f 0 = .int .i64 n ∧ f 2 = .pointer (some ⟨b1, 0, none⟩) ∧ f 3 = .pointer (some ⟨b2, 0, none⟩) ∧ own = [(b2, ⟨ints (freeTo a), 25, 14, none⟩), (b1, ⟨ints (freeTo 0), 25, 14, none⟩)]) n.toNat
    ⟨0, by omega, by omega, by omega, rfl, rfl, rfl, rfl, rfl⟩ ?_
  rintro m f own ⟨a, ha0, ha1, rfl, h5, h6, h2', h3, rfl⟩
  rw [upd_of h5, upd_of h6, upd_of h2', upd_of h3]
  repeat (first | refine vops_q tyOk rfl ?_ | refine vops_nil ?_ | refine vw_seq ?_ | refine vw_region (by kernel_rfl) ?_ | refine vops_guardT rfl rfl ?_ | refine vops_guardF rfl rfl ?_ | refine vops_guardU rfl rfl ?_ | with_reducible refine bs_nbeq rfl ?_ | with_reducible refine bs_true ?_ | with_reducible refine bs_false ?_ | with_reducible refine bs_ntrue ?_ | with_reducible refine bs_nfalse ?_ | refine vops_p tyOk rfl (by (try simp only [inR]); omega) ?_ | refine vw_cond rfl ?_ | refine vw_skip ?_ | refine vw_block ?_ | refine vw_ret ?_ | refine vw_exit ?_ | refine vops_loadM tyOk rfl rfl rfl (by repeat (first | exact mem_here | apply mem_next | apply mem_past)) (by rfl) ?_ | refine vops_loadM tyOk rfl rfl rfl (by repeat (first | exact mem_here | apply mem_next | apply mem_past)) (by exact ints_get0 (by omega)) ?_ | refine vops_loadNM tyOk rfl rfl rfl (by repeat (first | exact mem_here | apply mem_next | apply mem_past)) (by first | rfl | (rw [ints_length]; first | assumption | omega | (rw [ints_length]; first | assumption | omega | simp [*])) | simp [*]) ?_ | refine vops_storeIM tyOk rfl rfl rfl rfl (by repeat (first | exact upd_here | apply upd_next | apply upd_past)) (by omega) ?_ | refine vops_storeM tyOk rfl rfl rfl rfl rfl (by repeat (first | exact upd_here | apply upd_next | apply upd_past)) (by simp) ?_ | refine vops_storeAM tyOk rfl rfl rfl (by first | rfl | (rw [ints_length]; first | assumption | omega | (rw [ints_length]; first | assumption | omega | simp [*])) | simp [*]) (by first | exact ints_one | simp [Value.oneCell']) (by repeat (first | exact upd_here | apply upd_next | apply upd_past)) (by first | rfl | (rw [ints_length]; first | assumption | omega | (rw [ints_length]; first | assumption | omega | simp [*])) | simp [*]) ?_ | refine vops_build2 rfl rfl (by kernel_rfl) ?_ | refine vops_buildZ tyOk rfl (by kernel_rfl) ?_ | refine vops_slice tyOk rfl rfl rfl rfl rfl (by omega) ?_)
  refine bs_dec (fun hlt => ?_) (fun hge => ?_)
  · have hl := freeTo_length a
    repeat (first | refine vops_q tyOk rfl ?_ | refine vops_nil ?_ | refine vw_seq ?_ | refine vw_region (by kernel_rfl) ?_ | refine vops_guardT rfl rfl ?_ | refine vops_guardF rfl rfl ?_ | refine vops_guardU rfl rfl ?_ | with_reducible refine bs_nbeq rfl ?_ | with_reducible refine bs_true ?_ | with_reducible refine bs_false ?_ | with_reducible refine bs_ntrue ?_ | with_reducible refine bs_nfalse ?_ | refine vops_p tyOk rfl (by (try simp only [inR]); omega) ?_ | refine vw_cond rfl ?_ | refine vw_skip ?_ | refine vw_block ?_ | refine vw_ret ?_ | refine vw_exit ?_ | refine vops_loadM tyOk rfl rfl rfl (by repeat (first | exact mem_here | apply mem_next | apply mem_past)) (by rfl) ?_ | refine vops_loadM tyOk rfl rfl rfl (by repeat (first | exact mem_here | apply mem_next | apply mem_past)) (by exact ints_get0 (by omega)) ?_ | refine vops_loadNM tyOk rfl rfl rfl (by repeat (first | exact mem_here | apply mem_next | apply mem_past)) (by first | rfl | (rw [ints_length]; first | assumption | omega | (rw [ints_length]; first | assumption | omega | simp [*])) | simp [*]) ?_ | refine vops_storeIM tyOk rfl rfl rfl rfl (by repeat (first | exact upd_here | apply upd_next | apply upd_past)) (by omega) ?_ | refine vops_storeM tyOk rfl rfl rfl rfl rfl (by repeat (first | exact upd_here | apply upd_next | apply upd_past)) (by simp) ?_ | refine vops_storeAM tyOk rfl rfl rfl (by first | rfl | (rw [ints_length]; first | assumption | omega | (rw [ints_length]; first | assumption | omega | simp [*])) | simp [*]) (by first | exact ints_one | simp [Value.oneCell']) (by repeat (first | exact upd_here | apply upd_next | apply upd_past)) (by first | rfl | (rw [ints_length]; first | assumption | omega | (rw [ints_length]; first | assumption | omega | simp [*])) | simp [*]) ?_ | refine vops_build2 rfl rfl (by kernel_rfl) ?_ | refine vops_buildZ tyOk rfl (by kernel_rfl) ?_ | refine vops_slice tyOk rfl rfl rfl rfl rfl (by omega) ?_)
    exact ⟨(n - (a + 1)).toNat, by omega, a + 1, by omega, by omega, rfl, rfl, rfl, rfl, rfl, by rw [← freeTo_set ha0 (by omega)]⟩
  · obtain rfl : a = n := by omega
    have hl := freeTo_length a
    repeat (first | refine vops_q tyOk rfl ?_ | refine vops_nil ?_ | refine vw_seq ?_ | refine vw_region (by kernel_rfl) ?_ | refine vops_guardT rfl rfl ?_ | refine vops_guardF rfl rfl ?_ | refine vops_guardU rfl rfl ?_ | with_reducible refine bs_nbeq rfl ?_ | with_reducible refine bs_true ?_ | with_reducible refine bs_false ?_ | with_reducible refine bs_ntrue ?_ | with_reducible refine bs_nfalse ?_ | refine vops_p tyOk rfl (by (try simp only [inR]); omega) ?_ | refine vw_cond rfl ?_ | refine vw_skip ?_ | refine vw_block ?_ | refine vw_ret ?_ | refine vw_exit ?_ | refine vops_loadM tyOk rfl rfl rfl (by repeat (first | exact mem_here | apply mem_next | apply mem_past)) (by rfl) ?_ | refine vops_loadM tyOk rfl rfl rfl (by repeat (first | exact mem_here | apply mem_next | apply mem_past)) (by exact ints_get0 (by omega)) ?_ | refine vops_loadNM tyOk rfl rfl rfl (by repeat (first | exact mem_here | apply mem_next | apply mem_past)) (by first | rfl | (rw [ints_length]; first | assumption | omega | (rw [ints_length]; first | assumption | omega | simp [*])) | simp [*]) ?_ | refine vops_storeIM tyOk rfl rfl rfl rfl (by repeat (first | exact upd_here | apply upd_next | apply upd_past)) (by omega) ?_ | refine vops_storeM tyOk rfl rfl rfl rfl rfl (by repeat (first | exact upd_here | apply upd_next | apply upd_past)) (by simp) ?_ | refine vops_storeAM tyOk rfl rfl rfl (by first | rfl | (rw [ints_length]; first | assumption | omega | (rw [ints_length]; first | assumption | omega | simp [*])) | simp [*]) (by first | exact ints_one | simp [Value.oneCell']) (by repeat (first | exact upd_here | apply upd_next | apply upd_past)) (by first | rfl | (rw [ints_length]; first | assumption | omega | (rw [ints_length]; first | assumption | omega | simp [*])) | simp [*]) ?_ | refine vops_build2 rfl rfl (by kernel_rfl) ?_ | refine vops_buildZ tyOk rfl (by kernel_rfl) ?_ | refine vops_slice tyOk rfl rfl rfl rfl rfl (by omega) ?_)
    exact rvc_ints 1 tyOk rfl rfl rfl rfl rfl rfl rfl

/-- The rule of the circle, over what was there, as far as k. -/
def circTo (base : List Int) (i m k : Int) : List Int := (List.range 14).map fun (j : Nat) => if (j : Int) < k then (2 * i + m - j) % m else base.getD j 0
theorem circTo_length (base : List Int) (i m k : Int) : (circTo base i m k).length = 14 := by simp [circTo]
theorem circTo_zero {base : List Int} (hb : base.length = 14) (i m : Int) : circTo base i m 0 = base := by
  apply List.ext_getElem (by simp [circTo, hb])
  intro j h1 h2
  simp only [circTo, List.getElem_map, List.getElem_range]
  rw [if_neg (by omega)]; simp [h2]
theorem circTo_set {base : List Int} {i m k : Int} (h0 : 0 ≤ k) (h1 : k < 14) : (circTo base i m k).set k.toNat ((2 * i + m - k) % m) = circTo base i m (k + 1) := by
  apply List.ext_getElem (by simp [circTo])
  intro j h2 h3
  have hj : j < 14 := by simpa [circTo] using h3
  rw [List.getElem_set]
  simp only [circTo, List.getElem_map, List.getElem_range]
  split
  · rename_i hh; subst hh; rw [if_pos (by omega), show ((k.toNat : Nat) : Int) = k by omega]
  · rename_i hh
    by_cases hk : (j : Int) < k
    · rw [if_pos hk, if_pos (by omega)]
    · rw [if_neg hk, if_neg (by omega)]
/-- A round of the circle. -/
def circRow (n i : Int) : List Int := (List.range 14).map fun (j : Nat) => if n % 2 = 0 ∧ (j : Int) = n - 1 then i else if n % 2 = 0 ∧ (j : Int) = i then n - 1 else if (j : Int) < robinR n then (2 * i + robinR n - j) % robinR n else 0
theorem circRow_length (n i : Int) : (circRow n i).length = 14 := by simp [circRow]
theorem circ_odd {base : List Int} {n i : Int} (h : n % 2 ≠ 0) (hb : ∀ j : Nat, j < 14 → n ≤ j → base.getD j 0 = 0) : circTo base i (robinR n) (robinR n) = circRow n i := by
  have hr : robinR n = n := by unfold robinR; omega
  apply List.ext_getElem (by simp [circTo, circRow])
  intro j h1 h2
  have hj : j < 14 := by simpa [circTo] using h1
  simp only [circTo, circRow, List.getElem_map, List.getElem_range]
  rw [if_neg (show ¬ (n % 2 = 0 ∧ (j : Int) = n - 1) from fun hh => h hh.1), if_neg (show ¬ (n % 2 = 0 ∧ (j : Int) = i) from fun hh => h hh.1)]
  by_cases hk : (j : Int) < robinR n
  · rw [if_pos hk, if_pos hk]
  · rw [if_neg hk, if_neg hk]; exact hb j hj (by omega)
theorem circ_even {base : List Int} {n i : Int} (h : n % 2 = 0) (h2 : 2 ≤ n) (hi : 0 ≤ i) (hi2 : i < robinR n) (hb : ∀ j : Nat, j < 14 → n ≤ j → base.getD j 0 = 0) :
    ((circTo base i (robinR n) (robinR n)).set i.toNat (n - 1)).set (n - 1).toNat i = circRow n i := by
  have hr : robinR n = n - 1 := by unfold robinR; omega
  apply List.ext_getElem (by simp [circTo, circRow])
  intro j h1 h3
  have hj : j < 14 := by simpa [circTo] using h1
  rw [List.getElem_set, List.getElem_set]
  simp only [circTo, circRow, List.getElem_map, List.getElem_range]
  by_cases e1 : (n - 1).toNat = j
  · rw [if_pos e1, if_pos (show n % 2 = 0 ∧ (j : Int) = n - 1 by omega)]
  · rw [if_neg e1, if_neg (show ¬ (n % 2 = 0 ∧ (j : Int) = n - 1) by omega)]
    by_cases e2 : i.toNat = j
    · rw [if_pos e2, if_pos (show n % 2 = 0 ∧ (j : Int) = i by omega)]
    · rw [if_neg e2, if_neg (show ¬ (n % 2 = 0 ∧ (j : Int) = i) by omega)]
      by_cases hk : (j : Int) < robinR n
      · rw [if_pos hk, if_pos hk]
      · rw [if_neg hk, if_neg hk]; exact hb j hj (by omega)

/-- The rounds of the circle. -/
def circRows (n : Int) : List (List Int) := (List.range (robinR n).toNat).map fun (i : Nat) => circRow n i
theorem circRows_length (n : Int) : (circRows n).length = (robinR n).toNat := by simp [circRows]
theorem circRows14 (n : Int) : ∀ r ∈ circRows n, r.length = 14 := by
  intro r h
  obtain ⟨x, _, rfl⟩ := List.mem_map.1 h
  exact circRow_length n x
theorem circRows_get {n : Int} {i : Nat} (h : i < (robinR n).toNat) : (circRows n)[i]? = some (circRow n i) := by simp [circRows, h]
open Classical in
noncomputable def circle (n : Int) : (Int × List (List Int)) × Int := if 2 ≤ n ∧ n ≤ 14 then ((n, circRows n), 0) else ((0, []), 2)
theorem circle_ok (n : Int) : (∀ x ∈ (circle n).1.2, x.length = 14) ∧ (circle n).1.2.length ≤ 1048576 := by
  unfold circle
  split
  · exact ⟨circRows14 n, by rw [circRows_length]; unfold robinR; omega⟩
  · simp

end Go.Proofs.Ytngpongdpphncaa
