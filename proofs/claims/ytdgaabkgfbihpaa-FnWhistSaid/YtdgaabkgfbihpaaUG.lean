import Derived.Test.YtdgaabkgfbihpaaUH
import Derived.Test.YtdgaabkgfbihpaaUD
import Derived.Test.YtdgaabkgfbihpaaUF
import Derived.Test.YtdgaabkgfbihpaaSY
import Derived.Test.YtdgaabkgfbihpaaVLArr
/- Parts of the proof, one after another. No conditions of their own. -/
/- A part of the proof: W22. No conditions of its own. -/
namespace Go.Proofs.Ytdgaabkgfbihpaa
open Go.VL
attribute [local irreducible] VWr VOps VD Calls

open Classical in
set_option maxHeartbeats 2000000 in
set_option maxRecDepth 100000 in
theorem c_l06Fits (n : Nat) (v : Value) (l : List Int) (hn : IsBaseN n) (h4 : l.length % 4 = 0) (hD : DiffL n l) (w : World) (hv : RdI w v l) :
    Calls Try.prog 268 [.int .i64 n, v].toArray w (Res w (Is (.bool (decide (FitsB n l))))) := by
  obtain ⟨a, cap, rfl⟩ := hv.len
  obtain ⟨hn4, hn9, hm0, hmn, hn1⟩ := isBaseN_le hn
  have hll := hD.len
  have hE : IsEv n (madeT (mOf n) l (mOf n)) := ⟨by omega, by omega, by rw [madeT_length]; omega, evRows_made hn h4 hD⟩
  obtain ⟨F, hF⟩ : ∃ F : Prop, F = FitsB n l := ⟨_, rfl⟩
  have hFd : F ↔ ∀ x y, x < n → y < n → relN [1] (madeT (mOf n) l (mOf n)) x y ≤ 1 ∧ relN [2, 3] (madeT (mOf n) l (mOf n)) x y ≤ 2 := by rw [hF]; exact Iff.rfl
  have hMd : ∀ w', Fr [] w w' → Calls Try.prog 177 [.int .i64 n, .slice a l.length cap].toArray w' (Res w' (SqG 42 2 n (madeT (mOf n) l (mOf n)))) := fun w' hf => c_l06Made n _ l w' (hv.same hf) hn4 (by omega) hn1 (by omega) hD.1
  rw [← hF]
  clear hF
  generalize madeT (mOf n) l (mOf n) = es at *
  have hb := fun ds (hd : ds.length ≤ 3) x y => relN_le hE (ds := ds) hd x y
  refine calls_of_vw Try.func268 rfl Try.ntmps268 (by simp) ?_
  repeat (first | refine vops_q tyOk rfl ?_ | refine vops_nil ?_ | refine vw_seq ?_ | refine vw_region (by kernel_rfl) ?_)
  apply vops_call ent177 rfl
  · intro w' hg; exact hMd w' hg.fr
  rintro _ newM ⟨p, cp, rfl, hM⟩
  repeat (first | refine vops_nil ?_ | refine vw_seq ?_ | refine vops_allocZ [.int .i64 0, .slice none 0 0] tyOk rfl rfl (by simp) (fun b5 hb5 => ?_) | ((show VOps _ _ _ _ (⟨none, Go.Op.store _ _ _, _, _, _, none⟩ :: _) _ _); refine vops_storeAM tyOk rfl rfl rfl (by first | rfl | (rw [ints_length]; first | assumption | omega | (rw [ints_length]; first | assumption | omega | simp [*])) | simp [*]) (by first | exact ints_one | simp [Value.oneCell']) (by repeat (first | exact upd_here | apply upd_next | apply upd_past)) (by first | rfl | (rw [ints_length]; first | assumption | omega | (rw [ints_length]; first | assumption | omega | simp [*])) | simp [*]) ?_))
  refine vw_draw [0, 3, 1, 2, 4, 5, 6, 7] (by kernel_rfl) (by kernel_rfl) (by kernel_rfl) rfl ?_
  iterate 2 (first | refine vd_q tyOk rfl (by first | trivial | rfl) rfl (by kernel_rfl) (by kernel_rfl) ?_ | refine vd_p tyOk rfl (by first | trivial | rfl) rfl (by kernel_rfl) (by kernel_rfl) (by (try simp only [inR]); omega) ?_ | refine vd_skipT rfl rfl (by kernel_rfl) (by kernel_rfl) ?_ | refine vd_skipF rfl rfl (by kernel_rfl) (by kernel_rfl) ?_ | refine vd_skipU rfl rfl (by kernel_rfl) (by kernel_rfl) ?_ | refine vops_nil ?_ | refine vd_nil (by kernel_rfl) ?_ | refine ⟨fun _ _ _ h => h, ?_⟩ | refine ⟨fun _ _ _ h => List.mem_cons_of_mem _ h, ?_⟩ | refine ⟨fun _ _ _ h => List.mem_append_right _ h, ?_⟩ | refine vops_q tyOk rfl ?_ | refine vd_load tyOk rfl (by first | trivial | rfl) rfl rfl rfl (by kernel_rfl) (by kernel_rfl) (by kernel_rfl) (sees_mem (by repeat (first | exact mem_here | apply mem_next | apply mem_past)) (by rfl)) (by repeat (first | exact sub_hereL | exact sub_refl | apply sub_cons | apply sub_app)) ?_ | refine vd_load tyOk rfl (by first | trivial | rfl) rfl rfl rfl (by kernel_rfl) (by kernel_rfl) (by kernel_rfl) (sees_mem (k := ⟨ints _, _, _, none⟩) (by repeat (first | exact mem_here | apply mem_next | apply mem_past)) (by exact ints_get0 (by omega))) (by repeat (first | exact sub_hereL | exact sub_refl | apply sub_cons | apply sub_app)) ?_ | refine vd_loadNM tyOk rfl (by first | trivial | rfl) rfl rfl rfl (by repeat (first | exact mem_here | apply mem_next | apply mem_past)) (by first | rfl | (rw [ints_length]; first | assumption | omega | (rw [ints_length]; first | assumption | omega | simp [*])) | simp [*]) (by kernel_rfl) (by kernel_rfl) (by kernel_rfl) (by repeat (first | exact sub_hereL | exact sub_refl | apply sub_cons | apply sub_app)) ?_ | refine vd_build2 rfl (by first | trivial | rfl) rfl rfl (by kernel_rfl) (by kernel_rfl) (by kernel_rfl) ?_ | refine vd_slice tyOk rfl (by first | trivial | rfl) rfl rfl rfl rfl rfl (by kernel_rfl) (by kernel_rfl) (by omega) ?_ | refine ⟨fun h => Bool.noConfusion (show false = true from h), ?_⟩ | refine ⟨fun _ p hp _ => (show Go.VL.Sub _ _ from (by repeat (first | exact sub_hereL | exact sub_refl | apply sub_cons | apply sub_app))) p hp, ?_⟩ | fail | ((show VOps _ _ _ _ (⟨some _, Go.Op.load _ _, _, _, _, none⟩ :: _) _ _); first | refine vops_loadM tyOk rfl rfl rfl (by repeat (first | exact mem_here | apply mem_next | apply mem_past)) (by rfl) ?_ | refine vops_loadM tyOk rfl rfl rfl (by repeat (first | exact mem_here | apply mem_next | apply mem_past)) (by exact ints_get0 (by omega)) ?_ | refine vops_loadNM tyOk rfl rfl rfl (by repeat (first | exact mem_here | apply mem_next | apply mem_past)) (by first | rfl | (rw [ints_length]; first | assumption | omega | (rw [ints_length]; first | assumption | omega | simp [*])) | simp [*]) ?_) | ((show VOps _ _ _ _ (⟨none, Go.Op.store _ _ _, _, _, _, none⟩ :: _) _ _); first | refine vops_storeIM tyOk rfl rfl rfl rfl (by repeat (first | exact upd_here | apply upd_next | apply upd_past)) (by omega) ?_ | refine vops_storeM tyOk rfl rfl rfl rfl rfl (by repeat (first | exact upd_here | apply upd_next | apply upd_past)) (by simp) ?_ | refine vops_storeAM tyOk rfl rfl rfl (by first | rfl | (rw [ints_length]; first | assumption | omega | (rw [ints_length]; first | assumption | omega | simp [*])) | simp [*]) (by first | exact ints_one | simp [Value.oneCell']) (by repeat (first | exact upd_here | apply upd_next | apply upd_past)) (by first | rfl | (rw [ints_length]; first | assumption | omega | (rw [ints_length]; first | assumption | omega | simp [*])) | simp [*]) ?_) | refine vops_build2 rfl rfl (by kernel_rfl) ?_ | refine vops_buildZ tyOk rfl (by kernel_rfl) ?_ | refine vops_slice tyOk rfl rfl rfl rfl rfl (by omega) ?_ | refine vd_one rfl (by kernel_rfl) (by kernel_rfl) rfl ?_ | refine vd_oneG rfl (by kernel_rfl) (by kernel_rfl) rfl ?_ | (refine vd_gsplit rfl rfl rfl ?_; (fail_if_success (with_reducible (first | refine bs_true ?_ | refine bs_false ?_))); with_reducible refine bs_dec (fun _ => ?_) (fun _ => ?_)) <;> try (exfalso; omega) | (refine vd_gsplit rfl rfl rfl ?_; (fail_if_success (with_reducible (first | refine bs_true ?_ | refine bs_false ?_))); with_reducible refine bs_ndec (fun _ => ?_) (fun _ => ?_)) <;> try (exfalso; omega) | (refine vd_gsplit rfl rfl rfl ?_; (fail_if_success (with_reducible (first | refine bs_true ?_ | refine bs_false ?_))); with_reducible refine bs_nany (fun _ => ?_) (fun _ => ?_)) <;> try (exfalso; omega) | (refine vd_gsplit rfl rfl rfl ?_; (fail_if_success (with_reducible (first | refine bs_true ?_ | refine bs_false ?_))); with_reducible refine bs_any (fun _ => ?_) (fun _ => ?_)) <;> try (exfalso; omega))
  refine vd_two (j := 4) [2, 4, 5, 6, 7] [1, 2, 5, 6, 7] rfl rfl (by kernel_rfl) rfl rfl rfl rfl (vops_litI [_] tyOk rfl rfl (List.cons_ne_nil _ _) (by rfl) rfl (by omega) (by omega) (fun bt hbt => vops_nil ⟨fun _ _ _ h => List.mem_cons_of_mem _ h, vd_two (j := 4) [4, 5, 6, 7] [2, 5, 6, 7] rfl rfl (by kernel_rfl) rfl rfl rfl rfl ?_ ?_⟩)) ?_
  all_goals
    repeat' (first | refine vd_q tyOk rfl (by first | trivial | rfl) rfl (by kernel_rfl) (by kernel_rfl) ?_ | refine vops_nil ?_ | refine vd_nil (by kernel_rfl) ?_ | refine ⟨fun _ _ _ h => List.mem_cons_of_mem _ h, ?_⟩ | refine ⟨fun _ _ _ h => List.mem_append_right _ h, ?_⟩ | refine vops_litI [_] tyOk rfl rfl (List.cons_ne_nil _ _) (by rfl) rfl (by omega) (by omega) (fun bt hbt => ?_) | refine vops_litI [_, _] tyOk rfl rfl (List.cons_ne_nil _ _) (by rfl) rfl (by omega) (by omega) (fun bu hbu => ?_) | (apply vops_call ent167 rfl; (intro w' hg; exact c_l06Table n _ _ es [1] hE (by simp) (by simp) w' (hM.rdG (by repeat (first | exact sub_hereL | exact sub_refl | apply sub_cons | apply sub_app)) hg) (rdI_lit (l := [1]) (by repeat (first | exact mem_here | apply mem_next | apply mem_past)) hg rfl)); (rintro _ newN ⟨vs1, ns1, outer1, hR1, hO1, rfl⟩; rw [show (relT n [1] es).length = n from tabOf_length _ _] at hO1; obtain ⟨p1, cp1, rfl⟩ := hO1.form; obtain ⟨bo1, rfl, rfl⟩ := outer_blk hO1 (by omega))) | (apply vops_call ent167 rfl; (intro w' hg; exact c_l06Table n _ _ es [2, 3] hE (by simp) (by simp) w' (hM.rdG (by repeat (first | exact sub_hereL | exact sub_refl | apply sub_cons | apply sub_app)) hg) (rdI_lit (l := [2, 3]) (by repeat (first | exact mem_here | apply mem_next | apply mem_past)) hg rfl)); (rintro _ newN ⟨vs2, ns2, outer2, hR2, hO2, rfl⟩; rw [show (relT n [2, 3] es).length = n from tabOf_length _ _] at hO2; obtain ⟨p2, cp2, rfl⟩ := hO2.form; obtain ⟨bo2, rfl, rfl⟩ := outer_blk hO2 (by omega))) | refine vd_one rfl (by kernel_rfl) (by kernel_rfl) rfl ?_)
    repeat (first | refine vops_q tyOk rfl ?_ | refine vops_nil ?_ | refine vw_seq ?_ | refine vw_region (by kernel_rfl) ?_ | refine vw_block ?_)
    refine vw_loopW (fun y f own => ∃ i : Nat, i ≤ n ∧ y = n - i ∧ f 8 = .int .i64 i ∧ f 6 = .slice (some ⟨bo1, 0, none⟩) n cp1 ∧ f 7 = .slice (some ⟨bo2, 0, none⟩) n cp2 ∧ own = (bo1, ⟨vs1, 42, cp1 * 1, none⟩) :: ((bo2, ⟨vs2, 42, cp2 * 1, none⟩) :: (ns1.flatten ++ ns2.flatten)) ∧
        ∀ x y : Nat, x < i → y < n → relN [1] es x y ≤ 1 ∧ relN [2, 3] es x y ≤ 2) n
      ⟨_, (by simp only [List.cons_append, List.nil_append]; refine ole_cons (by repeat (first | exact pm1_here | apply pm1_next | apply pm1_past)) ?_; refine ole_cons (by repeat (first | exact pm1_here | apply pm1_next | apply pm1_past)) ?_; refine ole_app (by repeat (first | exact pm_here | exact pm_last | apply pm_next | apply pm_past)) ?_; exact ⟨_, List.Perm.refl _⟩), 0, by omega, by omega, rfl, rfl, rfl, rfl, fun x y hx => by omega⟩ ?_
    rintro y f own ⟨i, hi, rfl, h8, h6, h7, rfl, hall⟩
    rw [upd_of h8, upd_of h6, upd_of h7]
    repeat (first | refine vops_q tyOk rfl ?_ | refine vops_nil ?_ | refine vw_seq ?_ | refine vw_region (by kernel_rfl) ?_ | refine vw_cond rfl ?_)
    refine bs_dec (fun hlt => ?_) (fun hlt => ?_)
    rotate_left
    · obtain rfl : i = n := by omega
      repeat (first | refine vops_q tyOk rfl ?_ | refine vops_nil ?_ | refine vw_seq ?_ | refine vw_region (by kernel_rfl) ?_ | refine vw_ret ?_ | refine vw_exit ?_)
      exact rv_bool rfl rfl (decide_eq_true (hFd.2 hall)).symm
    have hik : i < n := by omega
    obtain ⟨br1, cr1, na1, nb1, hv1, rfl⟩ := tab_cell hR1 hik
    obtain ⟨br2, cr2, na2, nb2, hv2, rfl⟩ := tab_cell hR2 hik
    have hva1 := vals_get hv1 (show 0 + (i : Int).toNat = i by omega)
    have hva2 := vals_get hv2 (show 0 + (i : Int).toNat = i by omega)
    obtain ⟨O, hO⟩ : ∃ O : Own, O = (bo1, (⟨vs1, 42, cp1 * 1, none⟩ : Blk)) :: ((bo2, ⟨vs2, 42, cp2 * 1, none⟩) :: ((na1 ++ [(br1, ⟨ints ((List.range n).map fun b => (relN [1] es i b : Int)), 2, cr1 * 1, none⟩)] :: nb1).flatten ++ (na2 ++ [(br2, ⟨ints ((List.range n).map fun b => (relN [2, 3] es i b : Int)), 2, cr2 * 1, none⟩)] :: nb2).flatten)) := ⟨_, rfl⟩
    have m1 : (bo1, (⟨vs1, 42, cp1 * 1, none⟩ : Blk)) ∈ O := by rw [hO]; exact List.mem_cons_self
    have m2 : (bo2, (⟨vs2, 42, cp2 * 1, none⟩ : Blk)) ∈ O := by rw [hO]; exact List.mem_cons_of_mem _ List.mem_cons_self
    have m3 : (br1, (⟨ints ((List.range n).map fun b => (relN [1] es i b : Int)), 2, cr1 * 1, none⟩ : Blk)) ∈ O := by rw [hO]; exact List.mem_cons_of_mem _ (List.mem_cons_of_mem _ (List.mem_append_left _ (mem_flat List.mem_cons_self)))
    have m4 : (br2, (⟨ints ((List.range n).map fun b => (relN [2, 3] es i b : Int)), 2, cr2 * 1, none⟩ : Blk)) ∈ O := by rw [hO]; exact List.mem_cons_of_mem _ (List.mem_cons_of_mem _ (List.mem_append_right _ (mem_flat List.mem_cons_self)))
    rw [← hO]
    repeat (first | refine vops_q tyOk rfl ?_ | refine vops_nil ?_ | refine vw_seq ?_ | refine vw_region (by kernel_rfl) ?_ | refine vw_skip ?_ | refine vw_block ?_)
    refine vw_loopW (fun y f own => ∃ j : Nat, j ≤ n ∧ y = n - j ∧ f 9 = .int .i64 j ∧ f 8 = .int .i64 i ∧ f 6 = .slice (some ⟨bo1, 0, none⟩) n cp1 ∧ f 7 = .slice (some ⟨bo2, 0, none⟩) n cp2 ∧ own = O ∧
        ∀ y : Nat, y < j → relN [1] es i y ≤ 1 ∧ relN [2, 3] es i y ≤ 2) n
      ⟨_, ole_refl, 0, by omega, by omega, rfl, rfl, rfl, rfl, rfl, fun y hy => by omega⟩ ?_
    rintro y f own ⟨j, hj, rfl, h9, h8, h6, h7, rfl, hall2⟩
    rw [upd_of h9, upd_of h8, upd_of h6, upd_of h7]
    repeat (first | refine vops_q tyOk rfl ?_ | refine vops_nil ?_ | refine vw_seq ?_ | refine vw_region (by kernel_rfl) ?_ | refine vw_cond rfl ?_)
    refine bs_dec (fun hlt2 => ?_) (fun hlt2 => ?_)
    rotate_left
    · obtain rfl : j = n := by omega
      repeat (first | refine vops_q tyOk rfl ?_ | refine vops_nil ?_ | refine vw_region (by kernel_rfl) ?_ | refine vops_p tyOk rfl (by (try simp only [inR]); omega) ?_ | refine vw_exit ?_)
      subst hO
      refine ⟨j - (i + 1), by omega, _, ole_refl, i + 1, by omega, rfl, rfl, rfl, rfl, rfl, fun x y hx hy => ?_⟩
      by_cases hxi : x = i
      · subst hxi; exact hall2 y (by omega)
      · exact hall x y (by omega) hy
    have hjn : j < n := by omega
    have hb1 := hb [1] (by simp) i j
    have hb2 := hb [2, 3] (by simp) i j
    have hc1 : (ints ((List.range n).map fun b => (relN [1] es i b : Int)))[0 + (j : Int).toNat]? = some (.int .i64 (relN [1] es i j : Int)) := by
      rw [show 0 + (j : Int).toNat = j by omega, ints_get (by rw [row_length]; omega), row_get hjn]
    have hc2 : (ints ((List.range n).map fun b => (relN [2, 3] es i b : Int)))[0 + (j : Int).toNat]? = some (.int .i64 (relN [2, 3] es i j : Int)) := by
      rw [show 0 + (j : Int).toNat = j by omega, ints_get (by rw [row_length]; omega), row_get hjn]
    repeat (first | refine vops_q tyOk rfl ?_ | refine vw_seq ?_ | refine vw_region (by kernel_rfl) ?_ | refine vops_guardF rfl rfl ?_ | refine vops_p tyOk rfl (by (try simp only [inR]); omega) ?_ | refine vw_skip ?_ | refine vw_block ?_ | refine vops_loadM tyOk rfl rfl rfl m1 (by exact hva1) ?_ | refine vops_loadM tyOk rfl rfl rfl m3 (by exact hc1) ?_)
    refine bs_dec (fun hgt => ?_) (fun hgt => ?_)
    · repeat (first | refine vops_q tyOk rfl ?_ | refine vops_nil ?_ | refine vw_seq ?_ | refine vw_region (by kernel_rfl) ?_ | refine vops_guardF rfl rfl ?_ | with_reducible refine bs_true ?_ | refine vw_cond rfl ?_ | refine vw_ret ?_)
      exact rv_bool rfl rfl (decide_eq_false fun h => by have := (hFd.1 h i j hik hjn).1; omega).symm
    repeat (first | refine vops_q tyOk rfl ?_ | refine vops_nil ?_ | refine vops_guardF rfl rfl ?_ | with_reducible refine bs_false ?_ | refine vops_p tyOk rfl (by (try simp only [inR]); omega) ?_ | refine vw_cond rfl ?_ | refine vops_loadM tyOk rfl rfl rfl m2 (by exact hva2) ?_ | refine vops_loadM tyOk rfl rfl rfl m4 (by exact hc2) ?_)
    refine bs_dec (fun hgt2 => ?_) (fun hgt2 => ?_)
    · repeat (first | refine vops_q tyOk rfl ?_ | refine vops_nil ?_ | refine vw_seq ?_ | refine vw_region (by kernel_rfl) ?_ | refine vw_ret ?_)
      exact rv_bool rfl rfl (decide_eq_false fun h => by have := (hFd.1 h i j hik hjn).2; omega).symm
    repeat (first | refine vops_q tyOk rfl ?_ | refine vops_nil ?_ | refine vw_region (by kernel_rfl) ?_ | refine vops_p tyOk rfl (by (try simp only [inR]); omega) ?_ | refine vw_skip ?_)
    refine ⟨n - (j + 1), by omega, _, ole_refl, j + 1, by omega, rfl, rfl, rfl, rfl, rfl, rfl, fun y hy => ?_⟩
    by_cases hyj : y = j
    · subst hyj; omega
    · exact hall2 y (by omega)
end Go.Proofs.Ytdgaabkgfbihpaa

/- A part of the proof: W23. No conditions of its own. -/
namespace Go.Proofs.Ytdgaabkgfbihpaa
open Go.VL
attribute [local irreducible] VWr VOps VD Calls

theorem iL_get {g : Nat → Option (List Int)} {r : List Int} : ∀ {k}, iL g k = some r → ∃ x, x < k ∧ g x = some r
  | 0, h => by cases h
  | k + 1, h => by
    rw [iL] at h
    cases hk : iL g k with
    | some r' =>
      rw [hk] at h
      cases h
      obtain ⟨x, hx, h2⟩ := iL_get hk
      exact ⟨x, by omega, h2⟩
    | none =>
      rw [hk] at h
      exact ⟨k, by omega, h⟩
theorem iS_len (n : Nat) : ∀ (f : Nat) {l r : List Int}, iS n f l = some r → r.length = l.length + f
  | 0, l, r, h => by
    unfold iS at h
    split at h
    · cases h; rfl
    · cases h
  | f + 1, l, r, h => by
    rw [iS_succ] at h
    split at h
    · cases h
    · obtain ⟨x, _, h2⟩ := iL_get h
      split at h2
      · cases h2
      · have := iS_len n f h2
        rw [List.length_append, List.length_singleton] at this
        omega
open Classical in
/-- The first base round, and a code. -/
noncomputable def baseR (n : Int) : List Int × Int :=
  if n = 4 ∨ n = 5 ∨ n = 8 ∨ n = 9 then (match iS n.toNat (n.toNat - n.toNat % 4) [] with | some r => (r, 0) | none => ([], 4)) else ([], 2)
theorem baseR_len (n : Int) : (baseR n).1.length ≤ 1048576 := by
  unfold baseR
  split
  · rename_i h
    cases hs : iS n.toNat (n.toNat - n.toNat % 4) [] with
    | some r =>
      have := iS_len _ _ hs
      show r.length ≤ _
      rw [List.length_nil] at this; omega
    | none => simp
  · simp
theorem whole_made {n : Nat} (hn : IsBaseN n) {l : List Int} (hl : l.length = n - n % 4) : WholeR n (madeT (mOf n) l (mOf n)) := by
  obtain ⟨hn4, hn9, hm0, hmn, hn1⟩ := isBaseN_le hn
  refine ⟨by omega, by rw [madeT_length]; unfold mOf; omega, fun r hr => ?_⟩
  obtain ⟨i, _, rfl⟩ := madeT_mem hr
  rw [List.length_map]; omega
theorem canB_nil (n : Nat) : CanB n [] := by
  refine ⟨fun g => ?_, fun g => ?_⟩ <;> simp [gapC, relP_nil]
def ResS (e : Nat) (v0 : Value) (fu : Nat) (o : Option (List Int)) (v : Value) (new : Own) : Prop :=
  match o with
  | none => new = [] ∧ ∃ p k c, v = .tuple #[.slice p k c, .bool false]
  | some r => (fu = 0 ∧ new = [] ∧ v = .tuple #[v0, .bool true]) ∨ (0 < fu ∧ ∃ p cap, v = .tuple #[.slice p r.length cap, .bool true] ∧ NewI e r (.slice p r.length cap) new)

open Classical in
set_option maxHeartbeats 2000000 in
set_option maxRecDepth 100000 in
theorem c_l06Base (n : Nat) (hn : IsBaseN n) : ∀ (fu : Nat) (l : List Int) (v : Value) (w : World), l.length + fu = n - n % 4 → DiffL n l → RdI w v l →
    Calls Try.prog 181 [.int .i64 n, v].toArray w (Res w (ResS 2 v fu (iS n fu l))) := by
  obtain ⟨hn4, hn9, hm0, hmn, hn1⟩ := isBaseN_le hn
  intro fu
  induction fu with
  | zero =>
    intro l v w hlen hD hv
    obtain ⟨a, cap, rfl⟩ := hv.len
    have h4 : l.length % 4 = 0 := by omega
    have hE : IsEv n (madeT (mOf n) l (mOf n)) := ⟨by omega, by omega, by rw [madeT_length]; omega, evRows_made hn h4 hD⟩
    have hW : Whist n (madeT (mOf n) l (mOf n)) ↔ CanB n l := by
      rw [can_whist hn (by omega) hD]
      exact ⟨fun h => h.2, fun h => ⟨whole_made hn (by omega), h⟩⟩
    refine calls_of_vw Try.func181 rfl Try.ntmps181 (by simp) ?_
    repeat (first | refine vops_q tyOk rfl ?_ | refine vops_nil ?_ | refine vw_seq ?_ | refine vw_region (by kernel_rfl) ?_ | refine vops_p tyOk rfl (by (try simp only [inR]); omega) ?_ | refine vw_cond rfl ?_)
    refine bs_dec (fun _ => ?_) (fun h => absurd (by omega) h)
    repeat (first | refine vops_q tyOk rfl ?_ | refine vw_seq ?_ | refine vw_region (by kernel_rfl) ?_)
    apply vops_call ent177 rfl
    · intro w' hg; exact c_l06Made n _ l w' (hv.same hg.fr) hn4 (by omega) hn1 (by omega) hD.1
    rintro _ newM ⟨p, cp, rfl, hM⟩
    repeat (first | refine vops_q tyOk rfl ?_ | refine vops_nil ?_ | refine vw_ret ?_ | (apply vops_callp ent164 rfl; (intro w' hg; exact c_l06Whist n _ _ hE w' (hM.rdG (by repeat (first | exact sub_hereL | exact sub_refl | apply sub_cons | apply sub_app)) hg))))
    refine out2 rfl rfl rfl (new := []) List.nodup_nil sub_nil ?_
    unfold iS
    by_cases hc : CanB n l
    · rw [if_pos hc, decide_eq_true (hW.2 hc)]
      exact .inl ⟨rfl, rfl, rfl⟩
    · rw [if_neg hc, decide_eq_false fun h => hc (hW.1 h)]
      exact ⟨rfl, _, _, _, rfl⟩
  | succ fu ih =>
    intro l v w hlen hD hv
    obtain ⟨a, cap, rfl⟩ := hv.len
    obtain ⟨G, hGd⟩ : ∃ G : Nat → Option (List Int), (fun x : Nat => if (x : Int) ∈ l then none else iS n fu (l ++ [(x : Int)])) = G := ⟨_, rfl⟩
    refine calls_of_vw Try.func181 rfl Try.ntmps181 (by simp) ?_
    have fin : l.length % 4 = 0 → ∀ w', Fr [] w w' → Calls Try.prog 268 [.int .i64 n, .slice a l.length cap].toArray w' (Res w' (Is (.bool (decide (FitsB n l))))) := fun h4 w' hf => c_l06Fits n _ l hn h4 hD w' (hv.same hf)
    repeat' (first | refine vops_q tyOk rfl ?_ | refine vops_nil ?_ | refine vw_seq ?_ | refine vw_region (by kernel_rfl) ?_ | refine vops_guardT rfl rfl ?_ | with_reducible refine bs_true ?_ | with_reducible refine bs_false ?_ | refine vops_p tyOk rfl (by (try simp only [inR]); omega) ?_ | refine vw_cond rfl ?_ | refine vw_skip ?_ | refine vw_block ?_ | refine vw_ret ?_ | (with_reducible refine bs_dec (fun _ => ?_) (fun _ => ?_)) <;> try (exfalso; omega) | (with_reducible refine bs_ndec (fun _ => ?_) (fun _ => ?_)) <;> try (exfalso; omega) | (apply vops_callp ent268 rfl; (intro w' hg; exact fin (by omega) w' hg.fr)))
    all_goals try (exfalso; omega)
    all_goals first | exact out2 rfl rfl rfl (new := []) List.nodup_nil sub_nil (by rw [iS_succ, if_pos ⟨by omega, fun h => absurd ((can_fits hn (by omega) hD).1 h) (by assumption)⟩]; exact ⟨rfl, _, _, _, rfl⟩) | skip
    all_goals
      have hmain : iS n (fu + 1) l = iL G n := by
        rw [← hGd, iS_succ, if_neg]
        rintro ⟨h1, h2⟩
        first | exact h2 ((can_fits hn h1 hD).2 (by assumption)) | omega | exact h2 ((List.eq_nil_of_length_eq_zero (by omega) : l = []) ▸ canB_nil n)
      refine vw_loopW (fun y g own => ∃ x : Nat, x ≤ n ∧ y = n - x ∧ g 6 = .int .i64 x ∧ g 1 = .slice a l.length cap ∧ g 0 = .int .i64 n ∧ iL G x = none ∧ own = []) n
        ⟨[], ole_refl, 0, by omega, by omega, rfl, rfl, rfl, rfl, rfl⟩ ?_
      rintro y g own ⟨x, hx, rfl, h6, h1, h0, hnone, rfl⟩
      rw [upd_of h6, upd_of h1, upd_of h0]
      repeat (first | refine vops_q tyOk rfl ?_ | refine vops_nil ?_ | refine vw_seq ?_ | refine vw_region (by kernel_rfl) ?_ | refine vw_cond rfl ?_)
      refine bs_dec (fun hlt => ?_) (fun hlt => ?_)
      rotate_left
      · obtain rfl : x = n := by omega
        repeat (first | refine vops_q tyOk rfl ?_ | refine vops_nil ?_ | refine vw_seq ?_ | refine vw_region (by kernel_rfl) ?_ | refine vw_ret ?_ | refine vw_exit ?_)
        exact out2 rfl rfl rfl (new := []) List.nodup_nil sub_nil (by rw [hmain, hnone]; exact ⟨rfl, _, _, _, rfl⟩)
      have hxn : x < n := by omega
      repeat (first | refine vops_q tyOk rfl ?_ | refine vops_nil ?_ | refine vw_seq ?_ | refine vw_region (by kernel_rfl) ?_ | refine vw_skip ?_ | refine vw_block ?_)
      refine vw_loop (fun y g own => ∃ i : Nat, i ≤ l.length ∧ y = l.length - i ∧ g 8 = .int .i64 i ∧ g 7 = .bool (decide ((x : Int) ∈ l.take i)) ∧ g 6 = .int .i64 x ∧ g 1 = .slice a l.length cap ∧ g 0 = .int .i64 n ∧ own = []) l.length
        ⟨0, by omega, by omega, rfl, by show Value.bool false = Value.bool (decide _); congr 1, rfl, rfl, rfl, rfl⟩ ?_
      rintro y g own ⟨i, hi, rfl, h8, h7, h6, h1, h0, rfl⟩
      rw [upd_of h8, upd_of h7, upd_of h6, upd_of h1, upd_of h0]
      repeat (first | refine vops_q tyOk rfl ?_ | refine vops_nil ?_ | refine vw_seq ?_ | refine vw_region (by kernel_rfl) ?_ | refine vw_cond rfl ?_)
      refine bs_dec (fun hlt2 => ?_) (fun hlt2 => ?_)
      · have hil : i < l.length := by omega
        obtain ⟨b', o, cap', hee, hcell⟩ := hv.at (i := i) hil
        cases hee
        have hc := hcell i hil
        have htk := take_snoc hil
        repeat (first | refine vops_q tyOk rfl ?_ | refine vw_seq ?_ | refine vw_region (by kernel_rfl) ?_ | refine vops_guardF rfl rfl ?_ | refine vw_skip ?_ | refine vw_block ?_)
        refine bs_dec (fun hk => ?_) (fun hk => ?_)
        · repeat (first | refine vops_q tyOk rfl ?_ | refine vops_nil ?_ | refine vw_region (by kernel_rfl) ?_ | refine vops_guardF rfl rfl ?_ | with_reducible refine bs_true ?_ | refine vops_p tyOk rfl (by (try simp only [inR]); omega) ?_)
          exact ⟨l.length - (i + 1), by omega, i + 1, by omega, rfl, rfl, by rw [decide_eq_true (show (x : Int) ∈ l.take (i + 1) from by rw [htk]; exact List.mem_append_left _ hk)]; rfl, rfl, rfl, rfl, rfl⟩
        · repeat (first | refine vops_q tyOk rfl ?_ | refine vops_nil ?_ | refine vw_region (by kernel_rfl) ?_ | refine vops_guardF rfl rfl ?_ | with_reducible refine bs_false ?_ | refine vops_p tyOk rfl (by (try simp only [inR]); omega) ?_ | refine vops_load tyOk rfl rfl rfl (sees_old hc (by simp)) ?_)
          refine ⟨l.length - (i + 1), by omega, i + 1, by omega, rfl, rfl, ?_, rfl, rfl, rfl, rfl⟩
          show Value.bool (decide (l.getD i 0 = (x : Int))) = Value.bool (decide _)
          congr 1
          exact decide_eq_decide.2 ⟨fun h => by rw [htk, h]; exact List.mem_append_right _ List.mem_cons_self, fun h => by
            rw [htk] at h
            rcases List.mem_append.1 h with h | h
            · exact absurd h hk
            · exact (List.mem_singleton.1 h).symm⟩
      obtain rfl : i = l.length := by omega
      rw [List.take_length]
      repeat (first | refine vops_q tyOk rfl ?_ | refine vops_nil ?_ | refine vw_seq ?_ | refine vw_region (by kernel_rfl) ?_ | refine vw_cond rfl ?_ | refine vw_exit ?_)
      refine bs_dec (fun hin => ?_) (fun hin => ?_)
      · have hG : G x = none := by rw [← hGd]; exact if_pos hin
        repeat (first | refine vops_q tyOk rfl ?_ | refine vops_nil ?_ | refine vw_region (by kernel_rfl) ?_ | refine vops_p tyOk rfl (by (try simp only [inR]); omega) ?_ | refine vw_exit ?_)
        exact ⟨n - (x + 1), by omega, _, ole_refl, x + 1, by omega, rfl, rfl, rfl, rfl, iL_none hnone hG, rfl⟩
      have hG : G x = iS n fu (l ++ [(x : Int)]) := by rw [← hGd]; exact if_neg hin
      repeat (first | refine vops_q tyOk rfl ?_ | refine vw_seq ?_ | refine vw_region (by kernel_rfl) ?_ | refine vw_skip ?_ | (apply vops_call ent239 rfl; (intro w' hg; exact c_l01Own _ l w' (hv.same hg.fr) (by omega)); (intro _ newN hN; obtain ⟨pN, cN, rfl⟩ := SlAt.form hN)) | refine vops_litI [_] tyOk rfl rfl (List.cons_ne_nil _ _) (by rfl) rfl (by omega) (by omega) (fun bt hbt => ?_) | refine vops_append1 (k := 1) tyOk rfl rfl (List.cons_ne_nil _ _) rfl rfl (by decide) rfl (NewI.f hN) (by repeat (first | exact pm_here | exact pm_last | apply pm_next | apply pm_past)) rfl (by repeat (first | exact mem_here | apply mem_next | apply mem_past)) rfl (by omega) (fun p' cap' new' hN' => ?_))
      have hN2 : NewI 2 (l ++ [(x : Int)]) (.slice p' (l.length + 1) cap') new' := NewI.snoc hN' rfl
      apply vops_call ent181 rfl
      · intro w' hg; exact ih (l ++ [(x : Int)]) _ w' (by rw [List.length_append, List.length_singleton]; omega) (diff_end hD hxn hin) (hN2.rdG (by repeat (first | exact sub_hereL | exact sub_refl | apply sub_cons | apply sub_app)) hg)
      intro vr newO hR
      rw [← hG] at hR
      cases hGx : G x with
      | some r =>
        rw [hGx] at hR
        have hres := iL_some hnone hGx n hxn
        rcases hR with ⟨hf0, rfl, rfl⟩ | ⟨_, pr, cr, rfl, hNr⟩
        · have hr : r = l ++ [(x : Int)] := by
            rw [hf0] at hG
            rw [hGx] at hG
            unfold iS at hG
            split at hG
            · exact Option.some.inj hG
            · cases hG
          subst hr
          repeat (first | refine vops_q tyOk rfl ?_ | refine vops_nil ?_ | refine vw_seq ?_ | refine vw_region (by kernel_rfl) ?_ | with_reducible refine bs_true ?_ | refine vw_cond rfl ?_ | refine vw_ret ?_)
          exact out2 rfl rfl rfl (new := new') (SlAt.nodup hN2) (by repeat (first | exact sub_hereL | exact sub_refl | apply sub_cons | apply sub_app)) (by rw [hmain, hres]; exact .inr ⟨by omega, p', cap', by rw [List.length_append, List.length_singleton]; rfl, by rw [List.length_append, List.length_singleton]; exact hN2⟩)
        · repeat (first | refine vops_q tyOk rfl ?_ | refine vops_nil ?_ | refine vw_seq ?_ | refine vw_region (by kernel_rfl) ?_ | with_reducible refine bs_true ?_ | refine vw_cond rfl ?_ | refine vw_ret ?_)
          exact out2 rfl rfl rfl (new := newO) (SlAt.nodup hNr) (by repeat (first | exact sub_hereL | exact sub_refl | apply sub_cons | apply sub_app)) (by rw [hmain, hres]; exact .inr ⟨by omega, pr, cr, rfl, hNr⟩)
      | none =>
        rw [hGx] at hR
        obtain ⟨rfl, pu, ku, cu, rfl⟩ := hR
        repeat (first | refine vops_q tyOk rfl ?_ | refine vops_nil ?_ | refine vw_seq ?_ | refine vw_region (by kernel_rfl) ?_ | with_reducible refine bs_false ?_ | refine vops_p tyOk rfl (by (try simp only [inR]); omega) ?_ | refine vw_cond rfl ?_ | refine vw_skip ?_)
        exact ⟨n - (x + 1), by omega, [], ole_nil, x + 1, by omega, rfl, rfl, rfl, rfl, iL_none hnone hGx, rfl⟩
end Go.Proofs.Ytdgaabkgfbihpaa

/- A part of the proof: W24. No conditions of its own. -/
namespace Go.Proofs.Ytdgaabkgfbihpaa
open Go.VL
attribute [local irreducible] VWr VOps VD Calls

theorem baseR_some {n : Nat} (hn : IsBaseN n) {r : List Int} (h : iS n (n - n % 4) [] = some r) : baseR n = (r, 0) := by
  have h2 : (n : Int) = 4 ∨ (n : Int) = 5 ∨ (n : Int) = 8 ∨ (n : Int) = 9 := by unfold IsBaseN at hn; omega
  unfold baseR
  rw [if_pos h2, Int.toNat_natCast, h]
theorem baseR_none {n : Nat} (hn : IsBaseN n) (h : iS n (n - n % 4) [] = none) : baseR n = ([], 4) := by
  have h2 : (n : Int) = 4 ∨ (n : Int) = 5 ∨ (n : Int) = 8 ∨ (n : Int) = 9 := by unfold IsBaseN at hn; omega
  unfold baseR
  rw [if_pos h2, Int.toNat_natCast, h]
theorem diff_nil (n : Int) : DiffL n [] := ⟨fun _ h => (by cases h), List.nodup_nil⟩
open Classical in
set_option maxHeartbeats 2000000 in
set_option maxRecDepth 100000 in
theorem c_impl_FirstBase (n : Int) (w : World) : Calls Try.prog 74 [Value.int .i64 n].toArray w (Res w (PairI 2 (baseR n))) := by
  refine calls_of_vw Try.func74 rfl Try.ntmps74 (by simp) ?_
  by_cases hb : n = 4 ∨ n = 5 ∨ n = 8 ∨ n = 9
  rotate_left
  · repeat' (first | refine vops_q tyOk rfl ?_ | refine vops_nil ?_ | refine vw_seq ?_ | refine vw_region (by kernel_rfl) ?_ | refine vops_guardT rfl rfl ?_ | with_reducible refine bs_true ?_ | refine vw_cond rfl ?_ | refine vw_ret ?_ | (with_reducible refine bs_ndec (fun _ => ?_) (fun _ => ?_)) <;> try (exfalso; omega))
    all_goals try (exfalso; omega)
    all_goals exact pairI_err rfl rfl rfl (by rw [baseR, if_neg hb])
  obtain ⟨k, rfl⟩ : ∃ k : Nat, n = (k : Int) := ⟨n.toNat, by omega⟩
  have hn : IsBaseN k := by unfold IsBaseN; omega
  repeat' (first | refine vops_q tyOk rfl ?_ | refine vops_nil ?_ | refine vw_seq ?_ | refine vw_region (by kernel_rfl) ?_ | refine vops_guardT rfl rfl ?_ | with_reducible refine bs_true ?_ | with_reducible refine bs_false ?_ | refine vw_cond rfl ?_ | refine vw_skip ?_ | (with_reducible refine bs_ndec (fun _ => ?_) (fun _ => ?_)) <;> try (exfalso; omega))
  all_goals try (exfalso; omega)
  all_goals
    refine vops_callM ent180 rfl (own0 := []) (own1 := []) (List.Perm.refl _) (fun w' hg => c_firstBaseWith k hn (k - k % 4) [] _ [] w' (by simp) (diff_nil _) NewI.nil ⟨List.nodup_nil, fun _ _ h => by cases h⟩) ?_
    intro vr newO hR
    cases hs : iS k (k - k % 4) [] with
    | some r =>
      rw [hs] at hR
      obtain ⟨pr, cr, rfl, hNr⟩ := hR
      repeat (first | refine vops_q tyOk rfl ?_ | refine vops_nil ?_ | refine vw_seq ?_ | refine vw_region (by kernel_rfl) ?_ | with_reducible refine bs_ntrue ?_ | refine vw_cond rfl ?_ | refine vw_skip ?_ | refine vw_ret ?_)
      exact pairI_ok rfl rfl rfl hNr (by repeat (first | exact sub_hereL | exact sub_refl | apply sub_cons | apply sub_app)) (baseR_some hn hs)
    | none =>
      rw [hs] at hR
      obtain ⟨rfl, rfl⟩ := hR
      repeat (first | refine vops_q tyOk rfl ?_ | refine vops_nil ?_ | refine vw_seq ?_ | refine vw_region (by kernel_rfl) ?_ | with_reducible refine bs_nfalse ?_ | refine vw_cond rfl ?_ | refine vw_ret ?_)
      exact pairI_err rfl rfl rfl (baseR_none hn hs)
open Classical in
set_option maxHeartbeats 2000000 in
set_option maxRecDepth 100000 in
theorem c_spec_FirstBase (n : Int) (w : World) : Calls Try.prog 75 [Value.int .i64 n].toArray w (Res w (PairI 2 (baseR n))) := by
  refine calls_of_vw Try.func75 rfl Try.ntmps75 (by simp) ?_
  by_cases hb : n = 4 ∨ n = 5 ∨ n = 8 ∨ n = 9
  rotate_left
  · repeat' (first | refine vops_q tyOk rfl ?_ | refine vops_nil ?_ | refine vw_seq ?_ | refine vw_region (by kernel_rfl) ?_ | refine vops_guardT rfl rfl ?_ | with_reducible refine bs_true ?_ | refine vw_cond rfl ?_ | refine vw_ret ?_ | (with_reducible refine bs_ndec (fun _ => ?_) (fun _ => ?_)) <;> try (exfalso; omega))
    all_goals try (exfalso; omega)
    all_goals exact pairI_err rfl rfl rfl (by rw [baseR, if_neg hb])
  obtain ⟨k, rfl⟩ : ∃ k : Nat, n = (k : Int) := ⟨n.toNat, by omega⟩
  have hn : IsBaseN k := by unfold IsBaseN; omega
  repeat' (first | refine vops_q tyOk rfl ?_ | refine vops_nil ?_ | refine vw_seq ?_ | refine vw_region (by kernel_rfl) ?_ | refine vops_guardT rfl rfl ?_ | with_reducible refine bs_true ?_ | with_reducible refine bs_false ?_ | refine vw_cond rfl ?_ | refine vw_skip ?_ | (with_reducible refine bs_ndec (fun _ => ?_) (fun _ => ?_)) <;> try (exfalso; omega))
  all_goals try (exfalso; omega)
  all_goals
    refine vops_build0 tyOk rfl rfl (fun be hbe => ?_)
    apply vops_call ent181 rfl
    · intro w' hg; exact c_l06Base k hn (k - k % 4) [] _ w' (by simp) (diff_nil _) (NewI.empty.rdG (by repeat (first | exact sub_hereL | exact sub_refl | apply sub_cons | apply sub_app)) hg)
    intro vr newO hR
    cases hs : iS k (k - k % 4) [] with
    | some r =>
      rw [hs] at hR
      rcases hR with ⟨h0, _⟩ | ⟨_, pr, cr, rfl, hNr⟩
      · exfalso; omega
      repeat (first | refine vops_q tyOk rfl ?_ | refine vops_nil ?_ | refine vw_seq ?_ | refine vw_region (by kernel_rfl) ?_ | with_reducible refine bs_ntrue ?_ | refine vw_cond rfl ?_ | refine vw_skip ?_ | refine vw_ret ?_)
      exact pairI_ok rfl rfl rfl hNr (by repeat (first | exact sub_hereL | exact sub_refl | apply sub_cons | apply sub_app)) (baseR_some hn hs)
    | none =>
      rw [hs] at hR
      obtain ⟨rfl, pu, ku, cu, rfl⟩ := hR
      repeat (first | refine vops_q tyOk rfl ?_ | refine vops_nil ?_ | refine vw_seq ?_ | refine vw_region (by kernel_rfl) ?_ | with_reducible refine bs_nfalse ?_ | refine vw_cond rfl ?_ | refine vw_ret ?_)
      exact pairI_err rfl rfl rfl (baseR_none hn hs)
end Go.Proofs.Ytdgaabkgfbihpaa

