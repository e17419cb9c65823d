import Derived.Test.YtdgaabkgfbihpaaDoorSB
import Derived.Test.YtdgaabkgfbihpaaDoorVLArr
import Derived.Test.YtdgaabkgfbihpaaDoorVLMid
/- Parts of the proof, one after another. No conditions of their own. -/
/- A part of the proof: Q6. No conditions of its own. -/
namespace Go.Proofs.YtdgaabkgfbihpaaDoor
open Go.VL
attribute [local irreducible] VWr VOps VD Calls Last

theorem c_l03Modulus (m : Int) (w : World) : Calls Tryd.prog 38 [Value.int .i64 m].toArray w (Res w (Is (.bool (decide (IsMod m))))) := by
  refine calls_of_vw Tryd.func38 rfl Tryd.ntmps38 (by simp) ?_
  repeat' (first | refine vops_q tyOk rfl ?_ | refine vops_nil ?_ | refine vw_seq ?_ | refine vw_region (by kernel_rfl) ?_ | refine vops_guardT rfl rfl ?_ | with_reducible refine bs_true ?_ | with_reducible refine bs_false ?_ | refine vops_p tyOk rfl (by (try simp only [inR]); omega) ?_ | refine vw_ret ?_ | (with_reducible refine bs_dec (fun _ => ?_) (fun _ => ?_)) <;> try (exfalso; omega) | (apply vops_callp ent25 rfl; (intro w _; exact c_l01In _ _ _ w)))
  all_goals (refine rv_bool rfl rfl ?_; unfold IsMod; first | (symm; apply decide_eq_false; omega) | (symm; apply decide_eq_true; omega) | (apply decide_eq_decide.2; omega))
theorem c_l03Mod (x m : Int) (h0 : -m < x) (h1 : x < m) (h3 : 3 ≤ m) (h13 : m ≤ 13) (w : World) : Calls Tryd.prog 27 [Value.int .i64 x, .int .i64 m].toArray w (Res w (Is (.int .i64 ((x + m) % m)))) := by
  have ht : x.tmod m = x := by
    rcases Int.le_total 0 x with h | h
    · exact Int.tmod_eq_of_lt h h1
    · have := Int.tmod_eq_of_lt (a := -x) (b := m) (by omega) (by omega)
      rw [Int.neg_tmod] at this; omega
  refine calls_of_vw Tryd.func27 rfl Tryd.ntmps27 (by simp) ?_
  repeat (first | refine vops_q tyOk rfl ?_ | refine vops_nil ?_ | refine vw_seq ?_ | refine vw_region (by kernel_rfl) ?_)
  refine vops_remT rfl rfl (by omega) ?_
  rw [ht]
  repeat (first | refine vops_q tyOk rfl ?_ | refine vops_nil ?_ | refine vops_p tyOk rfl (by (try simp only [inR]); omega) ?_ | refine vw_ret ?_)
  exact rv_int rfl rfl rfl

open Classical in
set_option maxHeartbeats 2000000 in
set_option maxRecDepth 100000 in
theorem c_l03Lists (m : Int) (v : Value) (ls : List (List Int)) (w : World) (hv : RdII w v ls) (hl : ls.length ≤ 1048576) (hll : ∀ l ∈ ls, l.length ≤ 1048576) (h3 : 3 ≤ m) (h13 : m ≤ 13) :
    Calls Tryd.prog 39 [Value.int .i64 m, v].toArray w (Res w (Is (.bool (decide (PairsOk m ls))))) := by
  obtain ⟨a, cap, rfl⟩ := hv.len
  refine calls_of_vw Tryd.func39 rfl Tryd.ntmps39 (by simp) ?_
  repeat (first | refine vops_q tyOk rfl ?_ | refine vops_nil ?_ | refine vw_seq ?_ | refine vw_region (by kernel_rfl) ?_ | refine vw_block ?_)
  refine vw_loop (fun m' f own => ∃ i : Nat, i ≤ ls.length ∧ m' = ls.length - i ∧ f 5 = .int .i64 i ∧ f 0 = .int .i64 m ∧ f 1 = .slice a ls.length cap ∧ own = [] ∧ ∀ (j : Nat) (p : List Int), j < i → ls[j]? = some p → PairOk m p) ls.length
    ⟨0, by omega, by omega, rfl, rfl, rfl, rfl, fun j p hj => by omega⟩ ?_
  rintro m' f own ⟨i, hi, rfl, h5, h0, h1, rfl, hall⟩
  rw [upd_of h5, upd_of h0, upd_of h1]
  repeat (first | refine vops_q tyOk rfl ?_ | refine vops_nil ?_ | refine vw_seq ?_ | refine vw_region (by kernel_rfl) ?_ | refine vw_cond rfl ?_)
  refine bs_dec (fun h4 => ?_) (fun h4 => ?_)
  · obtain ⟨l, hli⟩ : ∃ l, ls[i]? = some l := ⟨_, List.getElem?_eq_getElem (by omega)⟩
    have hl2 := hll l (List.mem_of_getElem? hli)
    obtain ⟨b', o, cap', u, hee, hcu, hu⟩ := hv.at hli
    cases hee
    obtain ⟨a2, cap2, rfl⟩ := hu.len
    by_cases hlen : l.length = 2
    · obtain ⟨bq, oq, cq, hq, hcell⟩ := hu.at (i := 0) (by omega)
      cases hq
      have hc0 := hcell 0 (by omega)
      have hc1 := hcell 1 (by omega)
      repeat (first | refine vw_seq ?_ | refine vw_skip ?_ | refine vw_block ?_)
      refine vw_draw [0, 1, 2, 3, 4, 5, 6, 7, 8, 9, 10, 11, 12, 13, 14, 15, 16, 17, 18, 19, 20, 21, 22, 23, 24, 25, 26, 27, 28, 29, 30, 31, 32, 33, 34, 35, 36, 37, 38, 39, 40, 41, 42, 43, 44] (by kernel_rfl) (by kernel_rfl) (by kernel_rfl) rfl ?_
      repeat' (first | refine vd_q tyOk rfl (by first | trivial | rfl) rfl (by kernel_rfl) (by kernel_rfl) ?_ | refine vd_p tyOk rfl (by first | trivial | rfl) rfl (by kernel_rfl) (by kernel_rfl) (by (try simp only [inR]); omega) ?_ | refine vd_skipT rfl rfl (by kernel_rfl) (by kernel_rfl) ?_ | refine vops_nil ?_ | refine vd_nil (by kernel_rfl) ?_ | refine ⟨fun _ _ _ h => h, ?_⟩ | refine vd_load tyOk rfl (by first | trivial | rfl) rfl rfl rfl (by kernel_rfl) (by kernel_rfl) (by kernel_rfl) (sees_old hcu (by simp)) (by first | exact sub_refl | exact sub_cons sub_refl | exact sub_app sub_refl) ?_ | refine vd_load tyOk rfl (by first | trivial | rfl) rfl rfl rfl (by kernel_rfl) (by kernel_rfl) (by kernel_rfl) (sees_old hc0 (by simp)) (by first | exact sub_refl | exact sub_cons sub_refl | exact sub_app sub_refl) ?_ | refine vd_load tyOk rfl (by first | trivial | rfl) rfl rfl rfl (by kernel_rfl) (by kernel_rfl) (by kernel_rfl) (sees_old hc1 (by simp)) (by first | exact sub_refl | exact sub_cons sub_refl | exact sub_app sub_refl) ?_ | (apply vops_callp ent25 rfl; (intro w _; exact c_l01In _ _ _ w)) | refine vd_oneG rfl (by kernel_rfl) (by kernel_rfl) rfl ?_ | (refine vd_gsplit rfl rfl rfl ?_; (fail_if_success (with_reducible (first | refine bs_true ?_ | refine bs_false ?_))); with_reducible refine bs_ndec (fun _ => ?_) (fun _ => ?_)) <;> try (exfalso; omega))
      all_goals repeat' (first | refine vops_q tyOk rfl ?_ | refine vops_nil ?_ | refine vw_seq ?_ | refine vw_region (by kernel_rfl) ?_ | with_reducible refine bs_true ?_ | refine vops_p tyOk rfl (by (try simp only [inR]); omega) ?_ | refine vw_cond rfl ?_ | refine vw_skip ?_ | refine vw_ret ?_ | (with_reducible refine bs_dec (fun _ => ?_) (fun _ => ?_)) <;> try (exfalso; omega))
      all_goals first
        | exact ⟨ls.length - (i + 1), by omega, i + 1, by omega, rfl, rfl, rfl, rfl, rfl, fun j p hj hp => by
            by_cases hji : j = i
            · subst hji
              obtain rfl : l = p := Option.some.inj (hli.symm.trans hp)
              refine ⟨⟨hlen, fun k hk => ?_⟩, by omega⟩
              match k, hk with
              | 0, _ => omega
              | 1, _ => omega
              | k + 2, hk => omega
            · exact hall j p (by omega) hp⟩
        | (refine rv_bool rfl rfl (decide_eq_false fun hh => ?_).symm
           obtain ⟨⟨hn0, hn⟩, hne⟩ := hh i l hli
           have n0 := hn 0 (by omega)
           have n1 := hn 1 (by omega)
           omega)
    · repeat (first | refine vw_seq ?_ | refine vw_skip ?_ | refine vw_block ?_)
      refine vw_draw [0, 1, 2, 3, 4, 5, 6, 7, 8, 9, 10, 11, 12, 13, 14, 15, 16, 17, 18, 19, 20, 21, 22, 23, 24, 25, 26, 27, 28, 29, 30, 31, 32, 33, 34, 35, 36, 37, 38, 39, 40, 41, 42, 43, 44] (by kernel_rfl) (by kernel_rfl) (by kernel_rfl) rfl ?_
      repeat' (first | refine vd_q tyOk rfl (by first | trivial | rfl) rfl (by kernel_rfl) (by kernel_rfl) ?_ | refine vd_p tyOk rfl (by first | trivial | rfl) rfl (by kernel_rfl) (by kernel_rfl) (by (try simp only [inR]); omega) ?_ | refine vd_skipT rfl rfl (by kernel_rfl) (by kernel_rfl) ?_ | refine vd_nil (by kernel_rfl) ?_ | refine vd_load tyOk rfl (by first | trivial | rfl) rfl rfl rfl (by kernel_rfl) (by kernel_rfl) (by kernel_rfl) (sees_old hcu (by simp)) (by first | exact sub_refl | exact sub_cons sub_refl | exact sub_app sub_refl) ?_ | (refine vd_gsplit rfl rfl rfl ?_; (fail_if_success (with_reducible (first | refine bs_true ?_ | refine bs_false ?_))); with_reducible refine bs_ndec (fun _ => ?_) (fun _ => ?_)) <;> try (exfalso; omega))
      all_goals repeat' (first | refine vops_q tyOk rfl ?_ | refine vops_nil ?_ | refine vw_seq ?_ | refine vw_region (by kernel_rfl) ?_ | with_reducible refine bs_true ?_ | refine vw_cond rfl ?_ | refine vw_ret ?_)
      all_goals exact rv_bool rfl rfl (decide_eq_false fun hh => hlen (hh i l hli).1.1).symm
  · repeat (first | refine vops_q tyOk rfl ?_ | refine vops_nil ?_ | refine vw_seq ?_ | refine vw_region (by kernel_rfl) ?_ | refine vw_ret ?_ | refine vw_exit ?_)
    exact rv_bool rfl rfl (decide_eq_true fun j p hp => hall j p (by have := (List.getElem?_eq_some_iff.1 hp).1; omega) hp).symm
end Go.Proofs.YtdgaabkgfbihpaaDoor

/- A part of the proof: Q7. No conditions of its own. -/
namespace Go.Proofs.YtdgaabkgfbihpaaDoor
open Go.VL
attribute [local irreducible] VWr VOps VD Calls Last

open Classical in
set_option maxHeartbeats 4000000 in
set_option maxRecDepth 100000 in
theorem c_l03Is (m : Int) (v : Value) (ls : List (List Int)) (w : World) (hv : RdII w v ls) (_hl : ls.length ≤ 1048576) (hm : IsMod m) (hp : PairsOk m ls) :
    Calls Tryd.prog 40 [Value.int .i64 m, v].toArray w (Res w (Is (.bool (decide (Starter m ls))))) := by
  obtain ⟨a, cap, rfl⟩ := hv.len
  obtain ⟨hm3, hm13, hmo⟩ := hm
  obtain ⟨k, rfl⟩ : ∃ k : Nat, m = (k : Int) := ⟨m.toNat, by omega⟩
  refine calls_of_vw Tryd.func40 rfl Tryd.ntmps40 (by simp) ?_
  repeat (first | refine vops_q tyOk rfl ?_ | refine vops_nil ?_ | refine vw_seq ?_ | refine vw_region (by kernel_rfl) ?_ | refine vops_p tyOk rfl (by (try simp only [inR]); omega) ?_ | refine vw_cond rfl ?_)
  refine bs_ndec2 (fun h => ?_) (fun hlen => ?_)
  · repeat (first | refine vops_q tyOk rfl ?_ | refine vops_nil ?_ | refine vw_seq ?_ | refine vw_region (by kernel_rfl) ?_ | refine vw_ret ?_)
    exact rv_bool rfl rfl (decide_eq_false fun hh => h (by have := hh.1; omega)).symm
  repeat (first | refine vw_seq ?_ | refine vw_skip ?_)
  refine vw_mid (fun f' own' => ∃ b5 b6, f' 0 = .int .i64 k ∧ f' 1 = .slice a ls.length cap ∧ f' 5 = .slice (some ⟨b5, 0, none⟩) k k ∧ f' 6 = .slice (some ⟨b6, 0, none⟩) k k ∧
      own'.Perm [(b6, ⟨bools (List.replicate k false), 4, k, none⟩), (b5, ⟨bools (List.replicate k false), 4, k, none⟩)]) ?_ ?_
  · refine vw_draw [0, 2, 1, 3, 4, 5] (by kernel_rfl) (by kernel_rfl) (by kernel_rfl) rfl ?_
    iterate 2 (first | refine vd_q tyOk rfl (by first | trivial | rfl) rfl (by kernel_rfl) (by kernel_rfl) ?_ | refine vd_p tyOk rfl (by first | trivial | rfl) rfl (by kernel_rfl) (by kernel_rfl) (by (try simp only [inR]); omega) ?_ | refine vd_skipT rfl rfl (by kernel_rfl) (by kernel_rfl) ?_ | refine vd_skipF rfl rfl (by kernel_rfl) (by kernel_rfl) ?_ | refine vd_skipU rfl rfl (by kernel_rfl) (by kernel_rfl) ?_ | refine vops_nil ?_ | refine vd_nil (by kernel_rfl) ?_ | refine ⟨fun _ _ _ h => h, ?_⟩ | refine ⟨fun _ _ _ h => List.mem_cons_of_mem _ h, ?_⟩ | refine ⟨fun _ _ _ h => List.mem_append_right _ h, ?_⟩ | refine vops_q tyOk rfl ?_ | refine vd_load tyOk rfl (by first | trivial | rfl) rfl rfl rfl (by kernel_rfl) (by kernel_rfl) (by kernel_rfl) (sees_mem (by repeat (first | exact mem_here | apply mem_next | apply mem_past)) (by rfl)) (by repeat (first | exact sub_hereL | exact sub_refl | apply sub_cons | apply sub_app)) ?_ | refine vd_load tyOk rfl (by first | trivial | rfl) rfl rfl rfl (by kernel_rfl) (by kernel_rfl) (by kernel_rfl) (sees_mem (k := ⟨ints _, _, _, none⟩) (by repeat (first | exact mem_here | apply mem_next | apply mem_past)) (by exact ints_get0 (by omega))) (by repeat (first | exact sub_hereL | exact sub_refl | apply sub_cons | apply sub_app)) ?_ | refine vd_loadNM tyOk rfl (by first | trivial | rfl) rfl rfl rfl (by repeat (first | exact mem_here | apply mem_next | apply mem_past)) (by first | rfl | (rw [ints_length]; first | assumption | omega | (rw [ints_length]; first | assumption | omega | simp [*])) | simp [*]) (by kernel_rfl) (by kernel_rfl) (by kernel_rfl) (by repeat (first | exact sub_hereL | exact sub_refl | apply sub_cons | apply sub_app)) ?_ | refine vd_build2 rfl (by first | trivial | rfl) rfl rfl (by kernel_rfl) (by kernel_rfl) (by kernel_rfl) ?_ | refine vd_slice tyOk rfl (by first | trivial | rfl) rfl rfl rfl rfl rfl (by kernel_rfl) (by kernel_rfl) (by omega) ?_ | refine ⟨fun h => Bool.noConfusion (show false = true from h), ?_⟩ | refine ⟨fun _ p hp _ => (show Go.VL.Sub _ _ from (by repeat (first | exact sub_hereL | exact sub_refl | apply sub_cons | apply sub_app))) p hp, ?_⟩ | skip | ((show VOps _ _ _ _ (⟨some _, Go.Op.load _ _, _, _, _, none⟩ :: _) _ _); first | refine vops_loadM tyOk rfl rfl rfl (by repeat (first | exact mem_here | apply mem_next | apply mem_past)) (by rfl) ?_ | refine vops_loadM tyOk rfl rfl rfl (by repeat (first | exact mem_here | apply mem_next | apply mem_past)) (by exact ints_get0 (by omega)) ?_ | refine vops_loadNM tyOk rfl rfl rfl (by repeat (first | exact mem_here | apply mem_next | apply mem_past)) (by first | rfl | (rw [ints_length]; first | assumption | omega | (rw [ints_length]; first | assumption | omega | simp [*])) | simp [*]) ?_) | ((show VOps _ _ _ _ (⟨none, Go.Op.store _ _ _, _, _, _, none⟩ :: _) _ _); first | refine vops_storeIM tyOk rfl rfl rfl rfl (by repeat (first | exact upd_here | apply upd_next | apply upd_past)) (by omega) ?_ | refine vops_storeM tyOk rfl rfl rfl rfl rfl (by repeat (first | exact upd_here | apply upd_next | apply upd_past)) (by simp) ?_ | refine vops_storeAM tyOk rfl rfl rfl (by first | rfl | (rw [ints_length]; first | assumption | omega | (rw [ints_length]; first | assumption | omega | simp [*])) | simp [*]) (by first | exact ints_one | simp [Value.oneCell']) (by repeat (first | exact upd_here | apply upd_next | apply upd_past)) (by first | rfl | (rw [ints_length]; first | assumption | omega | (rw [ints_length]; first | assumption | omega | simp [*])) | simp [*]) ?_) | refine vops_build2 rfl rfl (by kernel_rfl) ?_ | refine vops_buildZ tyOk rfl (by kernel_rfl) ?_ | refine vops_slice tyOk rfl rfl rfl rfl rfl (by omega) ?_ | refine vd_one rfl (by kernel_rfl) (by kernel_rfl) rfl ?_ | refine vd_oneG rfl (by kernel_rfl) (by kernel_rfl) rfl ?_ | (refine vd_gsplit rfl rfl rfl ?_; (fail_if_success (with_reducible (first | refine bs_true ?_ | refine bs_false ?_))); with_reducible refine bs_dec (fun _ => ?_) (fun _ => ?_)) <;> try (exfalso; omega) | (refine vd_gsplit rfl rfl rfl ?_; (fail_if_success (with_reducible (first | refine bs_true ?_ | refine bs_false ?_))); with_reducible refine bs_ndec (fun _ => ?_) (fun _ => ?_)) <;> try (exfalso; omega) | (refine vd_gsplit rfl rfl rfl ?_; (fail_if_success (with_reducible (first | refine bs_true ?_ | refine bs_false ?_))); with_reducible refine bs_nany (fun _ => ?_) (fun _ => ?_)) <;> try (exfalso; omega) | (refine vd_gsplit rfl rfl rfl ?_; (fail_if_success (with_reducible (first | refine bs_true ?_ | refine bs_false ?_))); with_reducible refine bs_any (fun _ => ?_) (fun _ => ?_)) <;> try (exfalso; omega))
    refine vd_two (j := 3) [4, 3, 5] [1, 4, 5] rfl rfl (by kernel_rfl) rfl rfl rfl rfl ?_ ?_
    · refine vops_makeBools (n := k) tyOk rfl rfl rfl rfl rfl rfl rfl (by decide) (by omega) (fun b5 hb5 => ?_)
      repeat' (first | refine vd_q tyOk rfl (by first | trivial | rfl) rfl (by kernel_rfl) (by kernel_rfl) ?_ | refine vops_nil ?_ | refine vd_nil (by kernel_rfl) ?_ | refine ⟨fun _ _ _ h => List.mem_cons_of_mem _ h, ?_⟩ | refine vops_makeBools (n := k) tyOk rfl rfl rfl rfl rfl rfl rfl (by decide) (by omega) (fun b6 hb6 => ?_) | refine vd_one rfl (by kernel_rfl) (by kernel_rfl) rfl ?_)
      exact ⟨_, _, rfl, rfl, rfl, rfl, List.Perm.refl _⟩
    · refine vops_makeBools (n := k) tyOk rfl rfl rfl rfl rfl rfl rfl (by decide) (by omega) (fun b6 hb6 => ?_)
      repeat' (first | refine vd_q tyOk rfl (by first | trivial | rfl) rfl (by kernel_rfl) (by kernel_rfl) ?_ | refine vops_nil ?_ | refine vd_nil (by kernel_rfl) ?_ | refine ⟨fun _ _ _ h => List.mem_cons_of_mem _ h, ?_⟩ | refine vops_makeBools (n := k) tyOk rfl rfl rfl rfl rfl rfl rfl (by decide) (by omega) (fun b5 hb5 => ?_) | refine vd_one rfl (by kernel_rfl) (by kernel_rfl) rfl ?_)
      exact ⟨_, _, rfl, rfl, rfl, rfl, List.Perm.swap _ _ _⟩
  rintro f own ⟨b5, b6, h0, h1, h5, h6, hperm⟩
  refine vw_perm hperm ?_
  rw [upd_of h0, upd_of h1, upd_of h5, upd_of h6]
  repeat (first | refine vops_q tyOk rfl ?_ | refine vops_nil ?_ | refine vw_seq ?_ | refine vw_region (by kernel_rfl) ?_ | refine vw_block ?_)
  refine vw_loop (fun m' f own => ∃ (i : Nat) (N S : List Bool), i ≤ ls.length ∧ m' = ls.length - i ∧ f 7 = .int .i64 i ∧ f 0 = .int .i64 k ∧ f 1 = .slice a ls.length cap ∧ f 5 = .slice (some ⟨b5, 0, none⟩) k k ∧ f 6 = .slice (some ⟨b6, 0, none⟩) k k ∧
      own = [(b6, ⟨bools S, 4, k, none⟩), (b5, ⟨bools N, 4, k, none⟩)] ∧ Marks k N (usedOf ls i) ∧ Marks k S (diffOf k ls i) ∧
      ∀ (j : Nat) (p : List Int), j < i → ls[j]? = some p → StAt k ls j p) ls.length
    ⟨0, List.replicate k false, List.replicate k false, by omega, by omega, rfl, rfl, rfl, rfl, rfl, rfl, by rw [usedOf_zero]; exact Marks.nil k, by rw [diffOf_zero]; exact Marks.nil k, fun j p hj => by omega⟩ ?_
  clear h0 h1 h5 h6 hperm f own
  rintro m' f own ⟨i, N, S, hi, rfl, h7, h0, h1, h5, h6, rfl, hN, hS, hall⟩
  rw [upd_of h7, upd_of h0, upd_of h1, upd_of h5, upd_of h6]
  have hNl := hN.len
  have hSl := hS.len
  repeat (first | refine vops_q tyOk rfl ?_ | refine vops_nil ?_ | refine vw_seq ?_ | refine vw_region (by kernel_rfl) ?_ | refine vw_cond rfl ?_)
  refine bs_dec (fun hlt => ?_) (fun hlt => ?_)
  · obtain ⟨l, hli⟩ : ∃ l, ls[i]? = some l := ⟨_, List.getElem?_eq_getElem (by omega)⟩
    have hpl := hp i l hli
    have hl2 : l.length = 2 := hpl.1.1
    have hx := hpl.1.2 0 (by omega)
    have hy := hpl.1.2 1 (by omega)
    have hxy := hpl.2
    obtain ⟨b', o, cap', u, hee, hcu, hu⟩ := hv.at hli
    cases hee
    obtain ⟨a2, cap2, rfl⟩ := hu.len
    obtain ⟨bq, oq, cq, hq, hcell⟩ := hu.at (i := 0) (by omega)
    cases hq
    have hc0 := hcell 0 (by omega)
    have hc1 := hcell 1 (by omega)
    repeat (first | refine vw_seq ?_ | refine vw_skip ?_ | refine vw_block ?_)
    refine vw_draw [0, 1, 2, 3, 4, 5, 6, 7, 8, 9, 10, 11, 12, 13] (by kernel_rfl) (by kernel_rfl) (by kernel_rfl) rfl ?_
    repeat' (first | refine vd_q tyOk rfl (by first | trivial | rfl) rfl (by kernel_rfl) (by kernel_rfl) ?_ | refine vd_p tyOk rfl (by first | trivial | rfl) rfl (by kernel_rfl) (by kernel_rfl) (by (try simp only [inR]); omega) ?_ | refine vd_nil (by kernel_rfl) ?_ | refine vd_load tyOk rfl (by first | trivial | rfl) rfl rfl rfl (by kernel_rfl) (by kernel_rfl) (by kernel_rfl) (sees_old hcu (by simp)) (by repeat (first | exact sub_hereL | exact sub_refl | apply sub_cons | apply sub_app)) ?_ | refine vd_load tyOk rfl (by first | trivial | rfl) rfl rfl rfl (by kernel_rfl) (by kernel_rfl) (by kernel_rfl) (sees_old hc0 (by simp)) (by repeat (first | exact sub_hereL | exact sub_refl | apply sub_cons | apply sub_app)) ?_ | refine vd_load tyOk rfl (by first | trivial | rfl) rfl rfl rfl (by kernel_rfl) (by kernel_rfl) (by kernel_rfl) (sees_old hc1 (by simp)) (by repeat (first | exact sub_hereL | exact sub_refl | apply sub_cons | apply sub_app)) ?_)
    repeat (first | refine vops_q tyOk rfl ?_ | refine vops_nil ?_ | refine vw_seq ?_ | refine vw_region (by kernel_rfl) ?_ | refine vops_guardF rfl rfl ?_ | refine vops_p tyOk rfl (by (try simp only [inR]); omega) ?_ | (apply vops_callp ent27 rfl; (intro w _; exact c_l03Mod _ _ (by omega) (by omega) (by omega) (by omega) w)))
    refine bs_dec (fun hA => ?_) (fun hA => ?_)
    · repeat (first | refine vops_q tyOk rfl ?_ | refine vops_nil ?_ | refine vw_seq ?_ | refine vw_region (by kernel_rfl) ?_ | refine vops_guardF rfl rfl ?_ | refine vops_guardU rfl rfl ?_ | with_reducible refine bs_true ?_ | refine vw_cond rfl ?_ | refine vw_ret ?_)
      exact rv_bool rfl rfl (decide_eq_false fun hh => by have := (hh.2 i l hli).1; omega).symm
    have hd : (l.getD 1 0 - l.getD 0 0 + (k : Int)) % k = l.getD 1 0 - l.getD 0 0 := by
      rw [Int.add_emod_right, Int.emod_eq_of_lt (by omega) (by omega)]
    rw [hd]
    repeat (first | refine vops_q tyOk rfl ?_ | refine vops_guardT rfl rfl ?_ | refine vops_guardF rfl rfl ?_ | with_reducible refine bs_false ?_)
    refine bs_dec (fun hi0 => ?_) (fun hi0 => ?_)
    · obtain ⟨q, hqi⟩ : ∃ q, ls[i - 1]? = some q := ⟨_, List.getElem?_eq_getElem (by omega)⟩
      have hq2 : q.length = 2 := (hp _ q hqi).1.1
      obtain ⟨b2', o2, cap2', u2, hee2, hcu2, hu2⟩ := hv.at hqi
      cases hee2
      obtain ⟨a3, cap3, rfl⟩ := hu2.len
      obtain ⟨bp, op, cp, hqq, hcell2⟩ := hu2.at (i := 0) (by omega)
      cases hqq
      have hcq := hcell2 0 (by omega)
      have hidx : ((i : Int) - 1).toNat = i - 1 := by omega
      repeat (first | refine vops_q tyOk rfl ?_ | refine vops_guardT rfl rfl ?_ | refine vops_guardF rfl rfl ?_ | with_reducible refine bs_true ?_ | with_reducible refine bs_false ?_ | refine vops_p tyOk rfl (by (try simp only [inR]); omega) ?_ | refine vops_load tyOk rfl rfl (by exact congrArg (fun x => Value.pointer (some ⟨b', o + x, none⟩)) hidx) (sees_old hcu2 (by simp)) ?_ | refine vops_load tyOk rfl rfl rfl (sees_old hcq (by simp)) ?_)
      refine bs_dec (fun hG => ?_) (fun hG => ?_)
      · repeat (first | refine vops_q tyOk rfl ?_ | refine vops_nil ?_ | refine vw_seq ?_ | refine vw_region (by kernel_rfl) ?_ | refine vops_guardF rfl rfl ?_ | with_reducible refine bs_true ?_ | refine vw_cond rfl ?_ | refine vw_ret ?_)
        exact rv_bool rfl rfl (decide_eq_false fun hh => by have := (hh.2 i l hli).2.1 q (by omega) hqi; omega).symm
      have hprev : ∀ q', 0 < i → ls[i - 1]? = some q' → q'.getD 0 0 < l.getD 0 0 := fun q' _ h => by
        obtain rfl : q = q' := Option.some.inj (hqi.symm.trans h)
        omega
      repeat (first | refine vops_q tyOk rfl ?_ | refine vops_guardF rfl rfl ?_ | with_reducible refine bs_false ?_ | refine vops_p tyOk rfl (by (try simp only [inR]); omega) ?_ | refine vops_loadM tyOk rfl rfl rfl (by repeat (first | exact mem_here | apply mem_next | apply mem_past)) (by exact bools_get (by omega)) ?_)
      rw [hN.get (a := l.getD 0 0) (by omega) (by omega)]
      refine bs_dec (fun hC => ?_) (fun hC => ?_)
      · repeat (first | refine vops_q tyOk rfl ?_ | refine vops_nil ?_ | refine vw_seq ?_ | refine vw_region (by kernel_rfl) ?_ | refine vops_guardF rfl rfl ?_ | with_reducible refine bs_true ?_ | refine vw_cond rfl ?_ | refine vw_ret ?_)
        exact rv_bool rfl rfl (decide_eq_false fun hh => (hh.2 i l hli).2.2.1 hC).symm
      repeat (first | refine vops_q tyOk rfl ?_ | refine vops_guardF rfl rfl ?_ | with_reducible refine bs_false ?_ | refine vops_p tyOk rfl (by (try simp only [inR]); omega) ?_ | refine vops_loadM tyOk rfl rfl rfl (by repeat (first | exact mem_here | apply mem_next | apply mem_past)) (by exact bools_get (by omega)) ?_)
      rw [hN.get (a := l.getD 1 0) (by omega) (by omega)]
      refine bs_dec (fun hD => ?_) (fun hD => ?_)
      · repeat (first | refine vops_q tyOk rfl ?_ | refine vops_nil ?_ | refine vw_seq ?_ | refine vw_region (by kernel_rfl) ?_ | refine vops_guardF rfl rfl ?_ | with_reducible refine bs_true ?_ | refine vw_cond rfl ?_ | refine vw_ret ?_)
        exact rv_bool rfl rfl (decide_eq_false fun hh => (hh.2 i l hli).2.2.2.1 hD).symm
      repeat (first | refine vops_q tyOk rfl ?_ | refine vops_nil ?_ | refine vops_guardF rfl rfl ?_ | with_reducible refine bs_false ?_ | refine vops_p tyOk rfl (by (try simp only [inR]); omega) ?_ | refine vw_cond rfl ?_ | refine vops_loadM tyOk rfl rfl rfl (by repeat (first | exact mem_here | apply mem_next | apply mem_past)) (by exact bools_get (by omega)) ?_)
      rw [hS.get (a := l.getD 1 0 - l.getD 0 0) (by omega) (by omega)]
      refine bs_dec (fun hE => ?_) (fun hE => ?_)
      · repeat (first | refine vops_q tyOk rfl ?_ | refine vops_nil ?_ | refine vw_seq ?_ | refine vw_region (by kernel_rfl) ?_ | refine vw_ret ?_)
        exact rv_bool rfl rfl (decide_eq_false fun hh => (hh.2 i l hli).2.2.2.2 hE).symm
      repeat (first | refine vops_q tyOk rfl ?_ | refine vops_nil ?_ | refine vw_seq ?_ | refine vw_region (by kernel_rfl) ?_ | refine vops_p tyOk rfl (by (try simp only [inR]); omega) ?_ | refine vw_skip ?_ | refine vops_storeBM tyOk rfl rfl rfl rfl (by repeat (first | exact upd_here | apply upd_next | apply upd_past)) (by first | omega | (rw [List.length_set]; omega)) ?_)
      refine ⟨ls.length - (i + 1), by omega, i + 1, _, _, by omega, rfl, rfl, rfl, rfl, rfl, rfl, rfl, ?_, ?_, fun j p hj hpj => ?_⟩
      · rw [usedOf_step hli hl2]
        exact (hN.set (by omega) (by omega)).set (by omega) (by omega)
      · rw [diffOf_step hli]
        exact (hS.set (by omega) (by omega)).set (by omega) (by omega)
      · by_cases hji : j = i
        · subst hji
          obtain rfl : l = p := Option.some.inj (hli.symm.trans hpj)
          exact ⟨by omega, hprev, hC, hD, hE⟩
        · exact hall j p (by omega) hpj
    · have hprev : ∀ q', 0 < i → ls[i - 1]? = some q' → q'.getD 0 0 < l.getD 0 0 := fun q' h _ => by omega
      repeat (first | refine vops_q tyOk rfl ?_ | refine vops_guardT rfl rfl ?_ | refine vops_guardF rfl rfl ?_ | with_reducible refine bs_false ?_ | refine vops_p tyOk rfl (by (try simp only [inR]); omega) ?_ | refine vops_loadM tyOk rfl rfl rfl (by repeat (first | exact mem_here | apply mem_next | apply mem_past)) (by exact bools_get (by omega)) ?_)
      rw [hN.get (a := l.getD 0 0) (by omega) (by omega)]
      refine bs_dec (fun hC => ?_) (fun hC => ?_)
      · repeat (first | refine vops_q tyOk rfl ?_ | refine vops_nil ?_ | refine vw_seq ?_ | refine vw_region (by kernel_rfl) ?_ | refine vops_guardF rfl rfl ?_ | with_reducible refine bs_true ?_ | refine vw_cond rfl ?_ | refine vw_ret ?_)
        exact rv_bool rfl rfl (decide_eq_false fun hh => (hh.2 i l hli).2.2.1 hC).symm
      repeat (first | refine vops_q tyOk rfl ?_ | refine vops_guardF rfl rfl ?_ | with_reducible refine bs_false ?_ | refine vops_p tyOk rfl (by (try simp only [inR]); omega) ?_ | refine vops_loadM tyOk rfl rfl rfl (by repeat (first | exact mem_here | apply mem_next | apply mem_past)) (by exact bools_get (by omega)) ?_)
      rw [hN.get (a := l.getD 1 0) (by omega) (by omega)]
      refine bs_dec (fun hD => ?_) (fun hD => ?_)
      · repeat (first | refine vops_q tyOk rfl ?_ | refine vops_nil ?_ | refine vw_seq ?_ | refine vw_region (by kernel_rfl) ?_ | refine vops_guardF rfl rfl ?_ | with_reducible refine bs_true ?_ | refine vw_cond rfl ?_ | refine vw_ret ?_)
        exact rv_bool rfl rfl (decide_eq_false fun hh => (hh.2 i l hli).2.2.2.1 hD).symm
      repeat (first | refine vops_q tyOk rfl ?_ | refine vops_nil ?_ | refine vops_guardF rfl rfl ?_ | with_reducible refine bs_false ?_ | refine vops_p tyOk rfl (by (try simp only [inR]); omega) ?_ | refine vw_cond rfl ?_ | refine vops_loadM tyOk rfl rfl rfl (by repeat (first | exact mem_here | apply mem_next | apply mem_past)) (by exact bools_get (by omega)) ?_)
      rw [hS.get (a := l.getD 1 0 - l.getD 0 0) (by omega) (by omega)]
      refine bs_dec (fun hE => ?_) (fun hE => ?_)
      · repeat (first | refine vops_q tyOk rfl ?_ | refine vops_nil ?_ | refine vw_seq ?_ | refine vw_region (by kernel_rfl) ?_ | refine vw_ret ?_)
        exact rv_bool rfl rfl (decide_eq_false fun hh => (hh.2 i l hli).2.2.2.2 hE).symm
      repeat (first | refine vops_q tyOk rfl ?_ | refine vops_nil ?_ | refine vw_seq ?_ | refine vw_region (by kernel_rfl) ?_ | refine vops_p tyOk rfl (by (try simp only [inR]); omega) ?_ | refine vw_skip ?_ | refine vops_storeBM tyOk rfl rfl rfl rfl (by repeat (first | exact upd_here | apply upd_next | apply upd_past)) (by first | omega | (rw [List.length_set]; omega)) ?_)
      refine ⟨ls.length - (i + 1), by omega, i + 1, _, _, by omega, rfl, rfl, rfl, rfl, rfl, rfl, rfl, ?_, ?_, fun j p hj hpj => ?_⟩
      · rw [usedOf_step hli hl2]
        exact (hN.set (by omega) (by omega)).set (by omega) (by omega)
      · rw [diffOf_step hli]
        exact (hS.set (by omega) (by omega)).set (by omega) (by omega)
      · by_cases hji : j = i
        · subst hji
          obtain rfl : l = p := Option.some.inj (hli.symm.trans hpj)
          exact ⟨by omega, hprev, hC, hD, hE⟩
        · exact hall j p (by omega) hpj
  · repeat (first | refine vops_q tyOk rfl ?_ | refine vops_nil ?_ | refine vw_seq ?_ | refine vw_region (by kernel_rfl) ?_ | refine vw_ret ?_ | refine vw_exit ?_)
    exact rv_bool rfl rfl (decide_eq_true ⟨by omega, fun j p hp => hall j p (by have := (List.getElem?_eq_some_iff.1 hp).1; omega) hp⟩).symm
end Go.Proofs.YtdgaabkgfbihpaaDoor

/- A part of the proof: Q8. No conditions of its own. -/
namespace Go.Proofs.YtdgaabkgfbihpaaDoor
open Go.VL
attribute [local irreducible] VWr VOps VD Calls Last

open Classical in
set_option maxRecDepth 100000 in
theorem c_l03Code (m : Int) (v : Value) (ls : List (List Int)) (w : World) (hv : RdII w v ls) (hl : ls.length ≤ 1048576) (hll : ∀ l ∈ ls, l.length ≤ 1048576) :
    Calls Tryd.prog 24 [Value.int .i64 m, v].toArray w (Res w (Is (.int .i64 (stCode m ls)))) := by
  obtain ⟨a, cap, rfl⟩ := hv.len
  refine calls_of_vw Tryd.func24 rfl Tryd.ntmps24 (by simp) ?_
  repeat (first | refine vops_q tyOk rfl ?_ | refine vops_nil ?_ | refine vw_seq ?_ | refine vw_region (by kernel_rfl) ?_ | refine vops_guardF rfl rfl ?_ | refine vw_block ?_ | (apply vops_callp ent38 rfl; (intro w _; exact c_l03Modulus _ w)))
  refine bs_ndec2 (fun hm => ?_) (fun hm => ?_)
  · repeat (first | refine vops_q tyOk rfl ?_ | refine vops_nil ?_ | refine vw_seq ?_ | refine vw_region (by kernel_rfl) ?_ | refine vops_guardF rfl rfl ?_ | with_reducible refine bs_true ?_ | refine vw_cond rfl ?_ | refine vw_ret ?_)
    exact rv_int rfl rfl (by unfold stCode; rw [if_neg fun h => hm h.1])
  repeat (first | refine vops_q tyOk rfl ?_ | refine vops_nil ?_ | refine vops_guardF rfl rfl ?_ | with_reducible refine bs_false ?_ | refine vw_cond rfl ?_ | (apply vops_callp ent39 rfl; (intro w' hg; exact c_l03Lists m _ ls w' (hv.same hg.fr) hl hll hm.1 hm.2.1)))
  refine bs_ndec2 (fun hp => ?_) (fun hp => ?_)
  · repeat (first | refine vops_q tyOk rfl ?_ | refine vops_nil ?_ | refine vw_seq ?_ | refine vw_region (by kernel_rfl) ?_ | refine vw_ret ?_)
    exact rv_int rfl rfl (by unfold stCode; rw [if_neg fun h => hp h.2])
  repeat (first | refine vops_q tyOk rfl ?_ | refine vops_nil ?_ | refine vw_seq ?_ | refine vw_region (by kernel_rfl) ?_ | refine vw_cond rfl ?_ | (apply vops_callp ent40 rfl; (intro w' hg; exact c_l03Is m _ ls w' (hv.same hg.fr) hl hm hp)))
  refine bs_ndec2 (fun hs => ?_) (fun hs => ?_)
  · repeat (first | refine vops_q tyOk rfl ?_ | refine vops_nil ?_ | refine vw_seq ?_ | refine vw_region (by kernel_rfl) ?_ | refine vw_ret ?_)
    exact rv_int rfl rfl (by unfold stCode; rw [if_pos ⟨hm, hp⟩, if_neg hs])
  repeat (first | refine vops_q tyOk rfl ?_ | refine vops_nil ?_ | refine vw_seq ?_ | refine vw_region (by kernel_rfl) ?_ | refine vw_skip ?_ | refine vw_ret ?_)
  exact rv_int rfl rfl (by unfold stCode; rw [if_pos ⟨hm, hp⟩, if_pos hs])

end Go.Proofs.YtdgaabkgfbihpaaDoor

