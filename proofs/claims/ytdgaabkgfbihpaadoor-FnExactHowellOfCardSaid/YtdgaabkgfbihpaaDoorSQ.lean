import Derived.Test.YtdgaabkgfbihpaaDoorSD
import Derived.Test.YtdgaabkgfbihpaaDoorVLArr
import Derived.Test.YtdgaabkgfbihpaaDoorVLMid
/- Parts of the proof, one after another. No conditions of their own. -/
/- A part of the proof: Q15. No conditions of its own. -/
namespace Go.Proofs.YtdgaabkgfbihpaaDoor
open Go.VL
attribute [local irreducible] VWr VOps VD Calls Last

/-- The numbers that the first pairs make with the first numbers of a list. -/
def madeOf (m : Int) (ls : List (List Int)) (ad : List Int) (i : Nat) : List Int := ((List.range i).map fun j => [((ls.getD j []).getD 0 0 + ad.getD j 0) % m, ((ls.getD j []).getD 1 0 + ad.getD j 0) % m]).flatten
theorem madeOf_zero (m : Int) (ls : List (List Int)) (ad : List Int) : madeOf m ls ad 0 = [] := rfl
theorem madeOf_step {m : Int} {ls : List (List Int)} {ad : List Int} {i : Nat} {l : List Int} (h : ls[i]? = some l) : madeOf m ls ad (i + 1) = madeOf m ls ad i ++ [(l.getD 0 0 + ad.getD i 0) % m] ++ [(l.getD 1 0 + ad.getD i 0) % m] := by
  unfold madeOf
  rw [List.range_succ, List.map_append, List.flatten_append]
  simp [h]
theorem mem_madeOf {m : Int} {ls : List (List Int)} {ad : List Int} {i : Nat} {x : Int} : x ∈ madeOf m ls ad i ↔ ∃ j, j < i ∧ (x = ((ls.getD j []).getD 0 0 + ad.getD j 0) % m ∨ x = ((ls.getD j []).getD 1 0 + ad.getD j 0) % m) := by
  unfold madeOf
  simp only [List.mem_flatten, List.mem_map, List.mem_range]
  constructor
  · rintro ⟨l, ⟨j, hj, rfl⟩, hx⟩
    refine ⟨j, hj, ?_⟩
    simpa using hx
  · rintro ⟨j, hj, hx⟩
    exact ⟨_, ⟨j, hj, rfl⟩, by simpa using hx⟩
theorem not_two {x a b : Int} (h1 : ¬ x = a) (h2 : ¬ x = b) : x ∉ [a, b] := fun h => by
  rcases List.mem_cons.1 h with h | h
  · exact h1 h
  · exact h2 (List.mem_singleton.1 h)
/-- What an adder asks of its number i. -/
def AdAt (m : Int) (ls : List (List Int)) (ad : List Int) (i : Nat) : Prop :=
  ((ls.getD i []).getD 0 0 + ad.getD i 0) % m ∉ [0] ++ madeOf m ls ad i ∧ ((ls.getD i []).getD 1 0 + ad.getD i 0) % m ∉ [0] ++ madeOf m ls ad i ∧ ad.getD i 0 ∉ ad.take i
def AdderL (m : Int) (ls : List (List Int)) (ad : List Int) : Prop := ∀ i : Nat, i < ad.length → AdAt m ls ad i

open Classical in
set_option maxHeartbeats 4000000 in
set_option maxRecDepth 100000 in
theorem c_canAdd (m : Int) (v u : Value) (ls : List (List Int)) (ad pre : List Int) (i : Nat) (w : World) (hv : RdII w v ls) (hu : RdI w u pre) (hl : ls.length ≤ 1048576) (hm3 : 3 ≤ m) (hm13 : m ≤ 13) (hp : PairsOk m ls)
    (hi : i < ad.length) (hlen : ad.length = ls.length) (hpre : pre = ad.take i) (hn : NumsOk m ls.length ad) (x : Int) (hx : x = ad.getD i 0) :
    Calls Tryd.prog 33 [Value.int .i64 m, v, u, .int .i64 x].toArray w (Res w (Is (.bool (decide (AdAt m ls ad i))))) := by
  have hpl : pre.length = i := by rw [hpre, List.length_take]; omega
  have hpg : ∀ j, j < i → pre.getD j 0 = ad.getD j 0 := fun j hj => by
    rw [hpre, List.getD_eq_getElem?_getD, List.getElem?_take_of_lt hj, ← List.getD_eq_getElem?_getD]
  have hxr : 1 ≤ x ∧ x < m := by rw [hx]; exact hn.2 i hi
  obtain ⟨a, cap, rfl⟩ := hv.len
  obtain ⟨ap, capp, rfl⟩ := hu.len
  refine calls_of_vw Tryd.func33 rfl Tryd.ntmps33 (by simp) ?_
  obtain ⟨l, hli⟩ : ∃ l, ls[i]? = some l := ⟨_, List.getElem?_eq_getElem (by omega)⟩
  have hgl : ls.getD i [] = l := by rw [List.getD_eq_getElem?_getD, hli]; rfl
  have hpl2 := hp i l hli
  have hl2 : l.length = 2 := hpl2.1.1
  have hx0 := hpl2.1.2 0 (by omega)
  have hy0 := hpl2.1.2 1 (by omega)
  obtain ⟨b', o, cap', u', hee, hcu, hu'⟩ := hv.at hli
  cases hee
  obtain ⟨a2, cap2, rfl⟩ := hu'.len
  obtain ⟨bq, oq, cq, hq, hcell⟩ := hu'.at (i := 0) (by omega)
  cases hq
  have hc0 := hcell 0 (by omega)
  have hc1 := hcell 1 (by omega)
  have hidx : ((pre.length : Nat) : Int).toNat = i := by omega
  repeat (first | refine vops_q tyOk rfl ?_ | refine vops_nil ?_ | refine vw_seq ?_ | refine vw_region (by kernel_rfl) ?_ | refine vops_p tyOk rfl (by (try simp only [inR]); omega) ?_ | refine vops_load tyOk rfl rfl (by exact congrArg (fun x => Value.pointer (some ⟨b', o + x, none⟩)) hidx) (sees_old hcu (by simp)) ?_)
  refine vw_draw [0, 1, 2, 3, 4, 5, 6, 7, 8, 9, 10, 11, 12, 13, 14, 15] (by kernel_rfl) (by kernel_rfl) (by kernel_rfl) rfl ?_
  repeat' (first | refine vd_q tyOk rfl (by first | trivial | rfl) rfl (by kernel_rfl) (by kernel_rfl) ?_ | refine vd_p tyOk rfl (by first | trivial | rfl) rfl (by kernel_rfl) (by kernel_rfl) (by (try simp only [inR]); omega) ?_ | refine vd_nil (by kernel_rfl) ?_ | refine vd_load tyOk rfl (by first | trivial | rfl) rfl rfl rfl (by kernel_rfl) (by kernel_rfl) (by kernel_rfl) (sees_old hc0 (by simp)) (by first | exact sub_refl | exact sub_cons sub_refl | exact sub_app sub_refl) ?_ | refine vd_load tyOk rfl (by first | trivial | rfl) rfl rfl rfl (by kernel_rfl) (by kernel_rfl) (by kernel_rfl) (sees_old hc1 (by simp)) (by first | exact sub_refl | exact sub_cons sub_refl | exact sub_app sub_refl) ?_)
  obtain ⟨X, hX⟩ : ∃ X, X = (l.getD 0 0 + x) % m := ⟨_, rfl⟩
  obtain ⟨Y, hY⟩ : ∃ Y, Y = (l.getD 1 0 + x) % m := ⟨_, rfl⟩
  have hAt : AdAt m ls ad i ↔ (X ∉ [0] ++ madeOf m ls ad i ∧ Y ∉ [0] ++ madeOf m ls ad i ∧ x ∉ ad.take i) := by
    unfold AdAt
    rw [hgl, ← hx, ← hX, ← hY]
  rw [← hX, ← hY]
  repeat (first | refine vops_q tyOk rfl ?_ | refine vw_seq ?_ | refine vw_region (by kernel_rfl) ?_ | refine vops_guardF rfl rfl ?_)
  refine bs_dec (fun hA => ?_) (fun hA => ?_)
  · repeat (first | refine vops_q tyOk rfl ?_ | refine vops_nil ?_ | refine vw_seq ?_ | refine vw_region (by kernel_rfl) ?_ | refine vops_guardF rfl rfl ?_ | with_reducible refine bs_true ?_ | refine vw_cond rfl ?_ | refine vw_ret ?_)
    exact rv_bool rfl rfl (decide_eq_false fun hh => (hAt.1 hh).1 (by rw [hA]; simp)).symm
  repeat (first | refine vops_q tyOk rfl ?_ | refine vops_nil ?_ | refine vops_guardF rfl rfl ?_ | with_reducible refine bs_false ?_ | refine vw_cond rfl ?_)
  refine bs_dec (fun hB => ?_) (fun hB => ?_)
  · repeat (first | refine vops_q tyOk rfl ?_ | refine vops_nil ?_ | refine vw_seq ?_ | refine vw_region (by kernel_rfl) ?_ | refine vw_ret ?_)
    exact rv_bool rfl rfl (decide_eq_false fun hh => (hAt.1 hh).2.1 (by rw [hB]; simp)).symm
  repeat (first | refine vops_q tyOk rfl ?_ | refine vops_nil ?_ | refine vw_seq ?_ | refine vw_region (by kernel_rfl) ?_ | refine vw_skip ?_ | refine vw_block ?_)
  refine vw_loop (fun m' f own => ∃ t : Nat, t ≤ i ∧ m' = i - t ∧ f 43 = .int .i64 t ∧ f 42 = .int .i64 pre.length ∧ f 41 = .slice ap pre.length capp ∧ f 0 = .int .i64 m ∧ f 1 = .slice (some ⟨b', o, none⟩) ls.length cap ∧ f 3 = .int .i64 x ∧ f 10 = .int .i64 X ∧ f 11 = .int .i64 Y ∧ own = [] ∧
      ∀ j : Nat, j < t → x ≠ ad.getD j 0 ∧ X ∉ [((ls.getD j []).getD 0 0 + ad.getD j 0) % m, ((ls.getD j []).getD 1 0 + ad.getD j 0) % m] ∧ Y ∉ [((ls.getD j []).getD 0 0 + ad.getD j 0) % m, ((ls.getD j []).getD 1 0 + ad.getD j 0) % m]) i
    ⟨0, by omega, by omega, rfl, rfl, rfl, rfl, rfl, rfl, rfl, rfl, rfl, fun j hj => by omega⟩ ?_
  rintro m' f own ⟨t, ht, rfl, h43, h42, h41, h0, h1, h3, h10, h11, rfl, hall⟩
  rw [upd_of h43, upd_of h42, upd_of h41, upd_of h0, upd_of h1, upd_of h3, upd_of h10, upd_of h11]
  repeat (first | refine vops_q tyOk rfl ?_ | refine vops_nil ?_ | refine vw_seq ?_ | refine vw_region (by kernel_rfl) ?_ | refine vw_cond rfl ?_)
  refine bs_dec (fun hlt => ?_) (fun hlt => ?_)
  · have hti : t < i := by omega
    obtain ⟨q, hqi⟩ : ∃ q, ls[t]? = some q := ⟨_, List.getElem?_eq_getElem (by omega)⟩
    have hgq : ls.getD t [] = q := by rw [List.getD_eq_getElem?_getD, hqi]; rfl
    have hpq := hp t q hqi
    have hq2 : q.length = 2 := hpq.1.1
    have hq0 := hpq.1.2 0 (by omega)
    have hq1 := hpq.1.2 1 (by omega)
    have har := hn.2 t (by omega)
    obtain ⟨b2, o2, cap3, u2, hee2, hcu2, hu2⟩ := hv.at hqi
    cases hee2
    obtain ⟨a4, cap4, rfl⟩ := hu2.len
    obtain ⟨bp, op, cp, hqq, hcell2⟩ := hu2.at (i := 0) (by omega)
    cases hqq
    have hd0 := hcell2 0 (by omega)
    have hd1 := hcell2 1 (by omega)
    obtain ⟨bz, oz, cz, hzz, hcellz⟩ := hu.at (i := t) (by omega)
    cases hzz
    have hcz := hcellz t (by omega)
    rw [hpg t hti] at hcz
    repeat (first | refine vops_q tyOk rfl ?_ | refine vops_nil ?_ | refine vw_seq ?_ | refine vw_region (by kernel_rfl) ?_ | refine vops_p tyOk rfl (by (try simp only [inR]); omega) ?_ | refine vw_skip ?_ | refine vw_block ?_ | refine vops_load tyOk rfl rfl rfl (sees_old hcz (by simp)) ?_)
    refine vw_draw [0, 1, 2, 3, 4, 5, 6, 7, 8, 9, 10, 11, 12, 13, 14, 15, 16, 17, 18, 19, 20, 21] (by kernel_rfl) (by kernel_rfl) (by kernel_rfl) rfl ?_
    repeat' (first | refine vd_q tyOk rfl (by first | trivial | rfl) rfl (by kernel_rfl) (by kernel_rfl) ?_ | refine vd_p tyOk rfl (by first | trivial | rfl) rfl (by kernel_rfl) (by kernel_rfl) (by (try simp only [inR]); omega) ?_ | refine vd_nil (by kernel_rfl) ?_ | refine vd_load tyOk rfl (by first | trivial | rfl) rfl rfl rfl (by kernel_rfl) (by kernel_rfl) (by kernel_rfl) (sees_old hcu2 (by simp)) (by first | exact sub_refl | exact sub_cons sub_refl | exact sub_app sub_refl) ?_ | refine vd_load tyOk rfl (by first | trivial | rfl) rfl rfl rfl (by kernel_rfl) (by kernel_rfl) (by kernel_rfl) (sees_old hd0 (by simp)) (by first | exact sub_refl | exact sub_cons sub_refl | exact sub_app sub_refl) ?_ | refine vd_load tyOk rfl (by first | trivial | rfl) rfl rfl rfl (by kernel_rfl) (by kernel_rfl) (by kernel_rfl) (sees_old hd1 (by simp)) (by first | exact sub_refl | exact sub_cons sub_refl | exact sub_app sub_refl) ?_)
    have hmem : ∀ z, z = (q.getD 0 0 + ad.getD t 0) % m ∨ z = (q.getD 1 0 + ad.getD t 0) % m → z ∈ [0] ++ madeOf m ls ad i := fun z hz => List.mem_append_right _ (mem_madeOf.2 ⟨t, hti, by rw [hgq]; exact hz⟩)
    repeat (first | refine vops_q tyOk rfl ?_ | refine vw_seq ?_ | refine vw_region (by kernel_rfl) ?_ | refine vops_guardF rfl rfl ?_)
    refine bs_dec (fun e1 => ?_) (fun e1 => ?_)
    · repeat (first | refine vops_q tyOk rfl ?_ | refine vops_nil ?_ | refine vw_seq ?_ | refine vw_region (by kernel_rfl) ?_ | refine vops_guardF rfl rfl ?_ | with_reducible refine bs_true ?_ | refine vw_cond rfl ?_ | refine vw_ret ?_)
      refine rv_bool rfl rfl (decide_eq_false fun hh => (hAt.1 hh).2.2 ?_).symm
      rw [e1, ← hpg t hti, ← hpre]
      exact mem_getD (by omega)
    repeat (first | refine vops_q tyOk rfl ?_ | refine vops_guardF rfl rfl ?_ | with_reducible refine bs_false ?_)
    refine bs_dec (fun e2 => ?_) (fun e2 => ?_)
    · repeat (first | refine vops_q tyOk rfl ?_ | refine vops_nil ?_ | refine vw_seq ?_ | refine vw_region (by kernel_rfl) ?_ | refine vops_guardF rfl rfl ?_ | with_reducible refine bs_true ?_ | refine vw_cond rfl ?_ | refine vw_ret ?_)
      exact rv_bool rfl rfl (decide_eq_false fun hh => (hAt.1 hh).1 (hmem _ (.inl e2))).symm
    repeat (first | refine vops_q tyOk rfl ?_ | refine vops_guardF rfl rfl ?_ | with_reducible refine bs_false ?_)
    refine bs_dec (fun e3 => ?_) (fun e3 => ?_)
    · repeat (first | refine vops_q tyOk rfl ?_ | refine vops_nil ?_ | refine vw_seq ?_ | refine vw_region (by kernel_rfl) ?_ | refine vops_guardF rfl rfl ?_ | with_reducible refine bs_true ?_ | refine vw_cond rfl ?_ | refine vw_ret ?_)
      exact rv_bool rfl rfl (decide_eq_false fun hh => (hAt.1 hh).1 (hmem _ (.inr e3))).symm
    repeat (first | refine vops_q tyOk rfl ?_ | refine vops_guardF rfl rfl ?_ | with_reducible refine bs_false ?_)
    refine bs_dec (fun e4 => ?_) (fun e4 => ?_)
    · repeat (first | refine vops_q tyOk rfl ?_ | refine vops_nil ?_ | refine vw_seq ?_ | refine vw_region (by kernel_rfl) ?_ | refine vops_guardF rfl rfl ?_ | with_reducible refine bs_true ?_ | refine vw_cond rfl ?_ | refine vw_ret ?_)
      exact rv_bool rfl rfl (decide_eq_false fun hh => (hAt.1 hh).2.1 (hmem _ (.inl e4))).symm
    repeat (first | refine vops_q tyOk rfl ?_ | refine vops_nil ?_ | refine vops_guardF rfl rfl ?_ | with_reducible refine bs_false ?_ | refine vw_cond rfl ?_)
    refine bs_dec (fun e5 => ?_) (fun e5 => ?_)
    · repeat (first | refine vops_q tyOk rfl ?_ | refine vops_nil ?_ | refine vw_seq ?_ | refine vw_region (by kernel_rfl) ?_ | refine vw_ret ?_)
      exact rv_bool rfl rfl (decide_eq_false fun hh => (hAt.1 hh).2.1 (hmem _ (.inr e5))).symm
    repeat (first | refine vops_q tyOk rfl ?_ | refine vops_nil ?_ | refine vw_region (by kernel_rfl) ?_ | refine vops_p tyOk rfl (by (try simp only [inR]); omega) ?_ | refine vw_skip ?_)
    exact ⟨i - (t + 1), by omega, t + 1, by omega, rfl, rfl, rfl, rfl, rfl, rfl, rfl, rfl, rfl, rfl, fun j hj => by
      by_cases hji : j = t
      · subst hji
        rw [hgq]
        exact ⟨e1, not_two e2 e3, not_two e4 e5⟩
      · exact hall j (by omega)⟩
  · repeat (first | refine vops_q tyOk rfl ?_ | refine vops_nil ?_ | refine vw_seq ?_ | refine vw_region (by kernel_rfl) ?_ | refine vw_ret ?_ | refine vw_exit ?_)
    refine rv_bool rfl rfl (decide_eq_true (hAt.2 ⟨fun h => ?_, fun h => ?_, fun h => ?_⟩)).symm
    · rcases List.mem_append.1 h with h | h
      · exact hA (by simpa using h)
      · obtain ⟨j, hj, hz⟩ := mem_madeOf.1 h
        exact (hall j (by omega)).2.1 (by simpa using hz)
    · rcases List.mem_append.1 h with h | h
      · exact hB (by simpa using h)
      · obtain ⟨j, hj, hz⟩ := mem_madeOf.1 h
        exact (hall j (by omega)).2.2 (by simpa using hz)
    · obtain ⟨j, hj⟩ := List.mem_iff_getElem?.1 h
      have hjl := (List.getElem?_eq_some_iff.1 hj).1
      rw [List.length_take] at hjl
      rw [List.getElem?_take_of_lt (by omega)] at hj
      exact (hall j (by omega)).1 (by rw [List.getD_eq_getElem?_getD, hj]; rfl)
end Go.Proofs.YtdgaabkgfbihpaaDoor

/- A part of the proof: Q16. No conditions of its own. -/
namespace Go.Proofs.YtdgaabkgfbihpaaDoor
open Go.VL
attribute [local irreducible] VWr VOps VD Calls Last

/-- 2: not as told; 1: no starter; 0: a starter, and a list of as many numbers. -/
noncomputable def adCode (m : Int) (ls : List (List Int)) (ad : List Int) : Int := open Classical in if (IsMod m ∧ PairsOk m ls) ∧ NumsOk m ls.length ad then if Starter m ls then 0 else 1 else 2
theorem adCode_zero {m : Int} {ls : List (List Int)} {ad : List Int} (h : adCode m ls ad = 0) : (IsMod m ∧ PairsOk m ls) ∧ NumsOk m ls.length ad ∧ Starter m ls := by
  unfold adCode at h
  split at h
  · rename_i h1
    split at h
    · exact ⟨h1.1, h1.2, by assumption⟩
    · cases h
  · cases h
noncomputable def adPan (m : Int) (ls : List (List Int)) (ad : List Int) (a0 a1 : Addr) : Option Value := if adCode m ls ad = 0 then none else if adCode m ls ad = 1 then some (er a1) else some (er a0)

open Classical in
set_option maxHeartbeats 1000000 in
set_option maxRecDepth 100000 in
theorem c_IsAdder1 (m : Int) (v u : Value) (ls : List (List Int)) (ad : List Int) (a0 a1 : Addr) (b3 b4 b5 : Nat) (w : World) (hv : RdII w v ls) (hu : RdI w u ad) (he : Errs w a0 a1) (hl : ls.length ≤ 1048576) (hll : ∀ l ∈ ls, l.length ≤ 1048576) (hal : ad.length ≤ 1048576)
    (h3 : w.cell? ⟨b3, 0, none⟩ = some (.int .i64 m)) (h4 : w.cell? ⟨b4, 0, none⟩ = some v) (h5 : w.cell? ⟨b5, 0, none⟩ = some u) :
    Calls Tryd.prog 29 [Value.pointer (some ⟨b3, 0, none⟩), .pointer (some ⟨b4, 0, none⟩), .pointer (some ⟨b5, 0, none⟩)].toArray w (Need w (adPan m ls ad a0 a1)) := by
  obtain ⟨a, cap, rfl⟩ := hv.len
  obtain ⟨ap, capp, rfl⟩ := hu.len
  refine calls_of_vwN Tryd.func29 rfl Tryd.ntmps29 (by simp) rfl ?_
  repeat (first | refine vw_regionP (o := ⟨_, .call ⟨.value (.func 30), _, _⟩, _, _, _, _⟩) rfl (by kernel_rfl) (by kernel_rfl) ?_ | (apply last_call ent30 rfl; (case h => (intro w' hg; exact c_needPairs m _ ls a0 a1 w' (hv.same hg.fr) (he.same hg.fr) hl hll))) | refine vops_load tyOk rfl rfl rfl (sees_old h3 (by simp)) ?_ | refine vops_load tyOk rfl rfl rfl (sees_old h4 (by simp)) ?_ | refine vops_nil ?_ | refine vw_seq ?_)
  · intro hc
    have h1 : IsMod m ∧ PairsOk m ls := by
      by_cases hh : IsMod m ∧ PairsOk m ls
      · exact hh
      · rw [if_neg hh] at hc; cases hc
    repeat (first | refine vw_regionP (o := ⟨_, .call ⟨.value (.func 31), _, _⟩, _, _, _, _⟩) rfl (by kernel_rfl) (by kernel_rfl) ?_ | (apply last_call ent31 rfl; (case h => (intro w' hg; exact c_needNumbers m _ ad ls.length a0 a1 w' (hu.same hg.fr) (he.same hg.fr) hal))) | refine vops_load tyOk rfl rfl rfl (sees_old h3 (by simp)) ?_ | refine vops_load tyOk rfl rfl rfl (sees_old h4 (by simp)) ?_ | refine vops_load tyOk rfl rfl rfl (sees_old h5 (by simp)) ?_ | refine vops_q tyOk rfl ?_ | refine vops_nil ?_ | refine vw_seq ?_)
    · intro hc1
      have h2 : NumsOk m ls.length ad := by
        by_cases hh : NumsOk m ls.length ad
        · exact hh
        · rw [if_neg hh] at hc1; cases hc1
      have hco : adPan m ls ad a0 a1 = if Starter m ls then none else some (er a1) := by
        unfold adPan adCode
        have h12 : (IsMod m ∧ PairsOk m ls) ∧ NumsOk m ls.length ad := ⟨h1, h2⟩
        rw [if_pos h12]
        by_cases hs : Starter m ls
        · simp [hs]
        · simp [hs]
      repeat (first | refine vw_regionP (o := ⟨_, .call ⟨.value (.func 32), _, _⟩, _, _, _, _⟩) rfl (by kernel_rfl) (by kernel_rfl) ?_ | (apply last_call ent32 rfl; (case h => (intro w' hg; exact c_needStarter m _ ls a0 a1 w' (hv.same hg.fr) (he.same hg.fr) h1.1 h1.2))) | refine vops_load tyOk rfl rfl rfl (sees_old h3 (by simp)) ?_ | refine vops_load tyOk rfl rfl rfl (sees_old h4 (by simp)) ?_ | refine vops_nil ?_)
      · intro hc2
        show adPan m ls ad a0 a1 = none
        rw [hco, hc2]
      · intro v hc2
        exact ⟨_, rfl, by rw [hco, hc2]⟩
    · intro v hc1
      have h2 : ¬ ((IsMod m ∧ PairsOk m ls) ∧ NumsOk m ls.length ad) := fun hh => by rw [if_pos hh.2] at hc1; cases hc1
      rw [if_neg fun hh => h2 ⟨h1, hh⟩] at hc1
      refine ⟨_, rfl, ?_⟩
      unfold adPan adCode
      rw [if_neg h2]
      simpa using hc1
  · intro v hc
    have h1 : ¬ ((IsMod m ∧ PairsOk m ls) ∧ NumsOk m ls.length ad) := fun hh => by rw [if_pos hh.1] at hc; cases hc
    rw [if_neg fun hh => by rw [if_pos hh] at hc; cases hc] at hc
    refine ⟨_, rfl, ?_⟩
    unfold adPan adCode
    rw [if_neg h1]
    simpa using hc

/-- What IsAdder hands back. -/
noncomputable def adderR (m : Int) (ls : List (List Int)) (ad : List Int) : Bool × Int := open Classical in if adCode m ls ad = 0 then (decide (AdderL m ls ad), 0) else (false, adCode m ls ad)

open Classical in
set_option maxHeartbeats 1000000 in
set_option maxRecDepth 100000 in
theorem c_impl_IsAdder (m : Int) (v u : Value) (ls : List (List Int)) (ad : List Int) (a0 a1 : Addr) (w : World) (hv : RdII w v ls) (hu : RdI w u ad) (he : Errs w a0 a1) (hl : ls.length ≤ 1048576) (hll : ∀ l ∈ ls, l.length ≤ 1048576) (hal : ad.length ≤ 1048576) (hcap : ∀ p n c, u = .slice p n c → n ≤ c) :
    Calls Tryd.prog 19 [Value.int .i64 m, v, u].toArray w (Res w (Is (.tuple #[.bool (adderR m ls ad).1, .int .i64 (adderR m ls ad).2]))) := by
  obtain ⟨a, cap, rfl⟩ := hv.len
  obtain ⟨ap, capp, rfl⟩ := hu.len
  have hcap := hcap _ _ _ rfl
  have hcase : adPan m ls ad a0 a1 = none ∧ adCode m ls ad = 0 ∨ adPan m ls ad a0 a1 = some (er a0) ∧ adCode m ls ad = 2 ∨ adPan m ls ad a0 a1 = some (er a1) ∧ adCode m ls ad = 1 := by
    unfold adPan adCode
    by_cases h1 : (IsMod m ∧ PairsOk m ls) ∧ NumsOk m ls.length ad
    · by_cases h2 : Starter m ls
      · simp [h1, h2]
      · simp [h1, h2]
    · simp [h1]
  refine calls_of_vw Tryd.func19 rfl Tryd.ntmps19 (by simp) ?_
  refine vw_seq (vw_region (by kernel_rfl) (vops_box [.int .i64 m] rfl (fun b3 hb3 => ?_)))
  refine vops_box [.slice a ls.length cap] rfl (fun b4 hb4 => ?_)
  refine vops_box [.slice ap ad.length capp] rfl (fun b5 hb5 => ?_)
  repeat (first | refine vops_q tyOk rfl ?_ | refine vops_nil ?_ | refine vw_seq ?_ | refine vw_region (by kernel_rfl) ?_ | refine vw_cond rfl ?_ | refine vops_mkf rfl ?_ | (apply vops_callp ent28 rfl; (intro w' hg; exact c_codeAtDoor 29 [.pointer (some ⟨b3, 0, none⟩), .pointer (some ⟨b4, 0, none⟩), .pointer (some ⟨b5, 0, none⟩)] ent29 a0 a1 _ _ hcase w' (he.same hg.fr) (fun w2 hf => c_IsAdder1 m _ _ ls ad a0 a1 b3 b4 b5 w2 ((hv.same hg.fr).same hf) ((hu.same hg.fr).same hf) ((he.same hg.fr).same hf) hl hll hal (hf.cell (by simp) (cell_of_blk hg.ok (List.mem_cons_of_mem _ (List.mem_cons_of_mem _ List.mem_cons_self)) rfl)) (hf.cell (by simp) (cell_of_blk hg.ok (List.mem_cons_of_mem _ List.mem_cons_self) rfl)) (hf.cell (by simp) (cell_of_blk hg.ok List.mem_cons_self rfl))))))
  refine bs_ndec2 (fun hc => ?_) (fun hc => ?_)
  · repeat (first | refine vops_q tyOk rfl ?_ | refine vops_nil ?_ | refine vw_seq ?_ | refine vw_region (by kernel_rfl) ?_ | refine vw_ret ?_)
    exact out_bcQ rfl rfl rfl (by rw [adderR, if_neg hc])
  have hres : adderR m ls ad = (decide (AdderL m ls ad), 0) := by rw [adderR, if_pos hc]
  obtain ⟨⟨hm, hp⟩, hn, hst⟩ := adCode_zero hc
  have hlen : ad.length = ls.length := hn.1
  repeat (first | refine vops_q tyOk rfl ?_ | refine vops_nil ?_ | refine vw_seq ?_ | refine vw_region (by kernel_rfl) ?_ | refine vw_skip ?_ | refine vw_block ?_ | ((show VOps _ _ _ _ (⟨some _, Go.Op.load _ _, _, _, _, none⟩ :: _) _ _); refine vops_loadM tyOk rfl rfl rfl (by repeat (first | exact mem_here | apply mem_next | apply mem_past)) (by rfl) ?_))
  refine vw_loop (fun m' f own => ∃ i : Nat, i ≤ ad.length ∧ m' = ad.length - i ∧ f 18 = .int .i64 i ∧ f 17 = .int .i64 ad.length ∧ f 16 = .slice ap ad.length capp ∧ f 3 = .pointer (some ⟨b3, 0, none⟩) ∧ f 4 = .pointer (some ⟨b4, 0, none⟩) ∧ f 5 = .pointer (some ⟨b5, 0, none⟩) ∧
      own = [(b5, ⟨[.slice ap ad.length capp], 23, 1, none⟩), (b4, ⟨[.slice a ls.length cap], 22, 1, none⟩), (b3, ⟨[.int .i64 m], 2, 1, none⟩)] ∧ ∀ j : Nat, j < i → AdAt m ls ad j) ad.length
    ⟨0, by omega, by omega, rfl, rfl, rfl, rfl, rfl, rfl, rfl, fun j hj => by omega⟩ ?_
  rintro m' f own ⟨i, hi, rfl, h18, h17, h16, h3, h4, h5, rfl, hall⟩
  rw [upd_of h18, upd_of h17, upd_of h16, upd_of h3, upd_of h4, upd_of h5]
  repeat (first | refine vops_q tyOk rfl ?_ | refine vops_nil ?_ | refine vw_seq ?_ | refine vw_region (by kernel_rfl) ?_ | refine vw_cond rfl ?_)
  refine bs_dec (fun hlt => ?_) (fun hlt => ?_)
  · have hil : i < ad.length := by omega
    have ei : (i : Int).toNat = i := Int.toNat_natCast i
    obtain ⟨bz, oz, cz, hzz, hcellz⟩ := hu.at (i := i) hil
    cases hzz
    have hcz := hcellz i hil
    have hsl : sliced (some ⟨bz, oz, none⟩) (Int.toNat 0) (i : Int).toNat capp 1 = .slice (some ⟨bz, oz, none⟩) i capp := by simp [sliced, Addr.add]
    have hpre : ∀ w', RdI w' (.slice (some ⟨bz, oz, none⟩) ad.length capp) ad → RdI w' (.slice (some ⟨bz, oz, none⟩) i capp) (ad.take i) := fun w' h => by
      rcases h with ⟨p, c, h1, h2⟩ | ⟨b, o, c, h1, h2⟩
      · rw [h2] at hil; simp at hil
      · cases h1
        refine .inr ⟨bz, oz, capp, by rw [List.length_take, Nat.min_eq_left (by omega)], fun j x hx => h2 j x ?_⟩
        have hj : j < i := by have := (List.getElem?_eq_some_iff.1 hx).1; rw [ints_length, List.length_take] at this; omega
        have : (ints (ad.take i))[j]? = (ints ad)[j]? := by
          unfold ints
          rw [List.map_take, List.getElem?_take_of_lt hj]
        rw [← this]; exact hx
    repeat (first | refine vops_q tyOk rfl ?_ | refine vops_nil ?_ | refine vw_seq ?_ | refine vw_region (by kernel_rfl) ?_ | refine vops_p tyOk rfl (by (try simp only [inR]); omega) ?_ | refine vw_skip ?_ | refine vw_block ?_ | refine vops_load tyOk rfl rfl rfl (sees_old hcz (by simp)) ?_)
    refine vw_draw [0, 1, 2, 3, 4, 5, 6, 7] (by kernel_rfl) (by kernel_rfl) (by kernel_rfl) rfl ?_
    repeat' (first | refine vd_q tyOk rfl (by first | trivial | rfl) rfl (by kernel_rfl) (by kernel_rfl) ?_ | refine vops_nil ?_ | refine vd_nil (by kernel_rfl) ?_ | refine ⟨fun _ _ _ h => h, ?_⟩ | refine vd_load tyOk rfl (by first | trivial | rfl) rfl rfl rfl (by kernel_rfl) (by kernel_rfl) (by kernel_rfl) (sees_mem (by repeat (first | exact mem_here | apply mem_next | apply mem_past)) (by rfl)) (by repeat (first | exact sub_hereL | exact sub_refl | apply sub_cons | apply sub_app)) ?_ | refine vd_slice tyOk rfl (by first | trivial | rfl) rfl rfl rfl rfl rfl (by kernel_rfl) (by kernel_rfl) (by omega) ?_ | (apply vops_callp ent33 rfl; (intro w' hg; exact c_canAdd m _ _ ls ad (ad.take i) i w' (hv.same hg.fr) (by rw [hsl]; exact hpre w' (hu.same hg.fr)) hl hm.1 hm.2.1 hp hil hlen rfl hn _ rfl)) | refine vd_one rfl (by kernel_rfl) (by kernel_rfl) rfl ?_)
    repeat (first | refine vw_cond rfl ?_)
    refine bs_ndec2 (fun hz => ?_) (fun hz => ?_)
    · repeat (first | refine vops_q tyOk rfl ?_ | refine vops_nil ?_ | refine vw_seq ?_ | refine vw_region (by kernel_rfl) ?_ | refine vw_ret ?_)
      exact out_bcQ rfl rfl rfl (by rw [hres, decide_eq_false fun hh => hz (hh i hil)])
    repeat (first | refine vops_q tyOk rfl ?_ | refine vops_nil ?_ | refine vw_region (by kernel_rfl) ?_ | refine vops_p tyOk rfl (by (try simp only [inR]); omega) ?_ | refine vw_skip ?_)
    exact ⟨ad.length - (i + 1), by omega, i + 1, by omega, rfl, rfl, rfl, rfl, rfl, rfl, rfl, rfl, fun j hj => by
      by_cases hji : j = i
      · subst hji; exact hz
      · exact hall j (by omega)⟩
  · repeat (first | refine vops_q tyOk rfl ?_ | refine vops_nil ?_ | refine vw_seq ?_ | refine vw_region (by kernel_rfl) ?_ | refine vw_ret ?_ | refine vw_exit ?_)
    exact out_bcQ rfl rfl rfl (by rw [hres, decide_eq_true (show AdderL m ls ad from fun j hj => hall j (by omega))])
end Go.Proofs.YtdgaabkgfbihpaaDoor

/- A part of the proof: Q17. No conditions of its own. -/
namespace Go.Proofs.YtdgaabkgfbihpaaDoor
open Go.VL
attribute [local irreducible] VWr VOps VD Calls Last

open Classical in
set_option maxHeartbeats 4000000 in
set_option maxRecDepth 100000 in
theorem c_l03Adder (m : Int) (v u : Value) (ls : List (List Int)) (ad : List Int) (w : World) (hv : RdII w v ls) (hu : RdI w u ad) (hl : ls.length ≤ 1048576) (hm3 : 3 ≤ m) (hm13 : m ≤ 13) (hp : PairsOk m ls) (hn : NumsOk m ls.length ad) :
    Calls Tryd.prog 26 [Value.int .i64 m, v, u].toArray w (Res w (Is (.bool (decide (AdderL m ls ad))))) := by
  obtain ⟨a, cap, rfl⟩ := hv.len
  obtain ⟨ap, capp, rfl⟩ := hu.len
  obtain ⟨k, rfl⟩ : ∃ k : Nat, m = (k : Int) := ⟨m.toNat, by omega⟩
  have hlen : ad.length = ls.length := hn.1
  refine calls_of_vw Tryd.func26 rfl Tryd.ntmps26 (by simp) ?_
  repeat (first | refine vops_q tyOk rfl ?_ | refine vops_nil ?_ | refine vw_seq ?_ | refine vw_region (by kernel_rfl) ?_)
  refine vw_mid (fun f' own' => ∃ b7 b8, f' 0 = .int .i64 k ∧ f' 1 = .slice a ls.length cap ∧ f' 2 = .slice ap ad.length capp ∧ f' 7 = .slice (some ⟨b7, 0, none⟩) k k ∧ f' 8 = .slice (some ⟨b8, 0, none⟩) k k ∧
      own'.Perm [(b8, ⟨bools (List.replicate k false), 4, k, none⟩), (b7, ⟨bools (List.replicate k false), 4, k, none⟩)]) ?_ ?_
  · refine vw_draw [0, 2, 1, 3, 4, 5] (by kernel_rfl) (by kernel_rfl) (by kernel_rfl) rfl ?_
    iterate 2 (first | refine vd_q tyOk rfl (by first | trivial | rfl) rfl (by kernel_rfl) (by kernel_rfl) ?_ | refine vd_p tyOk rfl (by first | trivial | rfl) rfl (by kernel_rfl) (by kernel_rfl) (by (try simp only [inR]); omega) ?_ | refine vd_skipT rfl rfl (by kernel_rfl) (by kernel_rfl) ?_ | refine vd_skipF rfl rfl (by kernel_rfl) (by kernel_rfl) ?_ | refine vd_skipU rfl rfl (by kernel_rfl) (by kernel_rfl) ?_ | refine vops_nil ?_ | refine vd_nil (by kernel_rfl) ?_ | refine ⟨fun _ _ _ h => h, ?_⟩ | refine ⟨fun _ _ _ h => List.mem_cons_of_mem _ h, ?_⟩ | refine ⟨fun _ _ _ h => List.mem_append_right _ h, ?_⟩ | refine vops_q tyOk rfl ?_ | refine vd_load tyOk rfl (by first | trivial | rfl) rfl rfl rfl (by kernel_rfl) (by kernel_rfl) (by kernel_rfl) (sees_mem (by repeat (first | exact mem_here | apply mem_next | apply mem_past)) (by rfl)) (by repeat (first | exact sub_hereL | exact sub_refl | apply sub_cons | apply sub_app)) ?_ | refine vd_load tyOk rfl (by first | trivial | rfl) rfl rfl rfl (by kernel_rfl) (by kernel_rfl) (by kernel_rfl) (sees_mem (k := ⟨ints _, _, _, none⟩) (by repeat (first | exact mem_here | apply mem_next | apply mem_past)) (by exact ints_get0 (by omega))) (by repeat (first | exact sub_hereL | exact sub_refl | apply sub_cons | apply sub_app)) ?_ | refine vd_loadNM tyOk rfl (by first | trivial | rfl) rfl rfl rfl (by repeat (first | exact mem_here | apply mem_next | apply mem_past)) (by first | rfl | (rw [ints_length]; first | assumption | omega | (rw [ints_length]; first | assumption | omega | simp [*])) | simp [*]) (by kernel_rfl) (by kernel_rfl) (by kernel_rfl) (by repeat (first | exact sub_hereL | exact sub_refl | apply sub_cons | apply sub_app)) ?_ | refine vd_build2 rfl (by first | trivial | rfl) rfl rfl (by kernel_rfl) (by kernel_rfl) (by kernel_rfl) ?_ | refine vd_slice tyOk rfl (by first | trivial | rfl) rfl rfl rfl rfl rfl (by kernel_rfl) (by kernel_rfl) (by omega) ?_ | refine ⟨fun h => Bool.noConfusion (show false = true from h), ?_⟩ | refine ⟨fun _ p hp _ => (show Go.VL.Sub _ _ from (by repeat (first | exact sub_hereL | exact sub_refl | apply sub_cons | apply sub_app))) p hp, ?_⟩ | skip | ((show VOps _ _ _ _ (⟨some _, Go.Op.load _ _, _, _, _, none⟩ :: _) _ _); first | refine vops_loadM tyOk rfl rfl rfl (by repeat (first | exact mem_here | apply mem_next | apply mem_past)) (by rfl) ?_ | refine vops_loadM tyOk rfl rfl rfl (by repeat (first | exact mem_here | apply mem_next | apply mem_past)) (by exact ints_get0 (by omega)) ?_ | refine vops_loadNM tyOk rfl rfl rfl (by repeat (first | exact mem_here | apply mem_next | apply mem_past)) (by first | rfl | (rw [ints_length]; first | assumption | omega | (rw [ints_length]; first | assumption | omega | simp [*])) | simp [*]) ?_) | ((show VOps _ _ _ _ (⟨none, Go.Op.store _ _ _, _, _, _, none⟩ :: _) _ _); first | refine vops_storeIM tyOk rfl rfl rfl rfl (by repeat (first | exact upd_here | apply upd_next | apply upd_past)) (by omega) ?_ | refine vops_storeM tyOk rfl rfl rfl rfl rfl (by repeat (first | exact upd_here | apply upd_next | apply upd_past)) (by simp) ?_ | refine vops_storeAM tyOk rfl rfl rfl (by first | rfl | (rw [ints_length]; first | assumption | omega | (rw [ints_length]; first | assumption | omega | simp [*])) | simp [*]) (by first | exact ints_one | simp [Value.oneCell']) (by repeat (first | exact upd_here | apply upd_next | apply upd_past)) (by first | rfl | (rw [ints_length]; first | assumption | omega | (rw [ints_length]; first | assumption | omega | simp [*])) | simp [*]) ?_) | refine vops_build2 rfl rfl (by kernel_rfl) ?_ | refine vops_buildZ tyOk rfl (by kernel_rfl) ?_ | refine vops_slice tyOk rfl rfl rfl rfl rfl (by omega) ?_ | refine vd_one rfl (by kernel_rfl) (by kernel_rfl) rfl ?_ | refine vd_oneG rfl (by kernel_rfl) (by kernel_rfl) rfl ?_ | (refine vd_gsplit rfl rfl rfl ?_; (fail_if_success (with_reducible (first | refine bs_true ?_ | refine bs_false ?_))); with_reducible refine bs_dec (fun _ => ?_) (fun _ => ?_)) <;> try (exfalso; omega) | (refine vd_gsplit rfl rfl rfl ?_; (fail_if_success (with_reducible (first | refine bs_true ?_ | refine bs_false ?_))); with_reducible refine bs_ndec (fun _ => ?_) (fun _ => ?_)) <;> try (exfalso; omega) | (refine vd_gsplit rfl rfl rfl ?_; (fail_if_success (with_reducible (first | refine bs_true ?_ | refine bs_false ?_))); with_reducible refine bs_nany (fun _ => ?_) (fun _ => ?_)) <;> try (exfalso; omega) | (refine vd_gsplit rfl rfl rfl ?_; (fail_if_success (with_reducible (first | refine bs_true ?_ | refine bs_false ?_))); with_reducible refine bs_any (fun _ => ?_) (fun _ => ?_)) <;> try (exfalso; omega))
    refine vd_two (j := 3) [4, 3, 5] [1, 4, 5] rfl rfl (by kernel_rfl) rfl rfl rfl rfl ?_ ?_
    · refine vops_makeBools (n := k) tyOk rfl rfl rfl rfl rfl rfl rfl (by decide) (by omega) (fun b7 hb7 => ?_)
      repeat' (first | refine vd_q tyOk rfl (by first | trivial | rfl) rfl (by kernel_rfl) (by kernel_rfl) ?_ | refine vops_nil ?_ | refine vd_nil (by kernel_rfl) ?_ | refine ⟨fun _ _ _ h => List.mem_cons_of_mem _ h, ?_⟩ | refine vops_makeBools (n := k) tyOk rfl rfl rfl rfl rfl rfl rfl (by decide) (by omega) (fun b8 hb8 => ?_) | refine vd_one rfl (by kernel_rfl) (by kernel_rfl) rfl ?_)
      exact ⟨_, _, rfl, rfl, rfl, rfl, rfl, List.Perm.refl _⟩
    · refine vops_makeBools (n := k) tyOk rfl rfl rfl rfl rfl rfl rfl (by decide) (by omega) (fun b8 hb8 => ?_)
      repeat' (first | refine vd_q tyOk rfl (by first | trivial | rfl) rfl (by kernel_rfl) (by kernel_rfl) ?_ | refine vops_nil ?_ | refine vd_nil (by kernel_rfl) ?_ | refine ⟨fun _ _ _ h => List.mem_cons_of_mem _ h, ?_⟩ | refine vops_makeBools (n := k) tyOk rfl rfl rfl rfl rfl rfl rfl (by decide) (by omega) (fun b7 hb7 => ?_) | refine vd_one rfl (by kernel_rfl) (by kernel_rfl) rfl ?_)
      exact ⟨_, _, rfl, rfl, rfl, rfl, rfl, List.Perm.swap _ _ _⟩
  rintro f own ⟨b7, b8, h0, h1, h2, h7, h8, hperm⟩
  refine vw_perm hperm ?_
  rw [upd_of h0, upd_of h1, upd_of h2, upd_of h7, upd_of h8]
  repeat (first | refine vops_q tyOk rfl ?_ | refine vops_nil ?_ | refine vw_seq ?_ | refine vw_region (by kernel_rfl) ?_ | refine vops_p tyOk rfl (by (try simp only [inR]); omega) ?_ | refine vw_block ?_ | refine vops_storeBM tyOk rfl rfl rfl rfl (by repeat (first | exact upd_here | apply upd_next | apply upd_past)) (by rw [List.length_replicate]; omega) ?_)
  refine vw_loop (fun m' f own => ∃ (i : Nat) (N S : List Bool), i ≤ ad.length ∧ m' = ad.length - i ∧ f 9 = .int .i64 i ∧ f 0 = .int .i64 k ∧ f 1 = .slice a ls.length cap ∧ f 2 = .slice ap ad.length capp ∧ f 7 = .slice (some ⟨b7, 0, none⟩) k k ∧ f 8 = .slice (some ⟨b8, 0, none⟩) k k ∧
      own = [(b8, ⟨bools S, 4, k, none⟩), (b7, ⟨bools N, 4, k, none⟩)] ∧ Marks k N ([0] ++ madeOf k ls ad i) ∧ Marks k S (ad.take i) ∧ ∀ j : Nat, j < i → AdAt k ls ad j) ad.length
    ⟨0, _, _, by omega, by omega, rfl, rfl, rfl, rfl, rfl, rfl, rfl, by rw [madeOf_zero]; exact (Marks.nil k).set (a := 0) (by omega) (by omega), by rw [List.take_zero]; exact Marks.nil k, fun j hj => by omega⟩ ?_
  clear h0 h1 h2 h7 h8 hperm f own
  rintro m' f own ⟨i, N, S, hi, rfl, h9, h0, h1, h2, h7, h8, rfl, hN, hS, hall⟩
  rw [upd_of h9, upd_of h0, upd_of h1, upd_of h2, upd_of h7, upd_of h8]
  have hNl := hN.len
  have hSl := hS.len
  repeat (first | refine vops_q tyOk rfl ?_ | refine vops_nil ?_ | refine vw_seq ?_ | refine vw_region (by kernel_rfl) ?_ | refine vw_cond rfl ?_)
  refine bs_dec (fun hlt => ?_) (fun hlt => ?_)
  · have hil : i < ad.length := by omega
    obtain ⟨l, hli⟩ : ∃ l, ls[i]? = some l := ⟨_, List.getElem?_eq_getElem (by omega)⟩
    have hgl : ls.getD i [] = l := by rw [List.getD_eq_getElem?_getD, hli]; rfl
    have hpl := hp i l hli
    have hl2 : l.length = 2 := hpl.1.1
    have hx := hpl.1.2 0 (by omega)
    have hy := hpl.1.2 1 (by omega)
    have har := hn.2 i hil
    obtain ⟨b', o, cap', u', hee, hcu, hu'⟩ := hv.at hli
    cases hee
    obtain ⟨a2, cap2, rfl⟩ := hu'.len
    obtain ⟨bq, oq, cq, hq, hcell⟩ := hu'.at (i := 0) (by omega)
    cases hq
    have hc0 := hcell 0 (by omega)
    have hc1 := hcell 1 (by omega)
    obtain ⟨bz, oz, cz, hzz, hcellz⟩ := hu.at (i := i) hil
    cases hzz
    have hcz := hcellz i hil
    repeat (first | refine vw_seq ?_ | refine vw_skip ?_ | refine vw_block ?_)
    refine vw_draw [0, 1, 2, 3, 4, 5, 6, 7, 8, 9, 10, 11, 12, 13, 14, 15, 16, 17, 18, 19, 20, 21, 22, 23, 24, 25, 26, 27] (by kernel_rfl) (by kernel_rfl) (by kernel_rfl) rfl ?_
    repeat' (first | refine vd_q tyOk rfl (by first | trivial | rfl) rfl (by kernel_rfl) (by kernel_rfl) ?_ | refine vd_p tyOk rfl (by first | trivial | rfl) rfl (by kernel_rfl) (by kernel_rfl) (by (try simp only [inR]); omega) ?_ | refine vd_nil (by kernel_rfl) ?_ | refine vd_load tyOk rfl (by first | trivial | rfl) rfl rfl rfl (by kernel_rfl) (by kernel_rfl) (by kernel_rfl) (sees_old hcu (by simp)) (by repeat (first | exact sub_hereL | exact sub_refl | apply sub_cons | apply sub_app)) ?_ | refine vd_load tyOk rfl (by first | trivial | rfl) rfl rfl rfl (by kernel_rfl) (by kernel_rfl) (by kernel_rfl) (sees_old hc0 (by simp)) (by repeat (first | exact sub_hereL | exact sub_refl | apply sub_cons | apply sub_app)) ?_ | refine vd_load tyOk rfl (by first | trivial | rfl) rfl rfl rfl (by kernel_rfl) (by kernel_rfl) (by kernel_rfl) (sees_old hc1 (by simp)) (by repeat (first | exact sub_hereL | exact sub_refl | apply sub_cons | apply sub_app)) ?_ | refine vd_load tyOk rfl (by first | trivial | rfl) rfl rfl rfl (by kernel_rfl) (by kernel_rfl) (by kernel_rfl) (sees_old hcz (by simp)) (by repeat (first | exact sub_hereL | exact sub_refl | apply sub_cons | apply sub_app)) ?_)
    obtain ⟨X, hX⟩ : ∃ X, X = (l.getD 0 0 + ad.getD i 0) % (k : Int) := ⟨_, rfl⟩
    obtain ⟨Y, hY⟩ : ∃ Y, Y = (l.getD 1 0 + ad.getD i 0) % (k : Int) := ⟨_, rfl⟩
    have hXr : 0 ≤ X ∧ X < k := by rw [hX]; exact ⟨Int.emod_nonneg _ (by omega), Int.emod_lt_of_pos _ (by omega)⟩
    have hYr : 0 ≤ Y ∧ Y < k := by rw [hY]; exact ⟨Int.emod_nonneg _ (by omega), Int.emod_lt_of_pos _ (by omega)⟩
    have hAt : AdAt k ls ad i ↔ (X ∉ [0] ++ madeOf k ls ad i ∧ Y ∉ [0] ++ madeOf k ls ad i ∧ ad.getD i 0 ∉ ad.take i) := by
      unfold AdAt
      rw [hgl, ← hX, ← hY]
    rw [← hX, ← hY]
    repeat (first | refine vops_q tyOk rfl ?_ | refine vw_seq ?_ | refine vw_region (by kernel_rfl) ?_ | refine vops_guardF rfl rfl ?_ | refine vops_p tyOk rfl (by (try simp only [inR]); omega) ?_ | refine vops_loadM tyOk rfl rfl rfl (by repeat (first | exact mem_here | apply mem_next | apply mem_past)) (by exact bools_get (by omega)) ?_)
    rw [hN.get (a := X) (by omega) (by omega)]
    refine bs_dec (fun hC => ?_) (fun hC => ?_)
    · repeat (first | refine vops_q tyOk rfl ?_ | refine vops_nil ?_ | refine vw_seq ?_ | refine vw_region (by kernel_rfl) ?_ | refine vops_guardF rfl rfl ?_ | with_reducible refine bs_true ?_ | refine vw_cond rfl ?_ | refine vw_ret ?_)
      exact rv_bool rfl rfl (decide_eq_false fun hh => (hAt.1 (hh i hil)).1 hC).symm
    repeat (first | refine vops_q tyOk rfl ?_ | refine vops_guardF rfl rfl ?_ | with_reducible refine bs_false ?_ | refine vops_p tyOk rfl (by (try simp only [inR]); omega) ?_ | refine vops_loadM tyOk rfl rfl rfl (by repeat (first | exact mem_here | apply mem_next | apply mem_past)) (by exact bools_get (by omega)) ?_)
    rw [hN.get (a := Y) (by omega) (by omega)]
    refine bs_dec (fun hD => ?_) (fun hD => ?_)
    · repeat (first | refine vops_q tyOk rfl ?_ | refine vops_nil ?_ | refine vw_seq ?_ | refine vw_region (by kernel_rfl) ?_ | refine vops_guardF rfl rfl ?_ | with_reducible refine bs_true ?_ | refine vw_cond rfl ?_ | refine vw_ret ?_)
      exact rv_bool rfl rfl (decide_eq_false fun hh => (hAt.1 (hh i hil)).2.1 hD).symm
    repeat (first | refine vops_q tyOk rfl ?_ | refine vops_nil ?_ | refine vops_guardF rfl rfl ?_ | with_reducible refine bs_false ?_ | refine vops_p tyOk rfl (by (try simp only [inR]); omega) ?_ | refine vw_cond rfl ?_ | refine vops_load tyOk rfl rfl rfl (sees_old hcz (by simp)) ?_ | refine vops_loadM tyOk rfl rfl rfl (by repeat (first | exact mem_here | apply mem_next | apply mem_past)) (by exact bools_get (by omega)) ?_)
    rw [hS.get (a := ad.getD i 0) (by omega) (by omega)]
    refine bs_dec (fun hE => ?_) (fun hE => ?_)
    · repeat (first | refine vops_q tyOk rfl ?_ | refine vops_nil ?_ | refine vw_seq ?_ | refine vw_region (by kernel_rfl) ?_ | refine vw_ret ?_)
      exact rv_bool rfl rfl (decide_eq_false fun hh => (hAt.1 (hh i hil)).2.2 hE).symm
    repeat (first | refine vops_q tyOk rfl ?_ | refine vops_nil ?_ | refine vw_seq ?_ | refine vw_region (by kernel_rfl) ?_ | refine vops_p tyOk rfl (by (try simp only [inR]); omega) ?_ | refine vw_skip ?_ | refine vops_load tyOk rfl rfl rfl (sees_old hcz (by simp)) ?_ | refine vops_storeBM tyOk rfl rfl rfl rfl (by repeat (first | exact upd_here | apply upd_next | apply upd_past)) (by first | omega | (rw [List.length_set]; omega)) ?_)
    refine ⟨ad.length - (i + 1), by omega, i + 1, _, _, by omega, rfl, rfl, rfl, rfl, rfl, rfl, rfl, rfl, ?_, ?_, fun j hj => ?_⟩
    · rw [madeOf_step hli, ← hX, ← hY, ← List.append_assoc, ← List.append_assoc]
      exact (hN.set (by omega) (by omega)).set (by omega) (by omega)
    · rw [take_snoc hil]
      exact hS.set (by omega) (by omega)
    · by_cases hji : j = i
      · subst hji; exact hAt.2 ⟨hC, hD, hE⟩
      · exact hall j (by omega)
  · repeat (first | refine vops_q tyOk rfl ?_ | refine vops_nil ?_ | refine vw_seq ?_ | refine vw_region (by kernel_rfl) ?_ | refine vw_ret ?_ | refine vw_exit ?_)
    exact rv_bool rfl rfl (decide_eq_true (show AdderL k ls ad from fun j hj => hall j (by omega))).symm
end Go.Proofs.YtdgaabkgfbihpaaDoor

/- A part of the proof: Q18. No conditions of its own. -/
namespace Go.Proofs.YtdgaabkgfbihpaaDoor
open Go.VL
attribute [local irreducible] VWr VOps VD Calls Last

theorem stCode_two {m : Int} {ls : List (List Int)} : stCode m ls = 2 ↔ ¬ (IsMod m ∧ PairsOk m ls) := by
  unfold stCode
  constructor
  · intro h hh
    rw [if_pos hh] at h
    split at h <;> omega
  · intro h; rw [if_neg h]
theorem adCode_bad {m : Int} {ls : List (List Int)} {ad : List Int} (h : stCode m ls = 2) : adCode m ls ad = 2 := by
  unfold adCode
  exact if_neg fun hh => stCode_two.1 h hh.1
theorem adCode_nums {m : Int} {ls : List (List Int)} {ad : List Int} (h : ¬ NumsOk m ls.length ad) : adCode m ls ad = 2 := by
  unfold adCode
  exact if_neg fun hh => h hh.2
theorem adCode_same {m : Int} {ls : List (List Int)} {ad : List Int} (h : stCode m ls ≠ 2) (hn : NumsOk m ls.length ad) : adCode m ls ad = stCode m ls := by
  have h1 : IsMod m ∧ PairsOk m ls := Classical.byContradiction fun hh => h (stCode_two.2 hh)
  have h12 : (IsMod m ∧ PairsOk m ls) ∧ NumsOk m ls.length ad := ⟨h1, hn⟩
  unfold adCode stCode
  rw [if_pos h12, if_pos h1]

open Classical in
set_option maxHeartbeats 1000000 in
set_option maxRecDepth 100000 in
theorem c_spec_IsAdder (m : Int) (v u : Value) (ls : List (List Int)) (ad : List Int) (w : World) (hv : RdII w v ls) (hu : RdI w u ad) (hl : ls.length ≤ 1048576) (hll : ∀ l ∈ ls, l.length ≤ 1048576) (_hal : ad.length ≤ 1048576) :
    Calls Tryd.prog 17 [Value.int .i64 m, v, u].toArray w (Res w (Is (.tuple #[.bool (adderR m ls ad).1, .int .i64 (adderR m ls ad).2]))) := by
  obtain ⟨a, cap, rfl⟩ := hv.len
  obtain ⟨ap, capp, rfl⟩ := hu.len
  refine calls_of_vw Tryd.func17 rfl Tryd.ntmps17 (by simp) ?_
  repeat (first | refine vops_q tyOk rfl ?_ | refine vops_nil ?_ | refine vw_seq ?_ | refine vw_region (by kernel_rfl) ?_ | refine vw_cond rfl ?_ | (apply vops_callp ent24 rfl; (intro w' hg; exact c_l03Code m _ ls w' (hv.same hg.fr) hl hll)))
  refine bs_ndec2 (fun h2 => ?_) (fun h2 => ?_)
  · have hmp : IsMod m ∧ PairsOk m ls := Classical.byContradiction fun hh => h2 (stCode_two.2 hh)
    have hm3 := hmp.1.1
    have hm13 := hmp.1.2.1
    repeat (first | refine vops_q tyOk rfl ?_ | refine vops_nil ?_ | refine vw_seq ?_ | refine vw_region (by kernel_rfl) ?_ | refine vw_cond rfl ?_)
    refine bs_ndec2 (fun hlen => ?_) (fun hlen => ?_)
    · repeat (first | refine vops_q tyOk rfl ?_ | refine vops_nil ?_ | refine vw_seq ?_ | refine vw_region (by kernel_rfl) ?_ | refine vw_ret ?_)
      have hc : adCode m ls ad = 2 := adCode_nums fun hh => hlen (by rw [hh.1])
      exact out_bcQ rfl rfl rfl (by rw [adderR, if_neg (by rw [hc]; decide), hc])
    have hlen' : ad.length = ls.length := by omega
    repeat (first | refine vops_q tyOk rfl ?_ | refine vops_nil ?_ | refine vw_seq ?_ | refine vw_region (by kernel_rfl) ?_ | refine vw_skip ?_ | refine vw_block ?_)
    refine vw_loop (fun m' f own => ∃ i : Nat, i ≤ ad.length ∧ m' = ad.length - i ∧ f 9 = .int .i64 i ∧ f 0 = .int .i64 m ∧ f 1 = .slice a ls.length cap ∧ f 2 = .slice ap ad.length capp ∧ f 8 = .int .i64 (stCode m ls) ∧ own = [] ∧ ∀ j : Nat, j < i → 1 ≤ ad.getD j 0 ∧ ad.getD j 0 ≤ m - 1) ad.length
      ⟨0, by omega, by omega, rfl, rfl, rfl, rfl, rfl, rfl, fun j hj => by omega⟩ ?_
    rintro m' f own ⟨i, hi, rfl, h9, h0, h1, h2', h8, rfl, hall⟩
    rw [upd_of h9, upd_of h0, upd_of h1, upd_of h2', upd_of h8]
    repeat (first | refine vops_q tyOk rfl ?_ | refine vops_nil ?_ | refine vw_seq ?_ | refine vw_region (by kernel_rfl) ?_ | refine vw_cond rfl ?_)
    refine bs_dec (fun hlt => ?_) (fun hlt => ?_)
    · have hil : i < ad.length := by omega
      obtain ⟨bz, oz, cz, hzz, hcellz⟩ := hu.at (i := i) hil
      cases hzz
      have hcz := hcellz i hil
      repeat (first | refine vops_q tyOk rfl ?_ | refine vops_nil ?_ | refine vw_seq ?_ | refine vw_region (by kernel_rfl) ?_ | refine vops_p tyOk rfl (by (try simp only [inR]); omega) ?_ | refine vw_cond rfl ?_ | refine vw_skip ?_ | refine vw_block ?_ | refine vops_load tyOk rfl rfl rfl (sees_old hcz (by simp)) ?_ | (apply vops_callp ent25 rfl; (intro w _; exact c_l01In _ _ _ w)))
      refine bs_ndec2 (fun h6 => ?_) (fun h6 => ?_)
      · repeat (first | refine vops_q tyOk rfl ?_ | refine vops_nil ?_ | refine vw_seq ?_ | refine vw_region (by kernel_rfl) ?_ | refine vw_ret ?_)
        have hc : adCode m ls ad = 2 := adCode_nums fun hh => h6 (by have := hh.2 i hil; omega)
        exact out_bcQ rfl rfl rfl (by rw [adderR, if_neg (by rw [hc]; decide), hc])
      repeat (first | refine vops_q tyOk rfl ?_ | refine vops_nil ?_ | refine vw_region (by kernel_rfl) ?_ | refine vops_p tyOk rfl (by (try simp only [inR]); omega) ?_ | refine vw_skip ?_)
      exact ⟨ad.length - (i + 1), by omega, i + 1, by omega, rfl, rfl, rfl, rfl, rfl, rfl, rfl, fun j hj => by
        by_cases hji : j = i
        · subst hji; exact h6
        · exact hall j (by omega)⟩
    · have hn : NumsOk m ls.length ad := ⟨hlen', fun j hj => by have := hall j (by omega); omega⟩
      have hs := adCode_same h2 hn
      repeat (first | refine vops_q tyOk rfl ?_ | refine vops_nil ?_ | refine vw_seq ?_ | refine vw_region (by kernel_rfl) ?_ | refine vw_cond rfl ?_ | refine vw_exit ?_)
      refine bs_ndec2 (fun hc => ?_) (fun hc => ?_)
      · repeat (first | refine vops_q tyOk rfl ?_ | refine vops_nil ?_ | refine vw_seq ?_ | refine vw_region (by kernel_rfl) ?_ | refine vw_ret ?_)
        exact out_bcQ rfl rfl rfl (by rw [adderR, if_neg (by rw [hs]; exact hc), hs])
      repeat (first | refine vops_q tyOk rfl ?_ | refine vops_nil ?_ | refine vw_seq ?_ | refine vw_region (by kernel_rfl) ?_ | refine vw_skip ?_ | refine vw_ret ?_ | (apply vops_callp ent26 rfl; (intro w' hg; exact c_l03Adder m _ _ ls ad w' (hv.same hg.fr) (hu.same hg.fr) hl hm3 hm13 hmp.2 hn)))
      exact out_bcQ rfl rfl rfl (by rw [adderR, if_pos (by rw [hs]; exact hc)])
  · have hc2 : adCode m ls ad = 2 := adCode_bad h2
    repeat (first | refine vops_q tyOk rfl ?_ | refine vops_nil ?_ | refine vw_seq ?_ | refine vw_region (by kernel_rfl) ?_ | refine vw_cond rfl ?_ | refine vw_skip ?_)
    refine bs_ndec2 (fun _ => ?_) (fun h0 => absurd h0 (by rw [h2]; decide))
    repeat (first | refine vops_q tyOk rfl ?_ | refine vops_nil ?_ | refine vw_seq ?_ | refine vw_region (by kernel_rfl) ?_ | refine vw_ret ?_)
    exact out_bcQ rfl rfl rfl (by rw [adderR, if_neg (by rw [hc2]; decide), hc2, h2])
theorem capI {e : Nat} {l : List Int} {p : Option Addr} {n cap : Nat} {new : Own} (h : NewI e l (.slice p n cap) new) : ∀ a m c, Value.slice p n cap = .slice a m c → m ≤ c := by
  intro a m c e
  cases e
  rcases h.2 with ⟨h1, h2, _⟩ | ⟨b, cap', h1, h2, _⟩
  · cases h1; omega
  · cases h1; exact h2
end Go.Proofs.YtdgaabkgfbihpaaDoor

