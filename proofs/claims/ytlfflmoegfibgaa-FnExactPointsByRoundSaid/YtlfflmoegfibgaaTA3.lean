import Derived.Test.YtlfflmoegfibgaaTA2
import Derived.Test.YtlfflmoegfibgaaCD
import Derived.Test.YtlfflmoegfibgaaVLRanG
import Derived.Test.YtlfflmoegfibgaaVLTable
import Derived.Test.YtlfflmoegfibgaaVLPlay
import Derived.Test.YtlfflmoegfibgaaVLA
/- A part of the proof: TA3. No conditions of its own. -/
namespace Go.Proofs.Ytlfflmoegfibgaa
open Go.VL
attribute [local irreducible] VWr VOps VD Calls

/-- The points of the lesser team. -/
def plI (x : Int) : Int := if x = 1 then 2 else if x = 2 then 0 else 1
theorem plI_le (x : Int) : 0 ≤ plI x ∧ plI x ≤ 2 := by unfold plI; split <;> (try split) <;> omega
/-- What a meeting gives to both teams. -/
def outOne (i : Nat) (a b p : Int) : List (List Int) := [[(i : Int), a, b, p], [(i : Int), b, a, 2 - p]]
/-- What the first q pairs of a round give. -/
def outRow (i : Nat) (P : List (List Int)) (l : List Int) : Nat → List (List Int)
  | 0 => []
  | q + 1 => outRow i P l q ++ outOne i ((P.getD q []).getD 0 0) ((P.getD q []).getD 1 0) (plI (l.getD q 0))
def outTo (k : Nat) (rs xs : List (List Int)) : Nat → List (List Int)
  | 0 => []
  | i + 1 => outTo k rs xs i ++ outRow i (pairsTo (rs.getD i []) k) (xs.getD i []) (pairsTo (rs.getD i []) k).length
theorem outRow_length (i : Nat) (P : List (List Int)) (l : List Int) : ∀ q, (outRow i P l q).length = 2 * q
  | 0 => rfl
  | q + 1 => by simp only [outRow, List.length_append, outRow_length i P l q, outOne, List.length_cons, List.length_nil]; omega
theorem outTo_le (k : Nat) (rs xs : List (List Int)) : ∀ i, (outTo k rs xs i).length ≤ 2 * (k * i)
  | 0 => by simp [outTo]
  | i + 1 => by
    have h1 := outTo_le k rs xs i
    have h2 := pairsTo_le (rs.getD i []) k
    simp only [outTo, List.length_append, outRow_length, Nat.mul_add, Nat.mul_one] at *; omega
/-- An outcome of one of the first m rounds. -/
def OutOk (k m : Nat) (o : List Int) : Prop := ∃ (j a b : Nat) (p : Int), j < m ∧ a < k ∧ b < k ∧ 0 ≤ p ∧ p ≤ 2 ∧ o = [(j : Int), (a : Int), (b : Int), p]
theorem outRow_mem {k i m : Nat} {P : List (List Int)} {l : List Int} (hi : i < m) (hP : ∀ p ∈ P, ∃ a b : Nat, a < k ∧ b < k ∧ p = [(a : Int), (b : Int)]) : ∀ q, q ≤ P.length → ∀ o ∈ outRow i P l q, OutOk k m o
  | 0, _, o, h => by cases h
  | q + 1, hq, o, h => by
    rcases List.mem_append.1 h with h | h
    · exact outRow_mem hi hP q (by omega) o h
    · obtain ⟨p, hp⟩ : ∃ p, P[q]? = some p := ⟨_, List.getElem?_eq_getElem (by omega)⟩
      obtain ⟨a, b, ha, hb, rfl⟩ := hP p (List.mem_of_getElem? hp)
      have e : P.getD q [] = [(a : Int), (b : Int)] := by rw [List.getD_eq_getElem?_getD, hp]; rfl
      have hpl := plI_le (l.getD q 0)
      rw [e] at h
      rcases List.mem_cons.1 h with h | h
      · exact ⟨i, a, b, _, hi, ha, hb, hpl.1, hpl.2, h⟩
      · exact ⟨i, b, a, _, hi, hb, ha, by omega, by omega, List.mem_singleton.1 h⟩
theorem pair_two {k : Nat} {r : List Int} (h : IsRd k r) : ∀ p ∈ pairsTo r k, ∃ a b : Nat, a < k ∧ b < k ∧ p = [(a : Int), (b : Int)] := fun p hp => by
  obtain ⟨a, ha, _, rfl⟩ := mem_pairs hp
  have := rd_at h ha
  exact ⟨a, (r.getD a 0).toNat, ha, by omega, by rw [Int.toNat_of_nonneg this.1]⟩
theorem OutOk.mono {k m m' : Nat} {o : List Int} (h : OutOk k m o) (hm : m ≤ m') : OutOk k m' o := by
  obtain ⟨j, a, b, p, h1, h2⟩ := h
  exact ⟨j, a, b, p, by omega, h2⟩
theorem outTo_mem {k : Nat} {rs xs : List (List Int)} (hS : IsSch k rs) : ∀ i, i ≤ rs.length → ∀ o ∈ outTo k rs xs i, OutOk k i o
  | 0, _, o, h => by cases h
  | i + 1, hi, o, h => by
    rcases List.mem_append.1 h with h | h
    · exact (outTo_mem hS i (by omega) o h).mono (by omega)
    · exact outRow_mem (by omega) (pair_two (sch_get hS (by omega)).2) _ (Nat.le_refl _) o h

theorem c_pointsOfLesser (x : Int) (w : World) : Calls Try.prog 146 [.int .i64 x].toArray w (Res w (Is (.int .i64 (plI x)))) := by
  refine calls_of_vw Try.func146 rfl Try.ntmps146 (by simp) ?_
  repeat (first | refine vops_q tyOk rfl ?_ | refine vops_nil ?_ | refine vw_seq ?_ | refine vw_region (by kernel_rfl) ?_ | refine vw_cond rfl ?_ | refine vw_block ?_)
  refine bs_dec (fun h1 => ?_) (fun h1 => ?_)
  · repeat (first | refine vops_q tyOk rfl ?_ | refine vops_nil ?_ | refine vw_seq ?_ | refine vw_region (by kernel_rfl) ?_ | refine vw_ret ?_)
    exact rv_int rfl rfl (by unfold plI; rw [if_pos h1])
  repeat (first | refine vops_q tyOk rfl ?_ | refine vops_nil ?_ | refine vw_seq ?_ | refine vw_region (by kernel_rfl) ?_ | refine vw_cond rfl ?_)
  refine bs_dec (fun h2 => ?_) (fun h2 => ?_)
  · repeat (first | refine vops_q tyOk rfl ?_ | refine vops_nil ?_ | refine vw_seq ?_ | refine vw_region (by kernel_rfl) ?_ | refine vw_ret ?_)
    exact rv_int rfl rfl (by unfold plI; rw [if_neg h1, if_pos h2])
  repeat (first | refine vops_q tyOk rfl ?_ | refine vops_nil ?_ | refine vw_seq ?_ | refine vw_region (by kernel_rfl) ?_ | refine vw_skip ?_ | refine vw_ret ?_)
  exact rv_int rfl rfl (by unfold plI; rw [if_neg h1, if_neg h2])

set_option maxHeartbeats 4000000 in
set_option maxRecDepth 100000 in
theorem c_outcomesOf (k : Nat) (v u : Value) (rs xs : List (List Int)) (hS : IsSch k rs) (hI : IsRs k rs xs) (w : World) (hv : RdS w v rs) (hu : RdCC w u xs) (hr : ∀ r ∈ rs, r.length = 14) (hl2 : xs.length ≤ 1048576) :
    Calls Try.prog 82 [.agg #[.int .i64 k, v], u].toArray w (Res w (NewR 92 4 (outTo k rs xs xs.length))) := by
  obtain ⟨a, cap, rfl⟩ := hv.len
  obtain ⟨a2, cap2, rfl⟩ := hu.len
  have hk2 := hS.1
  have hk14 := hS.2.1
  have hl40 := hS.2.2.1
  have hxl := hI.1
  refine calls_of_vw Try.func82 rfl Try.ntmps82 (by simp) ?_
  refine vw_seq (vw_region (by kernel_rfl) (vops_box [.int .i64 k, .slice a rs.length cap] rfl (fun b2 hb2 => ?_)))
  repeat (first | refine vops_q tyOk rfl ?_ | refine vops_nil ?_ | refine vw_seq ?_ | refine vw_region (by kernel_rfl) ?_ | refine vw_block ?_ | refine vops_allocZ [.slice none 0 0] tyOk rfl rfl (by simp) (fun b5 hb5 => ?_))
  refine vw_loopW (fun m f own => ∃ (i : Nat) (p : Option Addr) (c : Nat) (newO : Own), i ≤ xs.length ∧ m = xs.length - i ∧ f 13 = .int .i64 i ∧ f 12 = .int .i64 xs.length ∧ f 11 = .slice a2 xs.length cap2 ∧ f 2 = .pointer (some ⟨b2, 0, none⟩) ∧ f 5 = .pointer (some ⟨b5, 0, none⟩) ∧
      NewR 92 4 (outTo k rs xs i) (.slice p (outTo k rs xs i).length c) newO ∧
      own = newO ++ [(b5, ⟨[.slice p (outTo k rs xs i).length c], 83, 1, none⟩), (b2, ⟨[.int .i64 k, .slice a rs.length cap], 32, 2, none⟩)]) xs.length
    ⟨_, ole_refl, 0, none, 0, [], by omega, by omega, rfl, rfl, rfl, rfl, rfl, SlAt.nil, rfl⟩ ?_
  rintro m f own ⟨i, p, c, newO, hi, rfl, h13, h12, h11, h2, h5, hN, rfl⟩
  rw [upd_of h13, upd_of h12, upd_of h11, upd_of h2, upd_of h5]
  repeat (first | refine vops_q tyOk rfl ?_ | refine vops_nil ?_ | refine vw_seq ?_ | refine vw_region (by kernel_rfl) ?_ | refine vw_cond rfl ?_)
  refine bs_dec (fun hlt => ?_) (fun hlt => ?_)
  · have hix : i < xs.length := by omega
    obtain ⟨hri, hrd⟩ := sch_get hS (i := i) (by omega)
    obtain ⟨l, hli⟩ : ∃ l, xs[i]? = some l := ⟨_, List.getElem?_eq_getElem (by omega)⟩
    have hlg : xs.getD i [] = l := by rw [List.getD_eq_getElem?_getD, hli]; rfl
    have hrow0 := hI.2 i _ l hri hli
    have hTo : outTo k rs xs (i + 1) = outTo k rs xs i ++ outRow i (pairsTo (rs.getD i []) k) l (pairsTo (rs.getD i []) k).length := by simp only [outTo, hlg]
    have hrl := hr _ (List.mem_of_getElem? hri)
    have hT1 := outTo_le k rs xs i
    have hT2 : k * i ≤ 14 * 40 := Nat.mul_le_mul (by omega) (by omega)
    generalize rs.getD i [] = r at *
    obtain ⟨b2', o2, cap3, he, hrow⟩ := hv.row hr hri
    cases he
    obtain ⟨b', o, cap', x, he, hcu, hx⟩ := RdL.at hu hli
    cases he
    obtain ⟨ax, capx, rfl, hcx⟩ := hx.len
    have hP := pairsTo_le r k
    have hll : l.length = (pairsTo r k).length := by have := hrow0.1; rwa [Int.toNat_natCast] at this
    have hT0 : outRow i (pairsTo r k) l 0 = [] := rfl
    have hL0 : outTo k rs xs i ++ outRow i (pairsTo r k) l 0 = outTo k rs xs i := by rw [hT0, List.append_nil]
    obtain ⟨bx, ox, hax⟩ : ∃ bx ox, 0 < l.length → ax = some ⟨bx, ox, none⟩ ∧ ∀ j, j < l.length → w.cell? ⟨bx, ox + j, none⟩ = some (.int .i64 (l.getD j 0)) := by
      by_cases h0 : 0 < l.length
      · obtain ⟨b3, o3, cap4, he, hc⟩ := hx.1.at (i := 0) h0
        cases he
        exact ⟨b3, o3, fun _ => ⟨rfl, hc⟩⟩
      · exact ⟨0, 0, fun h => absurd h h0⟩
    repeat (first | refine vops_q tyOk rfl ?_ | refine vops_nil ?_ | refine vw_seq ?_ | refine vw_region (by kernel_rfl) ?_ | refine vops_p tyOk rfl (by (try simp only [inR]); omega) ?_ | refine vw_skip ?_ | refine vw_block ?_ | refine vops_load tyOk rfl rfl rfl (sees_old hcu (by simp)) ?_ | refine vops_allocZ [.int .i64 0] tyOk rfl rfl (by simp) (fun b6 hb6 => ?_) | refine vops_allocZ [.slice none 0 0] tyOk rfl rfl (by simp) (fun b7 hb7 => ?_) | ((show VOps _ _ _ _ (⟨none, Go.Op.store _ _ _, _, _, _, none⟩ :: _) _ _); refine vops_storeM tyOk rfl rfl rfl rfl rfl (by repeat (first | exact upd_here | apply upd_next | apply upd_past)) (by simp) ?_))
    refine vw_draw [0, 1, 2, 3, 4, 5, 6, 7] (by kernel_rfl) (by kernel_rfl) (by kernel_rfl) rfl ?_
    repeat' (first | refine vd_q tyOk rfl (by first | trivial | rfl) rfl (by kernel_rfl) (by kernel_rfl) ?_ | refine vd_p tyOk rfl (by first | trivial | rfl) rfl (by kernel_rfl) (by kernel_rfl) (by (try simp only [inR]); omega) ?_ | refine vops_nil ?_ | refine vd_nil (by kernel_rfl) ?_ | refine ⟨fun _ _ _ h => List.mem_append_right _ h, ?_⟩ | refine vd_load tyOk rfl (by first | trivial | rfl) rfl rfl rfl (by kernel_rfl) (by kernel_rfl) (by kernel_rfl) (sees_mem (by repeat (first | exact mem_here | apply mem_next | apply mem_past)) (by rfl)) (by repeat (first | exact sub_hereL | exact sub_refl | apply sub_cons | apply sub_app)) ?_ | refine vd_loadN tyOk (ints r) rfl (by first | trivial | rfl) rfl rfl rfl (by rw [ints_length, hrl]) (by kernel_rfl) (by kernel_rfl) (by kernel_rfl) (fun j x hx => sees_old (hrow j x hx) (by simp)) (by repeat (first | exact sub_hereL | exact sub_refl | apply sub_cons | apply sub_app)) ?_ | (apply vops_call ent145 rfl; (intro w' hg; exact c_pairsIn k r w'); (rintro _ newN ⟨c2, c4, rfl, rfl, hne⟩)) | refine vd_one rfl (by kernel_rfl) (by kernel_rfl) rfl ?_)
    repeat (first | refine vw_block ?_)
    refine vw_rangeFunc (ts := [26, 27]) (own0 := (b7, ⟨[.slice ax l.length capx], 38, 1, none⟩) :: (b6, ⟨[.int .i64 i], 3, 1, none⟩) :: (newO ++ [(b5, ⟨[.slice p (outTo k rs xs i).length c], 83, 1, none⟩), (b2, ⟨[.int .i64 k, .slice (some ⟨b2', o2, none⟩) rs.length cap], 32, 2, none⟩)])) (cap := PairsCap k r c2 c4) rfl ent175 (it_pairs k r (by omega) (by omega) hrl c2 c4) (by exact List.perm_append_comm) (by simp) (fun x hx => by
        obtain ⟨q, hq, rfl⟩ := List.mem_map.1 hx
        rw [ints_length, pairsTo_pair hq]; rfl)
      (fun q own => ∃ (p : Option Addr) (c : Nat) (newO : Own) (ad : Option Addr), NewR 92 4 (outTo k rs xs i ++ outRow i (pairsTo r k) l q) (.slice p (outTo k rs xs i ++ outRow i (pairsTo r k) l q).length c) newO ∧ (q < l.length → ad = some ⟨bx, ox + q, none⟩) ∧
        own = (b7, ⟨[.slice ad (l.length - q) (capx - q)], 38, 1, none⟩) :: (b6, ⟨[.int .i64 i], 3, 1, none⟩) :: (newO ++ [(b5, ⟨[.slice p (outTo k rs xs i ++ outRow i (pairsTo r k) l q).length c], 83, 1, none⟩), (b2, ⟨[.int .i64 k, .slice (some ⟨b2', o2, none⟩) rs.length cap], 32, 2, none⟩)]))
      (fun _ _ => False) ⟨p, c, newO, ax, by rw [hL0]; exact hN, fun h => by rw [(hax h).1]; rfl, by rw [hL0]; rfl⟩ ?_ ?_ (fun c o h => h.elim)
    · rintro l' q x ownc w1 hx0 ⟨p, c, newO, ad, hN, had, rfl⟩ hg1
      have hq : q < (pairsTo r k).length := by
        have := (List.getElem?_eq_some_iff.1 hx0).1
        simpa [pairVals] using this
      unfold pairVals at hx0
      rw [List.getElem?_map] at hx0
      obtain ⟨pr, hp, rfl⟩ := Option.map_eq_some_iff.1 hx0
      rw [Int.toNat_natCast] at hp
      obtain ⟨a', y, ha', hy', rfl⟩ := pair_two hrd pr (List.mem_of_getElem? hp)
      have hql : q < l.length := by omega
      obtain rfl := had hql
      have hnum := (hax (by omega)).2 q hql
      have hpe : (pairsTo r k).getD q [] = [(a' : Int), (y : Int)] := by rw [List.getD_eq_getElem?_getD, hp]; rfl
      have hst : outTo k rs xs i ++ outRow i (pairsTo r k) l (q + 1) = (outTo k rs xs i ++ outRow i (pairsTo r k) l q) ++ outOne i a' y (plI (l.getD q 0)) := by
        simp only [outRow, hpe, List.append_assoc]; rfl
      have hLl : (outTo k rs xs i ++ outRow i (pairsTo r k) l q).length ≤ 2 * (14 * 40) + 28 := by rw [List.length_append, outRow_length]; omega
      rw [hst]
      generalize outTo k rs xs i ++ outRow i (pairsTo r k) l q = L at *
      have hpl := plI_le (l.getD q 0)
      generalize hplD : plI (l.getD q 0) = pl at *
      simp only [ints, List.map_cons, List.map_nil, updL]
      repeat (first | refine vops_q tyOk rfl ?_ | refine vops_nil ?_ | refine vw_seq ?_ | refine vw_region (by kernel_rfl) ?_)
      intro w2 hg2
      obtain ⟨hn2, hnb⟩ := old_stays hg2 hnum (by simp)
      have hpt : ∀ w', Calls Try.prog 146 [.int .i64 (l.getD q 0)].toArray w' (Res w' (Is (.int .i64 pl))) := fun w' => hplD ▸ c_pointsOfLesser _ w'
      repeat (first | refine vops_q tyOk rfl ?_ | refine vops_nil ?_ | refine vw_seq ?_ | refine vw_region (by kernel_rfl) ?_ | refine vops_p tyOk rfl (by (try simp only [inR]); omega) ?_ | refine vw_block ?_ | refine vops_load tyOk rfl rfl rfl (sees_old hn2 hnb) ?_ | (apply vops_callp ent146 rfl; (intro w' hg; exact hpt w')) | refine vops_run (fun w => x_build (vs := [(0, .int .i64 (i : Int)), (1, .int .i64 (a' : Int)), (2, .int .i64 (y : Int)), (3, .int .i64 pl)]) (ints [(i : Int), (a' : Int), (y : Int), pl]).toArray rfl (by kernel_rfl) w) ?_ | refine vops_run (fun w => x_build (vs := [(0, .int .i64 (i : Int)), (1, .int .i64 (y : Int)), (2, .int .i64 (a' : Int)), (3, .int .i64 (2 - pl))]) (ints [(i : Int), (y : Int), (a' : Int), 2 - pl]).toArray rfl (by kernel_rfl) w) ?_ | refine vops_buildS [.agg (ints [(i : Int), (a' : Int), (y : Int), pl]).toArray, .agg (ints [(i : Int), (y : Int), (a' : Int), 2 - pl]).toArray] (ints [(i : Int), (a' : Int), (y : Int), pl, (i : Int), (y : Int), (a' : Int), 2 - pl]) tyOk rfl rfl (List.cons_ne_nil _ _) rfl rfl (by omega) (by show 0 < 4; omega) (by show 2 * 4 ≤ _; omega) (by simp [Value.cells, ints]) rfl (fun bt hbt => ?_) | refine vops_appendL (k := 4) (q := L.flatten) (q2 := [(i : Int), (a' : Int), (y : Int), pl, (i : Int), (y : Int), (a' : Int), 2 - pl]) tyOk rfl rfl (List.cons_ne_nil _ _) rfl rfl (by decide) rfl (NewR.f hN) (by repeat (first | exact pm_here | exact pm_last | apply pm_next | apply pm_past)) rfl (fun w' hg => .inr ⟨bt, 0, 2, rfl, rfl, fun j x hx => by rw [Nat.zero_add]; exact cell_of_blk hg.ok (by repeat (first | exact mem_here | apply mem_next | apply mem_past)) hx⟩) (by omega) (fun p' cap' new' hN' => ?_) | ((show VOps _ _ _ _ (⟨some _, Go.Op.load _ _, _, _, _, none⟩ :: _) _ _); refine vops_loadM tyOk rfl rfl rfl (by repeat (first | exact mem_here | apply mem_next | apply mem_past)) (by rfl) ?_) | ((show VOps _ _ _ _ (⟨none, Go.Op.store _ _ _, _, _, _, none⟩ :: _) _ _); refine vops_storeM tyOk rfl rfl rfl rfl rfl (by repeat (first | exact upd_here | apply upd_next | apply upd_past)) (by simp) ?_) | refine vops_slice tyOk rfl rfl rfl rfl rfl (by omega) ?_)
      have hlen2 : (L ++ outOne i a' y pl).length = L.length + 2 := by simp [outOne]
      have hN2 : NewR 92 4 (L ++ outOne i a' y pl) (.slice p' (L.length + 2) cap') new' := NewF.r (m := 0) hN' hlen2.symm (by simp [outOne])
      rw [hlen2]
      refine ⟨(b7, ⟨[.slice (if capx - q = 1 then some ⟨bx, ox + q, none⟩ else (some (⟨bx, ox + q, none⟩ : Addr)).map (·.add (1 * 1))) (l.length - (q + 1)) (capx - (q + 1))], 38, 1, none⟩) :: (b6, ⟨[.int .i64 i], 3, 1, none⟩) :: (new' ++ [(b5, ⟨[.slice p' (L.length + 2) cap'], 83, 1, none⟩), (b2, ⟨[.int .i64 k, .slice (some ⟨b2', o2, none⟩) rs.length cap], 32, 2, none⟩)]), ?_, p', cap', new', _, hN2, ?_, rfl⟩
      · exact (by repeat (first | exact ole_nil | exact ole_refl | (apply ole_cons; (repeat (first | exact pm1_here | apply pm1_next | apply pm1_past))) | (apply ole_app; (repeat (first | exact pm_here | exact pm_last | apply pm_next | apply pm_past)))))
      · intro hql2
        rw [if_neg (by omega), Option.map_some, Addr.add_lit]; rfl
    · rintro own' ⟨p, c, newO, ad, hN, had, rfl⟩
      have hlv : (pairVals k r).length = (pairsTo r k).length := by simp [pairVals]
      rw [hlv, ← hTo] at hN
      rw [hlv, ← hTo]
      repeat (first | refine vops_q tyOk rfl ?_ | refine vops_nil ?_ | refine vw_region (by kernel_rfl) ?_ | refine vops_p tyOk rfl (by (try simp only [inR]); omega) ?_)
      exact ⟨xs.length - (i + 1), by omega, newO ++ [(b5, ⟨[.slice p (outTo k rs xs (i + 1)).length c], 83, 1, none⟩), (b2, ⟨[.int .i64 k, .slice (some ⟨b2', o2, none⟩) rs.length cap], 32, 2, none⟩)], by simp only [List.cons_append, List.append_assoc, List.nil_append]; exact (by repeat (first | exact ole_nil | exact ole_refl | (apply ole_cons; (repeat (first | exact pm1_here | apply pm1_next | apply pm1_past))) | (apply ole_app; (repeat (first | exact pm_here | exact pm_last | apply pm_next | apply pm_past))))), i + 1, p, c, newO, by omega, rfl, rfl, rfl, rfl, rfl, rfl, hN, rfl⟩
  · obtain rfl : i = xs.length := by omega
    refine vw_nodup (fun hnd => ?_)
    repeat (first | refine vops_q tyOk rfl ?_ | refine vops_nil ?_ | refine vw_seq ?_ | refine vw_region (by kernel_rfl) ?_ | refine vw_ret ?_ | refine vw_exit ?_ | ((show VOps _ _ _ _ (⟨some _, Go.Op.load _ _, _, _, _, none⟩ :: _) _ _); refine vops_loadM tyOk rfl rfl rfl (by repeat (first | exact mem_here | apply mem_next | apply mem_past)) (by rfl) ?_))
    exact out1 rfl rfl (SlAt.nodup hN) (fun _ h => List.mem_append_left _ h) hN
end Go.Proofs.Ytlfflmoegfibgaa
