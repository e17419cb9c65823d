import Derived.Test.YtdgaabkgfbihpaaUI
import Derived.Test.YtdgaabkgfbihpaaUB
import Derived.Test.YtdgaabkgfbihpaaVLArr
import Derived.Test.YtdgaabkgfbihpaaUD
import Derived.Test.YtdgaabkgfbihpaaUA
import Derived.Test.YtdgaabkgfbihpaaVLGrow
/- Parts of the proof, one after another. No conditions of their own. -/
/- A part of the proof: W20. No conditions of its own. -/
namespace Go.Proofs.Ytdgaabkgfbihpaa
open Go.VL
attribute [local irreducible] VWr VOps VD Calls

theorem gap_nat {m a b : Nat} (ha : a < m) (hb : b < m) : gapN m a b = min ((a + m - b) % m) (m - (a + m - b) % m) := by
  unfold gapN
  rw [if_neg]
  rw [nbeq_iff, nbeq_iff]
  simp; omega
theorem gap_zero {m a b : Nat} (h : a = m ∨ b = m) : gapN m a b = 0 := by
  unfold gapN
  rw [if_pos]
  rw [nbeq_iff, nbeq_iff]
  simp; omega
set_option maxRecDepth 100000 in
theorem c_gapBetween (n x y : Nat) (hn : IsBaseN n) (hx : x < n) (hy : y < n) (_hxy : x ≠ y) (w : World) : Calls Try.prog 350 [Value.int .i64 n, .int .i64 x, .int .i64 y].toArray w (Res w (Is (.int .i64 (gapN (mOf n) x y : Nat)))) := by
  obtain ⟨h4, h9, hm0, hmn, hn4⟩ := isBaseN_le hn
  have hmx : x ≤ mOf n := by unfold mOf; omega
  have hmy : y ≤ mOf n := by unfold mOf; omega
  have hmi : (n : Int) - 1 + (n : Int) % 2 = (mOf n : Nat) := by unfold mOf; omega
  have hrob : ∀ w', Calls Try.prog 182 [Value.int .i64 n].toArray w' (Res w' (Is (.int .i64 (mOf n : Nat)))) := fun w' => by rw [← hmi]; exact c_robinW n (by omega) (by omega) w'
  generalize mOf n = m at *
  refine calls_of_vw Try.func350 rfl Try.ntmps350 (by simp) ?_
  repeat (first | refine vops_q tyOk rfl ?_ | refine vops_nil ?_ | refine vw_seq ?_ | refine vw_region (by kernel_rfl) ?_ | refine vw_cond rfl ?_ | (apply vops_callp ent182 rfl; (intro w' hg; exact hrob w')) | refine vops_max rfl rfl ?_)
  refine bs_dec (fun h => ?_) (fun h => ?_)
  · have hz : x = m ∨ y = m := by
      by_cases hc : (y : Int) > (x : Int)
      · rw [if_pos hc] at h; omega
      · rw [if_neg hc] at h; omega
    repeat (first | refine vops_q tyOk rfl ?_ | refine vops_nil ?_ | refine vw_seq ?_ | refine vw_region (by kernel_rfl) ?_ | refine vw_ret ?_)
    exact rv_int rfl rfl (by rw [gap_zero hz]; rfl)
  · have hz : x < m ∧ y < m := by
      by_cases hc : (y : Int) > (x : Int)
      · rw [if_pos hc] at h; omega
      · rw [if_neg hc] at h; omega
    have hq : ((x : Int) - (y : Int) + (m : Int)) % (m : Int) = (((x + m - y) % m : Nat) : Int) := by
      rw [show (x : Int) - (y : Int) + (m : Int) = ((x + m - y : Nat) : Int) by omega]; exact (Int.natCast_emod _ _).symm
    have hlt : (x + m - y) % m < m := Nat.mod_lt _ (by omega)
    repeat (first | refine vops_q tyOk rfl ?_ | refine vops_nil ?_ | refine vw_seq ?_ | refine vw_region (by kernel_rfl) ?_ | refine vops_p tyOk rfl (by (try simp only [inR]); omega) ?_ | refine vw_skip ?_)
    rw [hq]
    repeat (first | refine vops_q tyOk rfl ?_ | refine vops_nil ?_ | refine vw_ret ?_ | refine vops_min rfl rfl ?_)
    refine rv_int rfl rfl ?_
    rw [gap_nat hz.1 hz.2]
    generalize (x + m - y) % m = g at *
    by_cases hc : (m : Int) - (g : Int) < (g : Int)
    · rw [if_pos hc]; omega
    · rw [if_neg hc]; omega
set_option maxRecDepth 100000 in
theorem c_max (v : Value) (l : List Int) (w : World) (hv : RdI w v l) (h0 : 0 < l.length) (hl : l.length ≤ 1048576) :
    Calls Try.prog 298 [v].toArray w (Res w (fun u new => new = [] ∧ ∃ M : Int, u = .int .i64 M ∧ M ∈ l ∧ ∀ x ∈ l, x ≤ M)) := by
  obtain ⟨b, o, cap, rfl, hcell⟩ := hv.at (i := 0) h0
  have hc0 := hcell 0 h0
  refine calls_of_vw Try.func298 rfl Try.ntmps298 (by simp) ?_
  repeat (first | refine vops_q tyOk rfl ?_ | refine vops_nil ?_ | refine vw_seq ?_ | refine vw_region (by kernel_rfl) ?_ | refine vw_cond rfl ?_)
  refine bs_dec (fun h => ?_) (fun h => ?_)
  · exfalso; omega
  repeat (first | refine vops_q tyOk rfl ?_ | refine vops_nil ?_ | refine vw_seq ?_ | refine vw_region (by kernel_rfl) ?_ | refine vops_p tyOk rfl (by (try simp only [inR]); omega) ?_ | refine vw_skip ?_ | refine vw_block ?_ | refine vops_load tyOk rfl rfl rfl (sees_old hc0 (by simp)) ?_)
  have hfirst : ∀ j : Nat, j < 1 → l.getD j 0 ≤ l.getD 0 0 := fun j hj => by
    obtain rfl : j = 0 := by omega
    exact Int.le_refl _
  refine vw_loop (fun y f own => ∃ (i : Nat) (M : Int), i ≤ l.length ∧ y = l.length - i ∧ f 4 = .int .i64 i ∧ f 3 = .int .i64 M ∧ f 0 = .slice (some ⟨b, o, none⟩) l.length cap ∧ own = [] ∧ M ∈ l ∧ ∀ j : Nat, j < i → l.getD j 0 ≤ M) (l.length - 1)
    ⟨1, _, by omega, by omega, rfl, rfl, rfl, rfl, mem_getD h0, hfirst⟩ ?_
  rintro y f own ⟨i, M, hi, rfl, h4, h3, h0', rfl, hM, hall⟩
  rw [upd_of h4, upd_of h3, upd_of h0']
  repeat (first | refine vops_q tyOk rfl ?_ | refine vops_nil ?_ | refine vw_seq ?_ | refine vw_region (by kernel_rfl) ?_ | refine vw_cond rfl ?_)
  refine bs_dec (fun hlt => ?_) (fun hlt => ?_)
  · have hil : i < l.length := by omega
    have hc := hcell i hil
    repeat (first | refine vops_q tyOk rfl ?_ | refine vops_nil ?_ | refine vw_seq ?_ | refine vw_region (by kernel_rfl) ?_ | refine vops_p tyOk rfl (by (try simp only [inR]); omega) ?_ | refine vw_skip ?_ | refine vw_block ?_ | refine vops_load tyOk rfl rfl rfl (sees_old hc (by simp)) ?_ | refine vops_max rfl rfl ?_)
    by_cases hgt : l.getD i 0 > M
    · refine ⟨l.length - (i + 1), by omega, i + 1, l.getD i 0, by omega, rfl, rfl, by show Value.int .i64 (if l.getD i 0 > M then l.getD i 0 else M) = _; rw [if_pos hgt], rfl, rfl, mem_getD hil, fun j hj => ?_⟩
      by_cases hji : j = i
      · subst hji; exact Int.le_refl _
      · have := hall j (by omega); omega
    · refine ⟨l.length - (i + 1), by omega, i + 1, M, by omega, rfl, rfl, by show Value.int .i64 (if l.getD i 0 > M then l.getD i 0 else M) = _; rw [if_neg hgt], rfl, rfl, hM, fun j hj => ?_⟩
      by_cases hji : j = i
      · subst hji; omega
      · exact hall j (by omega)
  · obtain rfl : i = l.length := by omega
    repeat (first | refine vops_q tyOk rfl ?_ | refine vops_nil ?_ | refine vw_seq ?_ | refine vw_region (by kernel_rfl) ?_ | refine vw_ret ?_ | refine vw_exit ?_)
    refine out1 rfl rfl (new := []) List.nodup_nil sub_nil ⟨rfl, M, rfl, hM, fun x hx => ?_⟩
    obtain ⟨j, hj⟩ := List.mem_iff_getElem?.1 hx
    have := hall j (List.getElem?_eq_some_iff.1 hj).1
    rwa [List.getD_eq_getElem?_getD, hj] at this
/-- How often each gap has come among the first q pairs. -/
def gapT (m : Nat) (P : List (List Int)) (q : Nat) : List Int := lst 16 fun g => (((P.take q).filter fun p => Nat.beq (gapN m (p.getD 0 0).toNat (p.getD 1 0).toNat) g).length : Int)
theorem gapT_step {m : Nat} {P : List (List Int)} {q a b : Nat} (hq : P[q]? = some [(a : Int), (b : Int)]) (hg : gapN m a b < 16) : (gapT m P q).set (gapN m a b) ((gapT m P q).getD (gapN m a b) 0 + 1) = gapT m P (q + 1) := by
  unfold gapT
  rw [lst_getD hg, lst_set]
  refine lst_congr fun g _ => ?_
  rw [List.take_add_one, hq, Option.toList_some, List.filter_append, List.length_append]
  show (if g = gapN m a b then _ else _) = (((List.filter _ _).length + ([[(a : Int), (b : Int)]].filter _).length : Nat) : Int)
  by_cases h : g = gapN m a b
  · subst h
    rw [if_pos rfl, List.filter_cons, if_pos (by simp only [List.getD_cons_zero, List.getD_cons_succ, Int.toNat_natCast]; exact Nat.beq_refl _)]
    simp
  · rw [if_neg h, List.filter_cons, if_neg (by simp only [List.getD_cons_zero, List.getD_cons_succ, Int.toNat_natCast, nbeq_iff]; simpa using Ne.symm h)]
    simp
theorem gapT_length (m : Nat) (P : List (List Int)) (q : Nat) : (gapT m P q).length = 16 := lst_length _ _
theorem gapT_all (m : Nat) (ds : List Nat) (l : List Int) {g : Nat} (hg : g < 16) : (gapT m (relP ds l) (relP ds l).length).getD g 0 = (gapC m ds l g : Int) := by
  unfold gapT gapC
  rw [lst_getD hg, List.take_length]
theorem gapC_far {n : Nat} (hn : IsBaseN n) {ds : List Nat} {l : List Int} (hl : l.length % 4 = 0) (hd : DiffL n l) {g : Nat} (hg : 16 ≤ g) : gapC (mOf n) ds l g = 0 := by
  by_cases h : gapC (mOf n) ds l g = 0
  · exact h
  obtain ⟨x, y, hx, hy, hxy, rfl⟩ := gapC_seen hl hd (m := mOf n) (ds := ds) (g := g) (by omega)
  have h1 := (gap_facts hn hx hy hxy).2.1
  have h2 := (isBaseN_le hn).2.1
  unfold lowG manyG at h1
  omega
theorem gap_lt {n : Nat} (hn : IsBaseN n) {x y : Nat} (hx : x < n) (hy : y < n) (hxy : x ≠ y) : gapN (mOf n) x y < 16 := by
  have h1 := (gap_facts hn hx hy hxy).2.1
  have h2 := (isBaseN_le hn).2.1
  unfold lowG manyG at h1
  omega

set_option maxHeartbeats 2000000 in
set_option maxRecDepth 100000 in
theorem c_mostOfGap (n : Nat) (v r : Value) (l : List Int) (ds : List Nat) (hn : IsBaseN n) (h4 : l.length % 4 = 0) (hD : DiffL n l) (hd : ∀ d ∈ ds, d = 1 ∨ d = 2 ∨ d = 3) (hds : 0 < ds.length ∧ ds.length ≤ 3) (w : World) (hv : RdC w v l) (hR : RdFn w r ds []) :
    Calls Try.prog 314 [.int .i64 n, v, r].toArray w (Res w (fun u new => new = [] ∧ ∃ M : Int, u = .int .i64 M ∧ ∀ c : Int, 0 ≤ c → (M ≤ c ↔ ∀ g, (gapC (mOf n) ds l g : Int) ≤ c))) := by
  obtain ⟨a, cap, rfl, hcap⟩ := hv.len
  obtain ⟨bf, of, capf, hre, hbf, hfn⟩ := id hR
  subst hre
  obtain ⟨m, hm⟩ : ∃ m, l.length = 4 * m := ⟨l.length / 4, by omega⟩
  have hn9 := (isBaseN_le hn).2.1
  have hll := hD.len
  have hPl := relP_length ds m l hm
  have hPb : m * (2 * ds.length) ≤ 3 * 6 := Nat.mul_le_mul (by omega) (by omega)
  refine calls_of_vw Try.func314 rfl Try.ntmps314 (by simp) ?_
  rw [hm]
  rw [hm] at hv
  refine vw_seq (vw_region (by kernel_rfl) (vops_box [.int .i64 n] rfl (fun b3 hb3 => ?_)))
  repeat (first | refine vops_q tyOk rfl ?_ | refine vops_nil ?_ | refine vw_seq ?_ | refine vw_region (by kernel_rfl) ?_ | refine vw_block ?_ | refine vops_allocZ (ints (List.replicate 16 0)) tyOk rfl rfl (by simp [ints]) (fun b7 hb7 => ?_) | (apply vops_call ent264 rfl; (intro w' hg; exact c_relatedAt _ _ _ _ _ _ w'); (rintro _ newN ⟨b8, b9, rfl, rfl, hne⟩)))
  obtain ⟨P, hP⟩ : ∃ P, P = relP ds l := ⟨_, rfl⟩
  rw [← hP] at hPl
  have hPm : ∀ p ∈ P, ∃ a b : Nat, (a : Int) < n ∧ (b : Int) < n ∧ a ≠ b ∧ p = [(a : Int), (b : Int)] := fun p hp => relP_mem hm hD (hP ▸ hp)
  have hit := it_rel a m cap (.slice (some ⟨bf, of, none⟩) ds.length capf) l ds hm (by omega) (by omega) hd (by omega) b8 b9 []
  rw [← hP, List.append_nil] at hit
  have hg0 : gapT (mOf n) P 0 = List.replicate 16 0 := by
    unfold gapT
    rw [lst_rep]
    exact lst_congr fun g _ => by simp
  refine vw_rangeFuncG (ts := [13, 14]) (own0 := [(b7, ⟨ints (gapT (mOf n) P 0), 328, 16, none⟩), (b3, ⟨[.int .i64 n], 2, 1, none⟩)]) (cap := RelB (.slice a (4 * m) cap) (.slice (some ⟨bf, of, none⟩) ds.length capf) b8 b9) rfl ent313 hit
    (fun w' own' hg => ⟨rdO_old (t := l) hv.1 (Good.left hg), rdFn_old hR (Good.left hg) hds.1⟩)
    (by rw [hg0]; exact List.perm_append_comm (l₁ := RelB (.slice a (4 * m) cap) (.slice (some ⟨bf, of, none⟩) ds.length capf) b8 b9)) (by simp) (fun x hx => by
      obtain ⟨p, hp, rfl⟩ := List.mem_map.1 hx
      obtain ⟨_, _, _, _, _, rfl⟩ := hPm p hp
      rfl)
    (fun q own => own = [(b7, ⟨ints (gapT (mOf n) P q), 328, 16, none⟩), (b3, ⟨[.int .i64 n], 2, 1, none⟩)])
    (fun _ _ => False) rfl ?_ ?_ (fun c o h => h.elim)
  · rintro l2 q x ownc w1 hx rfl hg1
    rw [List.getElem?_map] at hx
    obtain ⟨p, hp, rfl⟩ := Option.map_eq_some_iff.1 hx
    have hqP := (List.getElem?_eq_some_iff.1 hp).1
    obtain ⟨x, y, hxi, hyi, hxy, rfl⟩ := hPm p (List.mem_of_getElem? hp)
    have hgl := gap_lt hn (x := x) (y := y) (by omega) (by omega) hxy
    have hstep := gapT_step (m := mOf n) hp hgl
    have hgtl := gapT_length (mOf n) P q
    obtain ⟨gv, hgv⟩ : ∃ gv, gv = (gapT (mOf n) P q).getD (gapN (mOf n) x y) 0 := ⟨_, rfl⟩
    have hgb : 0 ≤ gv ∧ gv ≤ 18 := by
      rw [hgv]
      unfold gapT
      rw [lst_getD hgl]
      have := List.length_filter_le (fun p => Nat.beq (gapN (mOf n) (p.getD 0 0).toNat (p.getD 1 0).toNat) (gapN (mOf n) x y)) (P.take q)
      rw [List.length_take] at this
      omega
    have hcell : (ints (gapT (mOf n) P q))[0 + ((gapN (mOf n) x y : Nat) : Int).toNat]? = some (.int .i64 gv) := by
      rw [hgv, Int.toNat_natCast, Nat.zero_add]; exact ints_get (by omega)
    rw [← hgv] at hstep
    simp only [ints, List.map_cons, List.map_nil, updL]
    repeat (first | refine vops_q tyOk rfl ?_ | refine vops_nil ?_ | refine vw_seq ?_ | refine vw_region (by kernel_rfl) ?_)
    intro w2 hg2
    have hgbw : ∀ w', Calls Try.prog 350 [Value.int .i64 n, .int .i64 x, .int .i64 y].toArray w' (Res w' (Is (.int .i64 (gapN (mOf n) x y : Nat)))) := fun w' => c_gapBetween n x y hn (by omega) (by omega) hxy w'
    clear hgv
    generalize gapN (mOf n) x y = G at *
    generalize gapT (mOf n) P (q + 1) = L2 at *
    generalize gapT (mOf n) P q = L at *
    repeat (first | refine vops_q tyOk rfl ?_ | refine vops_nil ?_ | refine vw_region (by kernel_rfl) ?_ | refine vops_p tyOk rfl (by (try simp only [inR]); omega) ?_ | refine vw_block ?_ | (apply vops_callp ent350 rfl; (intro w' hg; exact hgbw w')) | refine vops_loadM tyOk rfl rfl rfl (by repeat (first | exact mem_here | apply mem_next | apply mem_past)) (by exact hcell) ?_ | refine vops_storeIM tyOk rfl rfl rfl rfl (by repeat (first | exact upd_here | apply upd_next | apply upd_past)) (by omega) ?_ | ((show VOps _ _ _ _ (⟨some _, Go.Op.load _ _, _, _, _, none⟩ :: _) _ _); refine vops_loadM tyOk rfl rfl rfl (by repeat (first | exact mem_here | apply mem_next | apply mem_past)) (by rfl) ?_))
    refine ⟨_, ole_refl, ?_⟩
    rw [← hstep]; rfl
  · rintro own' rfl
    rw [List.length_map]
    have hgl := gapT_length (mOf n) P P.length
    have hall := fun {g : Nat} (hg : g < 16) => gapT_all (mOf n) ds l hg
    rw [← hP] at hall
    generalize gapT (mOf n) P P.length = L at *
    repeat (first | refine vops_q tyOk rfl ?_ | refine vops_nil ?_ | refine vw_seq ?_ | refine vw_region (by kernel_rfl) ?_ | refine vw_ret ?_ | refine vops_sliceArr tyOk rfl rfl rfl ?_ | (apply vops_call ent298 rfl; (intro w' hg; exact c_max _ L w' (rdI_lit (l := L) (by repeat (first | exact mem_here | apply mem_next | apply mem_past)) hg hgl.symm) (by omega) (by omega)); (rintro _ newN ⟨rfl, M, rfl, hM, hMx⟩)))
    refine out1 rfl rfl (new := []) List.nodup_nil sub_nil ⟨rfl, M, rfl, fun c hc0 => ⟨fun hMc g => ?_, fun h => ?_⟩⟩
    · by_cases hg : g < 16
      · rw [← hall hg]
        have := hMx _ (mem_getD (l := L) (i := g) (by omega))
        omega
      · rw [gapC_far hn h4 hD (by omega)]; omega
    · obtain ⟨j, hj⟩ := List.mem_iff_getElem?.1 hM
      have hjl := (List.getElem?_eq_some_iff.1 hj).1
      have h2 := hall (g := j) (by omega)
      rw [List.getD_eq_getElem?_getD, hj] at h2
      have := h j
      simp only [Option.getD_some] at h2
      omega
open Classical in
set_option maxRecDepth 100000 in
theorem c_canB (n : Nat) (v : Value) (l : List Int) (hn : IsBaseN n) (h4 : l.length % 4 = 0) (hD : DiffL n l) (w : World) (hv : RdC w v l) :
    Calls Try.prog 267 [.int .i64 n, v].toArray w (Res w (Is (.bool (decide (CanB n l))))) := by
  obtain ⟨a, cap, rfl, hcap⟩ := hv.len
  refine calls_of_vw Try.func267 rfl Try.ntmps267 (by simp) ?_
  repeat' (first | refine vops_q tyOk rfl ?_ | refine vops_nil ?_ | refine vw_seq ?_ | refine vw_region (by kernel_rfl) ?_ | refine vops_guardT rfl rfl ?_ | with_reducible refine bs_true ?_ | with_reducible refine bs_false ?_ | refine vw_ret ?_ | (with_reducible refine bs_dec (fun _ => ?_) (fun _ => ?_)) <;> try (exfalso; omega) | refine vops_litV (v := relV 1) tyOk rfl rfl (List.cons_ne_nil _ _) rfl rfl rfl (fun bl hbl => ?_) | refine vops_buildS [relV 2, relV 3] [relV 2, relV 3] tyOk rfl rfl (List.cons_ne_nil _ _) rfl rfl (by omega) (by decide) (by decide) two_rel rfl (fun bk hbk => ?_) | (apply vops_call ent314 rfl; (intro w' hg; exact c_mostOfGap n _ _ l [1] hn h4 hD (by simp) (by simp) w' (hv.same hg.fr) (rdFn_lit (ds := [1]) (by repeat (first | exact mem_here | apply mem_next | apply mem_past)) hg rfl)); (rintro _ newN ⟨rfl, M1, rfl, hM1⟩)) | (apply vops_call ent314 rfl; (intro w' hg; exact c_mostOfGap n _ _ l [2, 3] hn h4 hD (by simp) (by simp) w' (hv.same hg.fr) (rdFn_lit (ds := [2, 3]) (by repeat (first | exact mem_here | apply mem_next | apply mem_past)) hg rfl)); (rintro _ newN ⟨rfl, M2, rfl, hM2⟩)))
  all_goals first | exact rv_bool rfl rfl (decide_eq_decide.2 ⟨fun h => ⟨fun g => by have := (hM1 1 (by omega)).1 (by assumption) g; omega, fun g => by have := (hM2 2 (by omega)).1 h g; omega⟩, fun h => (hM2 2 (by omega)).2 fun g => by have := h.2 g; omega⟩) | exact rv_bool rfl rfl (decide_eq_false fun h => absurd ((hM1 1 (by omega)).2 fun g => by have := h.1 g; omega) (by assumption)).symm
end Go.Proofs.Ytdgaabkgfbihpaa

/- A part of the proof: W21. No conditions of its own. -/
namespace Go.Proofs.Ytdgaabkgfbihpaa
open Go.VL
attribute [local irreducible] VWr VOps VD Calls

/-- The first of what is tried. -/
def iL (g : Nat → Option (List Int)) : Nat → Option (List Int)
  | 0 => none
  | k + 1 => match iL g k with
    | some r => some r
    | none => g k
open Classical in
/-- The first base round that begins so, found with a check at each whole table. -/
noncomputable def iS (n : Nat) : Nat → List Int → Option (List Int)
  | 0, l => if CanB n l then some l else none
  | f + 1, l => if l.length % 4 = 0 ∧ ¬CanB n l then none else iL (fun x => if (x : Int) ∈ l then none else iS n f (l ++ [(x : Int)])) n
open Classical in
theorem iS_succ (n f : Nat) (l : List Int) : iS n (f + 1) l = if l.length % 4 = 0 ∧ ¬CanB n l then none else iL (fun x => if (x : Int) ∈ l then none else iS n f (l ++ [(x : Int)])) n := by simp only [iS]
def ResB (e : Nat) (new0 : Own) (o : Option (List Int)) (v : Value) (newO : Own) : Prop :=
  match o with
  | some r => ∃ p cap, v = .tuple #[.slice p r.length cap, .bool true] ∧ NewI e r (.slice p r.length cap) newO
  | none => v = .tuple #[.slice none 0 0, .bool false] ∧ newO = new0
theorem ResB.cut {e : Nat} {w : World} {own0 new' new0 : Own} {o : Option (List Int)} (hb : ∀ w, OwnOk new' w → OwnOk new0 w) (hi : ∀ b ∈ ids new0, b ∈ ids new') {en : Ending} {w' : World} (h : ResM w own0 (ResB e new' o) en w') : ResM w own0 (ResB e new0 o) en w' := by
  obtain ⟨v, newO, h1, h2, h3, h4, h5⟩ := h
  cases o with
  | some r => exact ⟨v, newO, h1, h2, h3, h4, h5⟩
  | none =>
    obtain ⟨h6, rfl⟩ := h5
    exact ⟨v, new0, h1, h2, hb _ h3, fun b hb => h4 b (hi b hb), h6, rfl⟩
theorem diff_end {n : Nat} {l : List Int} {x : Nat} (hD : DiffL n l) (hx : x < n) (hn : (x : Int) ∉ l) : DiffL n (l ++ [(x : Int)]) :=
  ⟨fun y hy => by
    rcases List.mem_append.1 hy with h | h
    · exact hD.1 y h
    · obtain rfl := List.mem_singleton.1 h; omega,
   List.nodup_append.2 ⟨hD.2, by simp, fun a ha b hb e => by
    obtain rfl := List.mem_singleton.1 hb
    exact hn (e ▸ ha)⟩⟩
theorem iL_none {g : Nat → Option (List Int)} {x : Nat} (h : iL g x = none) (h2 : g x = none) : iL g (x + 1) = none := by rw [iL, h]; exact h2
theorem iL_some {g : Nat → Option (List Int)} {x : Nat} {r : List Int} (h : iL g x = none) (h2 : g x = some r) : ∀ k, x < k → iL g k = some r
  | 0, hk => by omega
  | k + 1, hk => by
    rw [iL]
    by_cases e : k = x
    · subst e; rw [h]; exact h2
    · rw [iL_some h h2 k (by omega)]

open Classical in
set_option maxHeartbeats 2000000 in
set_option maxRecDepth 100000 in
theorem c_firstBaseWith (n : Nat) (hn : IsBaseN n) : ∀ (fu : Nat) (l : List Int) (v : Value) (new : Own) (w : World), l.length + fu = n - n % 4 → DiffL n l → NewI 2 l v new → OwnOk new w →
    Calls Try.prog 180 [.int .i64 n, v].toArray w (ResM w new (ResB 2 new (iS n fu l))) := by
  have hn9 := (isBaseN_le hn).2.1
  have hn4 := (isBaseN_le hn).1
  have hb4 : (n - n % 4) % 4 = 0 := by omega
  intro fu
  induction fu with
  | zero =>
    intro l v new w hlen hD hN ho
    obtain ⟨p, cap, rfl⟩ := hN.form
    have h4 : l.length % 4 = 0 := by omega
    refine calls_of_vwM Try.func180 rfl Try.ntmps180 (by simp) ho ?_
    repeat (first | refine vops_q tyOk rfl ?_ | refine vops_nil ?_ | refine vw_seq ?_ | refine vw_region (by kernel_rfl) ?_ | refine vops_guardT rfl rfl ?_ | refine vops_p tyOk rfl (by (try simp only [inR]); omega) ?_)
    refine bs_dec (fun _ => ?_) (fun h => absurd (by omega) h)
    repeat (first | refine vops_q tyOk rfl ?_ | refine vops_nil ?_ | refine vops_guardT rfl rfl ?_ | with_reducible refine bs_true ?_ | refine vw_cond rfl ?_ | (apply vops_callp ent267 rfl; (intro w' hg; exact c_canB n _ l hn h4 hD w' (hN.rdC sub_refl hg))))
    refine bs_ndec2 (fun hc => ?_) (fun hc => ?_)
    · repeat (first | refine vops_q tyOk rfl ?_ | refine vops_nil ?_ | refine vw_seq ?_ | refine vw_region (by kernel_rfl) ?_ | refine vw_ret ?_)
      exact out2 rfl rfl rfl (new := new) (SlAt.nodup hN) sub_refl (by unfold iS; rw [if_neg hc]; exact ⟨rfl, rfl⟩)
    repeat (first | refine vops_q tyOk rfl ?_ | refine vops_nil ?_ | refine vw_seq ?_ | refine vw_region (by kernel_rfl) ?_ | refine vw_cond rfl ?_ | refine vw_skip ?_ | (apply vops_callp ent173 rfl; (intro w' hg; exact c_playersOfBase n (by omega) (by omega) w')))
    refine bs_dec (fun _ => ?_) (fun h => absurd (by omega) h)
    repeat (first | refine vops_q tyOk rfl ?_ | refine vops_nil ?_ | refine vw_seq ?_ | refine vw_region (by kernel_rfl) ?_ | refine vw_ret ?_)
    exact out2 rfl rfl rfl (new := new) (SlAt.nodup hN) sub_refl (by unfold iS; rw [if_pos hc]; exact ⟨p, cap, rfl, hN⟩)
  | succ fu ih =>
    intro l v new w hlen hD hN ho
    obtain ⟨p, cap, rfl⟩ := hN.form
    refine calls_of_vwM Try.func180 rfl Try.ntmps180 (by simp) ho ?_
    obtain ⟨G, hGd⟩ : ∃ G : Nat → Option (List Int), (fun x : Nat => if (x : Int) ∈ l then none else iS n fu (l ++ [(x : Int)])) = G := ⟨_, rfl⟩
    by_cases h4 : l.length % 4 = 0
    · repeat (first | refine vops_q tyOk rfl ?_ | refine vops_nil ?_ | refine vw_seq ?_ | refine vw_region (by kernel_rfl) ?_ | refine vops_guardT rfl rfl ?_ | refine vops_p tyOk rfl (by (try simp only [inR]); omega) ?_)
      refine bs_dec (fun _ => ?_) (fun h => absurd (by omega) h)
      repeat (first | refine vops_q tyOk rfl ?_ | refine vops_nil ?_ | refine vops_guardT rfl rfl ?_ | with_reducible refine bs_true ?_ | refine vw_cond rfl ?_ | (apply vops_callp ent267 rfl; (intro w' hg; exact c_canB n _ l hn h4 hD w' (hN.rdC sub_refl hg))))
      refine bs_ndec2 (fun hc => ?_) (fun hc => ?_)
      · repeat (first | refine vops_q tyOk rfl ?_ | refine vops_nil ?_ | refine vw_seq ?_ | refine vw_region (by kernel_rfl) ?_ | refine vw_ret ?_)
        exact out2 rfl rfl rfl (new := new) (SlAt.nodup hN) sub_refl (by unfold iS; rw [if_pos ⟨h4, hc⟩]; exact ⟨rfl, rfl⟩)
      repeat (first | refine vops_q tyOk rfl ?_ | refine vops_nil ?_ | refine vw_seq ?_ | refine vw_region (by kernel_rfl) ?_ | refine vw_cond rfl ?_ | refine vw_skip ?_ | (apply vops_callp ent173 rfl; (intro w' hg; exact c_playersOfBase n (by omega) (by omega) w')))
      refine bs_dec (fun h => absurd h (by omega)) (fun _ => ?_)
      have hmain : iS n (fu + 1) l = iL G n := by rw [← hGd, iS_succ, if_neg fun h => h.2 hc]
      repeat (first | refine vops_q tyOk rfl ?_ | refine vops_nil ?_ | refine vw_seq ?_ | refine vw_region (by kernel_rfl) ?_ | refine vw_skip ?_ | refine vw_block ?_)
      refine vw_loopW (fun y g own => ∃ x : Nat, x ≤ n ∧ y = n - x ∧ g 26 = .int .i64 x ∧ g 25 = .int .i64 n ∧ g 1 = .slice p l.length cap ∧ g 0 = .int .i64 n ∧ iL G x = none ∧ own = new) n
        ⟨new, ole_refl, 0, by omega, by omega, rfl, rfl, rfl, rfl, rfl, rfl⟩ ?_
      rintro y g own ⟨x, hx, rfl, h26, h25, h1, h0, hnone, rfl⟩
      rw [upd_of h26, upd_of h25, upd_of h1, upd_of h0]
      repeat (first | refine vops_q tyOk rfl ?_ | refine vops_nil ?_ | refine vw_seq ?_ | refine vw_region (by kernel_rfl) ?_ | refine vw_cond rfl ?_)
      refine bs_dec (fun hlt => ?_) (fun hlt => ?_)
      · have hxn : x < n := by omega
        repeat (first | refine vops_q tyOk rfl ?_ | refine vops_nil ?_ | refine vw_seq ?_ | refine vw_region (by kernel_rfl) ?_ | refine vw_cond rfl ?_ | refine vw_skip ?_ | refine vw_block ?_ | (apply vops_callp ent249 rfl; (intro w' hg; exact c_has _ l _ w' (hN.rd hg.ok) (by omega))))
        refine bs_dec (fun hin => ?_) (fun hin => ?_)
        · have hG : G x = none := by rw [← hGd]; exact if_pos hin
          repeat (first | refine vops_q tyOk rfl ?_ | refine vops_nil ?_ | refine vw_region (by kernel_rfl) ?_ | refine vops_p tyOk rfl (by (try simp only [inR]); omega) ?_ | refine vw_exit ?_)
          exact ⟨n - (x + 1), by omega, own, ole_refl, x + 1, by omega, rfl, rfl, rfl, rfl, rfl, iL_none hnone hG, rfl⟩
        have hG : G x = iS n fu (l ++ [(x : Int)]) := by rw [← hGd]; exact if_neg hin
        repeat (first | refine vops_q tyOk rfl ?_ | refine vw_seq ?_ | refine vw_region (by kernel_rfl) ?_ | refine vw_skip ?_ | refine vops_litI [_] tyOk rfl rfl (List.cons_ne_nil _ _) (by rfl) rfl (by omega) (by omega) (fun bt hbt => ?_))
        refine vops_appendU tyOk rfl rfl (List.cons_ne_nil _ _) rfl rfl (by decide) rfl hN (by repeat (first | exact pm_here | exact pm_last | apply pm_next | apply pm_past)) rfl (by repeat (first | exact mem_here | apply mem_next | apply mem_past)) (by omega) (fun p' cap' new' new0 keep hN' hnk hb hi => ?_)
        refine vops_callM ent180 rfl (own0 := new') (by repeat (first | exact pm_here | exact pm_last | apply pm_next | apply pm_past)) (fun w' hg => (ih (l ++ [(x : Int)]) _ new' w' (by rw [List.length_append, List.length_singleton]; omega) (diff_end hD hxn hin) hN' (okS hg)).mono fun _ _ h => ResB.cut hb hi h) ?_
        intro vr newO hR
        rw [← hG] at hR
        cases hGx : G x with
        | some r =>
          rw [hGx] at hR
          obtain ⟨pr, cr, rfl, hNr⟩ := hR
          repeat (first | refine vops_q tyOk rfl ?_ | refine vops_nil ?_ | refine vw_seq ?_ | refine vw_region (by kernel_rfl) ?_ | with_reducible refine bs_true ?_ | refine vw_cond rfl ?_ | refine vw_ret ?_)
          exact out2 rfl rfl rfl (new := newO) (SlAt.nodup hNr) (by repeat (first | exact sub_hereL | exact sub_refl | apply sub_cons | apply sub_app)) (by rw [hmain, iL_some hnone hGx n hxn]; exact ⟨pr, cr, rfl, hNr⟩)
        | none =>
          rw [hGx] at hR
          obtain ⟨rfl, rfl⟩ := hR
          repeat (first | refine vops_q tyOk rfl ?_ | refine vops_nil ?_ | refine vw_seq ?_ | refine vw_region (by kernel_rfl) ?_ | with_reducible refine bs_false ?_ | refine vops_p tyOk rfl (by (try simp only [inR]); omega) ?_ | refine vw_cond rfl ?_ | refine vw_skip ?_)
          subst hnk
          exact ⟨n - (x + 1), by omega, _, ⟨_, List.Perm.of_eq (by rw [List.append_assoc])⟩, x + 1, by omega, rfl, rfl, rfl, rfl, rfl, iL_none hnone hGx, rfl⟩
      · obtain rfl : x = n := by omega
        repeat (first | refine vops_q tyOk rfl ?_ | refine vops_nil ?_ | refine vw_seq ?_ | refine vw_region (by kernel_rfl) ?_ | refine vw_ret ?_ | refine vw_exit ?_)
        exact out2 rfl rfl rfl (new := own) (SlAt.nodup hN) sub_refl (by rw [hmain, hnone]; exact ⟨rfl, rfl⟩)
    · have hmain : iS n (fu + 1) l = iL G n := by rw [← hGd, iS_succ, if_neg fun h => h4 h.1]
      repeat (first | refine vops_q tyOk rfl ?_ | refine vops_nil ?_ | refine vw_seq ?_ | refine vw_region (by kernel_rfl) ?_ | refine vops_guardT rfl rfl ?_ | refine vops_p tyOk rfl (by (try simp only [inR]); omega) ?_)
      refine bs_dec (fun h => absurd h (by omega)) (fun _ => ?_)
      repeat (first | refine vops_q tyOk rfl ?_ | refine vops_nil ?_ | refine vw_seq ?_ | refine vw_region (by kernel_rfl) ?_ | refine vops_guardT rfl rfl ?_ | with_reducible refine bs_false ?_ | refine vw_cond rfl ?_ | refine vw_skip ?_ | (apply vops_callp ent173 rfl; (intro w' hg; exact c_playersOfBase n (by omega) (by omega) w')))
      refine bs_dec (fun h => absurd h (by omega)) (fun _ => ?_)
      repeat (first | refine vops_q tyOk rfl ?_ | refine vops_nil ?_ | refine vw_seq ?_ | refine vw_region (by kernel_rfl) ?_ | refine vw_skip ?_ | refine vw_block ?_)
      refine vw_loopW (fun y g own => ∃ x : Nat, x ≤ n ∧ y = n - x ∧ g 26 = .int .i64 x ∧ g 25 = .int .i64 n ∧ g 1 = .slice p l.length cap ∧ g 0 = .int .i64 n ∧ iL G x = none ∧ own = new) n
        ⟨new, ole_refl, 0, by omega, by omega, rfl, rfl, rfl, rfl, rfl, rfl⟩ ?_
      rintro y g own ⟨x, hx, rfl, h26, h25, h1, h0, hnone, rfl⟩
      rw [upd_of h26, upd_of h25, upd_of h1, upd_of h0]
      repeat (first | refine vops_q tyOk rfl ?_ | refine vops_nil ?_ | refine vw_seq ?_ | refine vw_region (by kernel_rfl) ?_ | refine vw_cond rfl ?_)
      refine bs_dec (fun hlt => ?_) (fun hlt => ?_)
      · have hxn : x < n := by omega
        repeat (first | refine vops_q tyOk rfl ?_ | refine vops_nil ?_ | refine vw_seq ?_ | refine vw_region (by kernel_rfl) ?_ | refine vw_cond rfl ?_ | refine vw_skip ?_ | refine vw_block ?_ | (apply vops_callp ent249 rfl; (intro w' hg; exact c_has _ l _ w' (hN.rd hg.ok) (by omega))))
        refine bs_dec (fun hin => ?_) (fun hin => ?_)
        · have hG : G x = none := by rw [← hGd]; exact if_pos hin
          repeat (first | refine vops_q tyOk rfl ?_ | refine vops_nil ?_ | refine vw_region (by kernel_rfl) ?_ | refine vops_p tyOk rfl (by (try simp only [inR]); omega) ?_ | refine vw_exit ?_)
          exact ⟨n - (x + 1), by omega, own, ole_refl, x + 1, by omega, rfl, rfl, rfl, rfl, rfl, iL_none hnone hG, rfl⟩
        have hG : G x = iS n fu (l ++ [(x : Int)]) := by rw [← hGd]; exact if_neg hin
        repeat (first | refine vops_q tyOk rfl ?_ | refine vw_seq ?_ | refine vw_region (by kernel_rfl) ?_ | refine vw_skip ?_ | refine vops_litI [_] tyOk rfl rfl (List.cons_ne_nil _ _) (by rfl) rfl (by omega) (by omega) (fun bt hbt => ?_))
        refine vops_appendU tyOk rfl rfl (List.cons_ne_nil _ _) rfl rfl (by decide) rfl hN (by repeat (first | exact pm_here | exact pm_last | apply pm_next | apply pm_past)) rfl (by repeat (first | exact mem_here | apply mem_next | apply mem_past)) (by omega) (fun p' cap' new' new0 keep hN' hnk hb hi => ?_)
        refine vops_callM ent180 rfl (own0 := new') (by repeat (first | exact pm_here | exact pm_last | apply pm_next | apply pm_past)) (fun w' hg => (ih (l ++ [(x : Int)]) _ new' w' (by rw [List.length_append, List.length_singleton]; omega) (diff_end hD hxn hin) hN' (okS hg)).mono fun _ _ h => ResB.cut hb hi h) ?_
        intro vr newO hR
        rw [← hG] at hR
        cases hGx : G x with
        | some r =>
          rw [hGx] at hR
          obtain ⟨pr, cr, rfl, hNr⟩ := hR
          repeat (first | refine vops_q tyOk rfl ?_ | refine vops_nil ?_ | refine vw_seq ?_ | refine vw_region (by kernel_rfl) ?_ | with_reducible refine bs_true ?_ | refine vw_cond rfl ?_ | refine vw_ret ?_)
          exact out2 rfl rfl rfl (new := newO) (SlAt.nodup hNr) (by repeat (first | exact sub_hereL | exact sub_refl | apply sub_cons | apply sub_app)) (by rw [hmain, iL_some hnone hGx n hxn]; exact ⟨pr, cr, rfl, hNr⟩)
        | none =>
          rw [hGx] at hR
          obtain ⟨rfl, rfl⟩ := hR
          repeat (first | refine vops_q tyOk rfl ?_ | refine vops_nil ?_ | refine vw_seq ?_ | refine vw_region (by kernel_rfl) ?_ | with_reducible refine bs_false ?_ | refine vops_p tyOk rfl (by (try simp only [inR]); omega) ?_ | refine vw_cond rfl ?_ | refine vw_skip ?_)
          subst hnk
          exact ⟨n - (x + 1), by omega, _, ⟨_, List.Perm.of_eq (by rw [List.append_assoc])⟩, x + 1, by omega, rfl, rfl, rfl, rfl, rfl, iL_none hnone hGx, rfl⟩
      · obtain rfl : x = n := by omega
        repeat (first | refine vops_q tyOk rfl ?_ | refine vops_nil ?_ | refine vw_seq ?_ | refine vw_region (by kernel_rfl) ?_ | refine vw_ret ?_ | refine vw_exit ?_)
        exact out2 rfl rfl rfl (new := own) (SlAt.nodup hN) sub_refl (by rw [hmain, hnone]; exact ⟨rfl, rfl⟩)
end Go.Proofs.Ytdgaabkgfbihpaa

