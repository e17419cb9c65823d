import Derived.Test.YtlfflmoegfibgaaTA4
import Derived.Test.YtlfflmoegfibgaaVLA
/- A part of the proof: TA5. No conditions of its own. -/
namespace Go.Proofs.Ytlfflmoegfibgaa
open Go.VL
attribute [local irreducible] VWr VOps VD Calls

/-- The points of a from its meetings with b. -/
def sumB (a b : Int) : List (List Int) → Int
  | [] => 0
  | o :: os => (if o.getD 1 0 = a ∧ o.getD 2 0 = b then o.getD 3 0 else 0) + sumB a b os
theorem sumB_append (a b : Int) : ∀ (x y : List (List Int)), sumB a b (x ++ y) = sumB a b x + sumB a b y
  | [], y => by simp [sumB]
  | o :: x, y => by simp only [List.cons_append, sumB, sumB_append a b x y]; omega
theorem sumB_le {k m : Nat} {a b : Int} : ∀ {L : List (List Int)}, (∀ o ∈ L, OutOk k m o) → 0 ≤ sumB a b L ∧ sumB a b L ≤ 2 * L.length
  | [], _ => by simp [sumB]
  | o :: L, h => by
    have h1 := sumB_le (a := a) (b := b) (L := L) fun q hq => h q (List.mem_cons_of_mem _ hq)
    obtain ⟨j, x, y, p, _, _, _, hp0, hp2, rfl⟩ := h o List.mem_cons_self
    simp only [sumB, List.length_cons]
    have : ([(j : Int), (x : Int), (y : Int), p]).getD 3 0 = p := rfl
    rw [this]
    split <;> omega
theorem sumB_one (a b : Int) (i : Nat) (x y p : Int) : sumB a b (outOne i x y p) = (if x = a ∧ y = b then p else 0) + if y = a ∧ x = b then 2 - p else 0 := by
  show (if x = a ∧ y = b then p else 0) + ((if y = a ∧ x = b then 2 - p else 0) + 0) = _
  rw [Int.add_zero]
/-- Two different teams are told. -/
def Two (n x y : Int) : Prop := (∀ t ∈ [x, y], 0 ≤ t ∧ t < n) ∧ x ≠ y
noncomputable def betR (n : Int) (rs xs : List (List Int)) (x y : Int) : Int × Int × Int := by
  classical exact if rsC n rs xs (Two n x y) = 0 then (sumB x y (outTo n.toNat rs xs xs.length), sumB y x (outTo n.toNat rs xs xs.length), 0) else (0, 0, rsC n rs xs (Two n x y))
theorem betR_err {n : Int} {rs xs : List (List Int)} {x y c : Int} (h : rsC n rs xs (Two n x y) = c) (hc : c ≠ 0) : betR n rs xs x y = (0, 0, c) := by
  unfold betR; rw [if_neg (by rw [h]; exact hc), h]
theorem betR_ok {n : Int} {rs xs : List (List Int)} {x y : Int} (h : rsC n rs xs (Two n x y) = 0) : betR n rs xs x y = (sumB x y (outTo n.toNat rs xs xs.length), sumB y x (outTo n.toNat rs xs xs.length), 0) := by
  unfold betR; rw [if_pos h]
open Classical in
set_option maxHeartbeats 4000000 in
set_option maxRecDepth 100000 in
theorem c_spec_PointsBetween (n x y : Int) (v u : Value) (rs xs : List (List Int)) (w : World) (hv : RdS w v rs) (hu : RdII w u xs) (hr : ∀ r ∈ rs, r.length = 14) (hl : rs.length ≤ 1048576) (hl2 : xs.length ≤ 1048576) (hll : ∀ l ∈ xs, l.length ≤ 1048576) :
    Calls Try.prog 35 [.agg #[.int .i64 n, v], u, .int .i64 x, .int .i64 y].toArray w (Res w (Is (.tuple #[.int .i64 (betR n rs xs x y).1, .int .i64 (betR n rs xs x y).2.1, .int .i64 (betR n rs xs x y).2.2]))) := by
  obtain ⟨a, cap, rfl⟩ := hv.len
  obtain ⟨a2, cap2, rfl⟩ := hu.len
  refine calls_of_vw Try.func35 rfl Try.ntmps35 (by simp) ?_
  refine vw_seq (vw_region (by kernel_rfl) (vops_box [.int .i64 n, .slice a rs.length cap] rfl (fun b4 hb4 => ?_)))
  obtain ⟨A, hA⟩ : ∃ A : Prop, A = ∀ t ∈ [x, y], 0 ≤ t ∧ t < n := ⟨_, rfl⟩
  have hC : ∀ (w' : World) (b1 : Nat), RdS w' (.slice a rs.length cap) rs → RdII w' (.slice a2 xs.length cap2) xs → RdI w' (.slice (some ⟨b1, 0, none⟩) 2 2) [x, y] → Calls Try.prog 78 [.agg #[.int .i64 n, .slice a rs.length cap], .slice a2 xs.length cap2, .slice (some ⟨b1, 0, none⟩) 2 2].toArray w' (Res w' (Is (.int .i64 (rsC n rs xs A)))) := fun w' b1 h1 h2 h3 => hA ▸ c_l10Code n _ _ _ rs xs [x, y] w' h1 h2 h3 hr hl hl2 hll (by simp)
  have hTwo : Two n x y ↔ A ∧ x ≠ y := by rw [hA]; exact Iff.rfl
  repeat (first | refine vops_q tyOk rfl ?_ | refine vops_nil ?_ | refine vw_seq ?_ | refine vw_region (by kernel_rfl) ?_ | refine vops_guardT rfl rfl ?_ | refine vops_litI [_, _] tyOk rfl rfl (List.cons_ne_nil _ _) (by rfl) rfl (by omega) (by omega) (fun b1 hb1 => ?_) | (apply vops_callp ent78 rfl; (intro w' hg; exact hC w' _ (hv.same hg.fr) (hu.same hg.fr) (rdI_lit (l := [x, y]) List.mem_cons_self hg rfl))) | ((show VOps _ _ _ _ (⟨some _, Go.Op.load _ _, _, _, _, none⟩ :: _) _ _); refine vops_loadNM tyOk rfl rfl rfl (by repeat (first | exact mem_here | apply mem_next | apply mem_past)) (by first | rfl | (rw [ints_length]; first | assumption | omega | (rw [ints_length]; first | assumption | omega | simp [*])) | simp [*]) ?_))
  by_cases h0 : rsC n rs xs A = 0
  rotate_left
  · have hE : rsC n rs xs (Two n x y) = rsC n rs xs A := by
      by_cases h1 : IsSch n rs
      · have e : rsC n rs xs A = 2 := rsC_two h1 fun hh => h0 (rsC_ok h1 hh.1 hh.2)
        rw [e]
        exact rsC_two h1 fun hh => h0 (rsC_ok h1 (hTwo.1 hh.1).1 hh.2)
      · rw [rsC_no h1, rsC_no h1]
    generalize rsC n rs xs A = c at *
    refine bs_dec (fun h => absurd h h0) (fun _ => ?_)
    repeat (first | refine vops_q tyOk rfl ?_ | refine vops_nil ?_ | refine vw_seq ?_ | refine vw_region (by kernel_rfl) ?_ | refine vops_guardT rfl rfl ?_ | with_reducible refine bs_false ?_ | refine vw_cond rfl ?_ | refine vw_skip ?_)
    refine bs_ndec2 (fun _ => ?_) (fun h => absurd h h0)
    repeat (first | refine vops_q tyOk rfl ?_ | refine vops_nil ?_ | refine vw_seq ?_ | refine vw_region (by kernel_rfl) ?_ | refine vw_ret ?_)
    exact out_i3 rfl rfl rfl rfl (betR_err hE h0)
  obtain ⟨hS, hAA, hI⟩ := rsC_zero h0
  rw [h0]
  refine bs_dec (fun _ => ?_) (fun h => absurd rfl h)
  repeat (first | refine vops_q tyOk rfl ?_ | refine vops_nil ?_ | refine vops_guardT rfl rfl ?_ | with_reducible refine bs_true ?_ | refine vw_cond rfl ?_)
  by_cases hxy : x = y
  · have hE : rsC n rs xs (Two n x y) = 2 := rsC_two hS fun hh => (hTwo.1 hh.1).2 hxy
    refine bs_dec (fun _ => ?_) (fun h => absurd hxy h)
    repeat (first | refine vops_q tyOk rfl ?_ | refine vops_nil ?_ | refine vw_seq ?_ | refine vw_region (by kernel_rfl) ?_ | refine vw_cond rfl ?_)
    refine bs_ndec2 (fun _ => ?_) (fun h => absurd h (by omega))
    repeat (first | refine vops_q tyOk rfl ?_ | refine vops_nil ?_ | refine vw_seq ?_ | refine vw_region (by kernel_rfl) ?_ | refine vw_ret ?_)
    exact out_i3 rfl rfl rfl rfl (betR_err hE (by omega))
  have hE : rsC n rs xs (Two n x y) = 0 := rsC_ok hS (hTwo.2 ⟨hAA, hxy⟩) hI
  refine bs_dec (fun h => absurd h hxy) (fun _ => ?_)
  repeat (first | refine vops_q tyOk rfl ?_ | refine vops_nil ?_ | refine vw_seq ?_ | refine vw_region (by kernel_rfl) ?_ | refine vw_cond rfl ?_ | refine vw_skip ?_)
  refine bs_ndec2 (fun h => absurd rfl h) (fun _ => ?_)
  have hn := hS.1
  have hn14 := hS.2.1
  have hl40 := hS.2.2.1
  have hxl := hI.1
  obtain ⟨k, rfl⟩ : ∃ k : Nat, n = (k : Int) := ⟨n.toNat, by omega⟩
  have hR := betR_ok hE
  rw [Int.toNat_natCast] at hR
  repeat (first | refine vops_q tyOk rfl ?_ | refine vops_nil ?_ | refine vw_seq ?_ | refine vw_region (by kernel_rfl) ?_ | refine vw_skip ?_ | refine vw_block ?_)
  refine vw_loopW (fun m f own => ∃ i : Nat, i ≤ xs.length ∧ m = xs.length - i ∧ f 14 = .int .i64 i ∧ f 12 = .int .i64 (sumB x y (outTo k rs xs i)) ∧ f 13 = .int .i64 (sumB y x (outTo k rs xs i)) ∧ f 1 = .slice a2 xs.length cap2 ∧ f 2 = .int .i64 x ∧ f 3 = .int .i64 y ∧ f 4 = .pointer (some ⟨b4, 0, none⟩) ∧
      own = [(b4, ⟨[.int .i64 k, .slice a rs.length cap], 32, 2, none⟩)]) xs.length
    ⟨[(b4, _)], (by repeat (first | exact ole_nil | exact ole_refl | (apply ole_cons; (repeat (first | exact pm1_here | apply pm1_next | apply pm1_past))) | (apply ole_app; (repeat (first | exact pm_here | exact pm_last | apply pm_next | apply pm_past))))), 0, by omega, by omega, rfl, rfl, rfl, rfl, rfl, rfl, rfl, rfl⟩ ?_
  rintro m f own ⟨i, hi, rfl, h14, h12, h13, h1, h2, h3, h4, rfl⟩
  rw [upd_of h14, upd_of h12, upd_of h13, upd_of h1, upd_of h2, upd_of h3, upd_of h4]
  repeat (first | refine vops_q tyOk rfl ?_ | refine vops_nil ?_ | refine vw_seq ?_ | refine vw_region (by kernel_rfl) ?_ | refine vw_cond rfl ?_)
  refine bs_dec (fun hlt => ?_) (fun hlt => ?_)
  · have hix : i < xs.length := by omega
    obtain ⟨hri, hrd⟩ := sch_get hS (i := i) (by omega)
    obtain ⟨l, hli⟩ : ∃ l, xs[i]? = some l := ⟨_, List.getElem?_eq_getElem (by omega)⟩
    have hlg : xs.getD i [] = l := by rw [List.getD_eq_getElem?_getD, hli]; rfl
    have hrow0 := hI.2 i _ l hri hli
    have hTo : outTo k rs xs (i + 1) = outTo k rs xs i ++ outRow i (pairsTo (rs.getD i []) k) l (pairsTo (rs.getD i []) k).length := by simp only [outTo, hlg]
    have hrl := hr _ (List.mem_of_getElem? hri)
    have hmem := fun (q : Nat) (hq : q ≤ (pairsTo (rs.getD i []) k).length) => outAll_mem (xs := xs) (l := l) hS (i := i) (by omega) hq
    have hT1 := outTo_le k rs xs i
    have hT2 : k * i ≤ 14 * 40 := Nat.mul_le_mul (by omega) (by omega)
    generalize rs.getD i [] = r at *
    obtain ⟨c2, o2, cap3, he, hrow⟩ := hv.row hr hri
    cases he
    obtain ⟨b', o, cap', z, he, hcu, hx⟩ := hu.at hli
    cases he
    obtain ⟨ax, capx, rfl⟩ := hx.len
    have hP := pairsTo_le r k
    have hll' : l.length = (pairsTo r k).length := by have := hrow0.1; rwa [Int.toNat_natCast] at this
    repeat (first | refine vw_seq ?_ | refine vw_skip ?_ | refine vw_block ?_)
    refine vw_draw [0, 1, 2, 3, 4, 5, 6, 7, 8] (by kernel_rfl) (by kernel_rfl) (by kernel_rfl) rfl ?_
    repeat' (first | refine vd_q tyOk rfl (by first | trivial | rfl) rfl (by kernel_rfl) (by kernel_rfl) ?_ | refine vd_p tyOk rfl (by first | trivial | rfl) rfl (by kernel_rfl) (by kernel_rfl) (by (try simp only [inR]); omega) ?_ | refine vops_nil ?_ | refine vd_nil (by kernel_rfl) ?_ | refine ⟨fun _ _ _ h => List.mem_append_right _ h, ?_⟩ | refine vd_load tyOk rfl (by first | trivial | rfl) rfl rfl rfl (by kernel_rfl) (by kernel_rfl) (by kernel_rfl) (sees_mem (by repeat (first | exact mem_here | apply mem_next | apply mem_past)) (by rfl)) (by repeat (first | exact sub_hereL | exact sub_refl | apply sub_cons | apply sub_app)) ?_ | refine vd_loadN tyOk (ints r) rfl (by first | trivial | rfl) rfl rfl rfl (by rw [ints_length, hrl]) (by kernel_rfl) (by kernel_rfl) (by kernel_rfl) (fun j x hx => sees_old (hrow j x hx) (by simp)) (by repeat (first | exact sub_hereL | exact sub_refl | apply sub_cons | apply sub_app)) ?_ | (apply vops_call ent89 rfl; (intro w' hg; exact c_l01Pairs k r (by omega) (by omega) hrl w'); (intro _ newN hN; obtain ⟨pq, cq, rfl⟩ := NewLL.form hN)) | refine vd_one rfl (by kernel_rfl) (by kernel_rfl) rfl ?_)
    repeat (first | refine vops_q tyOk rfl ?_ | refine vops_nil ?_ | refine vw_seq ?_ | refine vw_region (by kernel_rfl) ?_ | refine vw_block ?_)
    have hN' : NewLL 38 2 (pairsTo r k) (.slice pq (pairsTo r k).length cq) newN := hN
    refine vw_loopW (fun m f own => ∃ q : Nat, q ≤ (pairsTo r k).length ∧ m = (pairsTo r k).length - q ∧ f 16 = .int .i64 q ∧ f 15 = .slice pq (pairsTo r k).length cq ∧ f 14 = .int .i64 i ∧ f 12 = .int .i64 (sumB x y (outTo k rs xs i ++ outRow i (pairsTo r k) l q)) ∧ f 13 = .int .i64 (sumB y x (outTo k rs xs i ++ outRow i (pairsTo r k) l q)) ∧ f 1 = .slice (some ⟨b', o, none⟩) xs.length cap2 ∧ f 2 = .int .i64 x ∧ f 3 = .int .i64 y ∧ f 4 = .pointer (some ⟨b4, 0, none⟩) ∧
        own = newN ++ [(b4, ⟨[.int .i64 k, .slice (some ⟨c2, o2, none⟩) rs.length cap], 32, 2, none⟩)]) (pairsTo r k).length
      ⟨_, ole_refl, 0, by omega, by omega, rfl, rfl, rfl, by rw [show outRow i (pairsTo r k) l 0 = [] from rfl, List.append_nil]; rfl, by rw [show outRow i (pairsTo r k) l 0 = [] from rfl, List.append_nil]; rfl, rfl, rfl, rfl, rfl, rfl⟩ ?_
    rintro m f own ⟨q, hq, rfl, h16, h15, h14, h12, h13, h1, h2, h3, h4, rfl⟩
    rw [upd_of h16, upd_of h15, upd_of h14, upd_of h12, upd_of h13, upd_of h1, upd_of h2, upd_of h3, upd_of h4]
    repeat (first | refine vops_q tyOk rfl ?_ | refine vops_nil ?_ | refine vw_seq ?_ | refine vw_region (by kernel_rfl) ?_ | refine vw_cond rfl ?_)
    refine bs_dec (fun hlt2 => ?_) (fun hlt2 => ?_)
    · have hqk : q < (pairsTo r k).length := by omega
      obtain ⟨pr, hpr⟩ : ∃ pr, (pairsTo r k)[q]? = some pr := ⟨_, List.getElem?_eq_getElem hqk⟩
      obtain ⟨a', y', ha', hy', rfl⟩ := pair_two hrd pr (List.mem_of_getElem? hpr)
      obtain ⟨bp, cpp, br, cr, hve, hs1, hs2⟩ := newLL_row hN' hpr (by simp)
      cases hve
      have hs1' : ∀ {Γ : Ctx} {own : Own}, Sub newN own → Sees Γ own bp (0 + q) (.slice (some ⟨br, 0, none⟩) 2 cr) := hs1
      have hs20 : ∀ {Γ : Ctx} {own : Own}, Sub newN own → Sees Γ own br (0 + 0) (.int .i64 a') := fun hs => hs2 hs 0 (by simp)
      have hs21 : ∀ {Γ : Ctx} {own : Own}, Sub newN own → Sees Γ own br (0 + 1) (.int .i64 y') := fun hs => hs2 hs 1 (by simp)
      obtain ⟨b3, o3, cap4, he, hcell⟩ := hx.at (i := q) (by omega)
      cases he
      have hc := hcell q (by omega)
      have hpe : (pairsTo r k).getD q [] = [(a' : Int), (y' : Int)] := by rw [List.getD_eq_getElem?_getD, hpr]; rfl
      have hst : outTo k rs xs i ++ outRow i (pairsTo r k) l (q + 1) = (outTo k rs xs i ++ outRow i (pairsTo r k) l q) ++ outOne i a' y' (plI (l.getD q 0)) := by
        simp only [outRow, hpe, List.append_assoc]; rfl
      have hLl : (outTo k rs xs i ++ outRow i (pairsTo r k) l q).length ≤ 2 * (14 * 40) + 28 := by rw [List.length_append, outRow_length]; omega
      have hm1 := sumB_le (a := x) (b := y) (hmem q (by omega))
      have hm2 := sumB_le (a := y) (b := x) (hmem q (by omega))
      have hs3 : sumB x y (outTo k rs xs i ++ outRow i (pairsTo r k) l (q + 1)) = sumB x y (outTo k rs xs i ++ outRow i (pairsTo r k) l q) + ((if (a' : Int) = x ∧ (y' : Int) = y then plI (l.getD q 0) else 0) + if (y' : Int) = x ∧ (a' : Int) = y then 2 - plI (l.getD q 0) else 0) := by rw [hst, sumB_append, sumB_one]
      have hs4 : sumB y x (outTo k rs xs i ++ outRow i (pairsTo r k) l (q + 1)) = sumB y x (outTo k rs xs i ++ outRow i (pairsTo r k) l q) + ((if (a' : Int) = y ∧ (y' : Int) = x then plI (l.getD q 0) else 0) + if (y' : Int) = y ∧ (a' : Int) = x then 2 - plI (l.getD q 0) else 0) := by rw [hst, sumB_append, sumB_one]
      clear hst
      generalize outTo k rs xs i ++ outRow i (pairsTo r k) l q = L at *
      have hpl := plI_le (l.getD q 0)
      have hwon := c_l10Won (l.getD q 0)
      generalize plI (l.getD q 0) = pl at *
      have hql : q < l.length := by omega
      clear hmem hcell hrow hI hS hrow0 hll' hTo
      repeat (first | refine vops_q tyOk rfl ?_ | refine vops_nil ?_ | refine vw_seq ?_ | refine vw_region (by kernel_rfl) ?_ | refine vops_p tyOk rfl (by (try simp only [inR]); omega) ?_ | refine vw_skip ?_ | refine vw_block ?_ | refine vops_load tyOk rfl rfl rfl (sees_old hcu (by simp)) ?_ | refine vops_load tyOk rfl rfl rfl (sees_old hc (by simp)) ?_ | (apply vops_callp ent90 rfl; (intro w' hg; exact hwon w')))
      clear hwon
      repeat' (first | refine vops_q tyOk rfl ?_ | refine vops_nil ?_ | refine vw_seq ?_ | refine vw_region (by kernel_rfl) ?_ | refine vops_guardT rfl rfl ?_ | with_reducible refine bs_true ?_ | with_reducible refine bs_false ?_ | refine vops_p tyOk rfl (by (try simp only [inR]); omega) ?_ | refine vw_cond rfl ?_ | refine vw_skip ?_ | (with_reducible refine bs_dec (fun _ => ?_) (fun _ => ?_)) <;> try (exfalso; omega) | refine vops_load tyOk rfl rfl rfl (hs1' (by repeat (first | exact sub_hereL | exact sub_refl | apply sub_cons | apply sub_app))) ?_ | refine vops_load tyOk rfl rfl rfl (hs20 (by repeat (first | exact sub_hereL | exact sub_refl | apply sub_cons | apply sub_app))) ?_ | refine vops_load tyOk rfl rfl rfl (hs21 (by repeat (first | exact sub_hereL | exact sub_refl | apply sub_cons | apply sub_app))) ?_)
      all_goals exact ⟨(pairsTo r k).length - (q + 1), by omega, _, ole_refl, q + 1, by omega, rfl, rfl, rfl, rfl, by (rw [hs3]; refine congrArg (Value.int _) ?_; (repeat' split) <;> omega), by (rw [hs4]; refine congrArg (Value.int _) ?_; (repeat' split) <;> omega), rfl, rfl, rfl, rfl, rfl⟩
    · obtain rfl : q = (pairsTo r k).length := by omega
      rw [← hTo]
      repeat (first | refine vops_q tyOk rfl ?_ | refine vops_nil ?_ | refine vw_region (by kernel_rfl) ?_ | refine vops_p tyOk rfl (by (try simp only [inR]); omega) ?_ | refine vw_exit ?_)
      exact ⟨xs.length - (i + 1), by omega, [(b4, ⟨[.int .i64 k, .slice (some ⟨c2, o2, none⟩) rs.length cap], 32, 2, none⟩)], (by repeat (first | exact ole_nil | exact ole_refl | (apply ole_cons; (repeat (first | exact pm1_here | apply pm1_next | apply pm1_past))) | (apply ole_app; (repeat (first | exact pm_here | exact pm_last | apply pm_next | apply pm_past))))), i + 1, by omega, rfl, rfl, rfl, rfl, rfl, rfl, rfl, rfl, rfl⟩
  · obtain rfl : i = xs.length := by omega
    repeat (first | refine vops_q tyOk rfl ?_ | refine vops_nil ?_ | refine vw_seq ?_ | refine vw_region (by kernel_rfl) ?_ | refine vw_ret ?_ | refine vw_exit ?_)
    exact out_i3 rfl rfl rfl rfl hR
end Go.Proofs.Ytlfflmoegfibgaa
