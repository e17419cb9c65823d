import Derived.Test.YtlnohlomanapeaaCB9
import Derived.Test.YtlnohlomanapeaaCB5
import Derived.Test.YtlnohlomanapeaaCF
import Derived.Test.YtlnohlomanapeaaVLA
/- A part of the proof: CB11. No conditions of its own. -/
namespace Go.Proofs.Ytlnohlomanapeaa
open Go.VL
attribute [local irreducible] VWr VOps VD Calls

/-- A new list of numbers, and two numbers. -/
def TrI (e : Nat) (r : List Int × Int × Int) (v : Value) (new : Own) : Prop := ∃ p cap, v = .tuple #[.slice p r.1.length cap, .int .i64 r.2.1, .int .i64 r.2.2] ∧ NewI e r.1 (.slice p r.1.length cap) new
theorem trI_ok {P : Program} {Γ : Ctx} {f : Nat → Value} {own : Own} {e n t u s : Nat} {fn : Func} {v : Value} {l : List Int} {a b : Int} {r : List Int × Int × Int} {new : Own} (h : fn.results = #[.tmp t, .tmp u, .tmp s]) (hv : f t = v) (hx : f u = .int .i64 a) (hy : f s = .int .i64 b) (hN : NewI e l v new) (hs : Go.VL.Sub new own) (hr : r = (l, a, b)) : Out P Γ n fn (TrI e r) .ret f own := by
  obtain ⟨p, cap, rfl⟩ := SlAt.form hN
  subst hr
  exact ⟨_, new, rv_tmp3 h hv hx hy, SlAt.nodup hN, hs, p, cap, rfl, hN⟩
theorem arrL_pos : ∀ (d : Nat) (pre left : List (List Int)), left.length = d → 0 < (arrL d pre left).length
  | 0, _, _, _ => by simp [arrL]
  | d + 1, pre, left, h => by
    rw [arrL_succ, h, arrTo, List.range_succ_eq_map, List.flatMap_cons, List.length_append]
    have h1 := restAt_length (left := left) (j := 0) (by omega)
    have := arrL_pos d (pre ++ [left.getD 0 []]) (restAt left 0) (by omega)
    omega
theorem ord_pos (d : Nat) : 0 < (ordR (d + 1) d [0]).length := by
  have hf : (freeN (d + 1) [0]).length = d := by rw [freeN_one]; simp
  have h := arrL_pos d (ones9 [0]) (ones9 (freeN (d + 1) [0])) (by rw [ones9, List.length_map, hf])
  rw [show arrL d (ones9 [0]) (ones9 (freeN (d + 1) [0])) = (ordR (d + 1) d [0]).map ones9 from arrL_ones (d + 1) d [0] hf, List.length_map] at h
  exact h
def costO (k : Nat) (rs : List (List Int)) (q : List Int) : Int := sum2 k k (sqA (carN k (reord rs q) (reord rs q).length))
def costI (k : Nat) (rs : List (List Int)) (d i : Nat) : Int := costO k rs ((ordR (d + 1) d [0]).getD i [])
open Classical in
noncomputable def boR (n : Int) (rs : List (List Int)) : List Int × Int × Int :=
  if codeE n rs = 0 then (if rs.length ≤ 7 then ((ordR (rs.length - 1 + 1) (rs.length - 1) [0]).getD (bIdx (costI n.toNat rs (rs.length - 1)) (ordR (rs.length - 1 + 1) (rs.length - 1) [0]).length) [], costI n.toNat rs (rs.length - 1) (bIdx (costI n.toNat rs (rs.length - 1)) (ordR (rs.length - 1 + 1) (rs.length - 1) [0]).length), 0) else ([], 0, 3)) else ([], 0, codeE n rs)
theorem boR_len (n : Int) (rs : List (List Int)) : (boR n rs).1.length ≤ 1048576 := by
  unfold boR
  split
  · split
    · rename_i h
      generalize bIdx (costI n.toNat rs (rs.length - 1)) (ordR (rs.length - 1 + 1) (rs.length - 1) [0]).length = i
      show ((ordR (rs.length - 1 + 1) (rs.length - 1) [0]).getD i []).length ≤ _
      rw [List.getD_eq_getElem?_getD]
      cases hq : (ordR (rs.length - 1 + 1) (rs.length - 1) [0])[i]? with
      | none => simp
      | some q =>
        have := (ord_at (List.mem_of_getElem? hq)).1
        show q.length ≤ _
        omega
    · simp
  · simp
theorem cost_range {k : Nat} {rs : List (List Int)} {q : List Int} (hE : EvenR k (reord rs q)) : 0 ≤ costO k rs q ∧ costO k rs q ≤ 1960000 := by
  have hs := carN_small hE
  have h14 := hE.len
  refine ⟨sumTo_nonneg fun a ha => sumTo_nonneg fun b hb => (sq_small (hs a b ha hb)).1, ?_⟩
  have h1 : costO k rs q ≤ (k : Int) * 140000 := sumTo_le fun a ha => by
    have h2 : sumTo (sqA (carN k (reord rs q) (reord rs q).length) a) k ≤ (k : Int) * 10000 := sumTo_le fun b hb => (sq_small (hs a b ha hb)).2
    omega
  omega

open Classical in
set_option maxHeartbeats 4000000 in
set_option maxRecDepth 100000 in
theorem c_spec_BestOrder (n : Int) (v : Value) (rs : List (List Int)) (w : World) (hv : RdS w v rs) (hr : ∀ r ∈ rs, r.length = 14) (hl : rs.length ≤ 1048576) :
    Calls Try.prog 22 [.agg #[.int .i64 n, v]].toArray w (Res w (TrI 2 (boR n rs))) := by
  obtain ⟨a, cap, rfl⟩ := hv.len
  refine calls_of_vw Try.func22 rfl Try.ntmps22 (by simp) ?_
  refine vw_seq (vw_region (by kernel_rfl) (vops_box [.int .i64 n, .slice a rs.length cap] rfl (fun b1 hb1 => ?_)))
  have hcc := fun (w' : World) (hg : Go.VL.Good ⟨w, []⟩ [(b1, ⟨[.int .i64 n, .slice a rs.length cap], 26, 2, none⟩)] w') => c_l09Code n _ rs w' (hv.same hg.fr) hr hl
  obtain ⟨cd, hcd⟩ : ∃ cd, cd = codeE n rs := ⟨_, rfl⟩
  rw [← hcd] at hcc
  repeat' (first | refine vops_q tyOk rfl ?_ | refine vops_nil ?_ | refine vw_seq ?_ | refine vw_region (by kernel_rfl) ?_ | refine vops_guardT rfl rfl ?_ | with_reducible refine bs_true ?_ | with_reducible refine bs_false ?_ | refine vw_cond rfl ?_ | refine vw_skip ?_ | refine vw_ret ?_ | (with_reducible refine bs_dec (fun _ => ?_) (fun _ => ?_)) <;> try (exfalso; omega) | (with_reducible refine bs_ndec (fun _ => ?_) (fun _ => ?_)) <;> try (exfalso; omega) | (apply vops_callp ent88 rfl; (intro w' hg; exact hcc w' hg)) | ((show VOps _ _ _ _ (⟨some _, Go.Op.load _ _, _, _, _, none⟩ :: _) _ _); first | refine vops_loadM tyOk rfl rfl rfl (by repeat (first | exact mem_here | apply mem_next | apply mem_past)) (by rfl) ?_ | refine vops_loadNM tyOk rfl rfl rfl (by repeat (first | exact mem_here | apply mem_next | apply mem_past)) (by first | rfl | (rw [ints_length]; first | assumption | omega | (rw [ints_length]; first | assumption | omega | simp [*])) | simp [*]) ?_))
  all_goals (first
    | (exfalso; omega)
    | exact trI_ok (new := []) rfl rfl rfl rfl NewI.nil (fun _ h => by cases h) (by rw [boR, if_neg (by omega), hcd])
    | exact trI_ok (new := []) rfl rfl rfl rfl NewI.nil (fun _ h => by cases h) (by rw [boR, if_pos (by omega), if_neg (by omega)])
    | skip)
  all_goals (
    have hz : codeE n rs = 0 := by omega
    have h7 : rs.length ≤ 7 := by omega
    obtain ⟨k, rfl⟩ : ∃ k : Nat, n = (k : Int) := ⟨n.toNat, by have := (codeE_zero.1 hz).1.1; omega⟩
    have hE := codeE_zero.1 hz
    obtain ⟨hk2, hk14, hkl⟩ := hE.len
    obtain ⟨d, hd⟩ : ∃ d, rs.length = d + 1 := ⟨rs.length - 1, by omega⟩
    have hR : boR k rs = ((ordR (d + 1) d [0]).getD (bIdx (costI k rs d) (ordR (d + 1) d [0]).length) [], costI k rs d (bIdx (costI k rs d) (ordR (d + 1) d [0]).length), 0) := by
      have e : rs.length - 1 = d := by omega
      rw [boR, if_pos hz, if_pos h7, e, Int.toNat_natCast]
    rw [hR]
    clear hR hcc
    have hLp := ord_pos d
    have hLb : (ordR (d + 1) d [0]).length ≤ 2097152 := by
      refine Nat.le_trans (ordR_len (d + 1) d [0]) ?_
      calc (d + 1) ^ d ≤ 8 ^ d := Nat.pow_le_pow_left (by omega) d
        _ ≤ 8 ^ 7 := Nat.pow_le_pow_right (by omega) (by omega)
        _ = 2097152 := by decide
    have hat : ∀ q ∈ ordR (d + 1) d [0], q.length = rs.length ∧ (∀ x ∈ q, 0 ≤ x ∧ x < (rs.length : Int)) ∧ q.Nodup := fun q hq => by rw [hd]; exact ord_at hq
    obtain ⟨L, hL⟩ : ∃ L, L = ordR (d + 1) d [0] := ⟨_, rfl⟩
    obtain ⟨c, hc⟩ : ∃ c, c = costI k rs d := ⟨_, rfl⟩
    have hcq : ∀ i q, L[i]? = some q → c i = costO k rs q := fun i q hq => by rw [hc, costI, ← hL, List.getD_eq_getElem?_getD, hq]; rfl
    have hcr : ∀ i, i < L.length → 0 ≤ c i ∧ c i ≤ 1960000 := fun i hi => by
      obtain ⟨q, hq⟩ : ∃ q, L[i]? = some q := ⟨_, List.getElem?_eq_getElem hi⟩
      obtain ⟨a1, a2, a3⟩ := hat q (by rw [← hL]; exact List.mem_of_getElem? hq)
      rw [hcq i q hq]; exact cost_range (reord_even hE a1 a2 a3)
    repeat (first | refine vops_litI [_] tyOk rfl rfl (List.cons_ne_nil _ _) (by rfl) rfl (by omega) (by omega) (fun bt hbt => ?_))
    rw [hd]
    refine vops_callM (own0 := [(bt, ⟨ints [0], 2, 1 * 1, none⟩)]) (S := NewLL 28 2 L) ent89 rfl (by repeat (first | exact pm_here | exact pm_last | apply pm_next | apply pm_past)) (fun w' hg => ?_) ?_
    · rw [hL]
      exact c_l09Orders (d + 1) (by omega) d [0] (some ⟨bt, 0, none⟩) 1 _ w' (NewF.mk rfl (Nat.le_refl _) (by decide)) hg.left.ok (by simp; omega)
    rintro _ newS hS
    rw [← hL] at hLp hLb hat ⊢
    rw [← hc]
    obtain ⟨p6, c6, rfl⟩ := hS.form
    obtain ⟨q0, hq0⟩ : ∃ q0, L[0]? = some q0 := ⟨_, List.getElem?_eq_getElem hLp⟩
    obtain ⟨bo, co, u0, nr0, he, hNr0, hsr0, hcu0⟩ := ll_at hS hq0
    cases he
    obtain ⟨pu0, cu0, rfl⟩ := SlAt.form hNr0
    have hq0l : q0.length = d + 1 := by rw [← hd]; exact (hat q0 (List.mem_of_getElem? hq0)).1
    rw [hq0l] at hNr0 hcu0
    have hcu0' : ∀ Γ own, Go.VL.Sub newS own → Sees Γ own bo (0 + Int.toNat 0) (.slice pu0 (d + 1) cu0) := hcu0
    repeat (first | refine vops_q tyOk rfl ?_ | refine vops_nil ?_ | refine vw_seq ?_ | refine vw_region (by kernel_rfl) ?_ | refine vops_p tyOk rfl (by (try simp only [inR]); omega) ?_ | refine vw_block ?_ | refine vops_load tyOk rfl rfl rfl (hcu0' _ _ (fun p hp => List.mem_append_left _ hp)) ?_)
    refine vw_loopW (fun y f own => ∃ (i : Nat) (pb : Option Addr) (cb : Nat) (nr : Own), i ≤ L.length ∧ y = L.length - i ∧ f 9 = .int .i64 i ∧ f 6 = .slice (some ⟨bo, 0, none⟩) L.length c6 ∧ f 8 = .int .i64 (if i = 0 then -1 else c (bIdx c i)) ∧ f 7 = .slice pb (d + 1) cb ∧ f 1 = .pointer (some ⟨b1, 0, none⟩) ∧ NewI 2 (L.getD (bIdx c i) []) (.slice pb (d + 1) cb) nr ∧ Go.VL.Sub nr newS ∧ own = newS ++ [(b1, ⟨[.int .i64 (k : Int), .slice a (d + 1) cap], 26, 2, none⟩)]) L.length
      ⟨_, ole_refl, 0, pu0, cu0, nr0, by omega, by omega, rfl, rfl, rfl, rfl, rfl, by rw [bIdx, List.getD_eq_getElem?_getD, hq0]; exact hNr0, hsr0, rfl⟩ ?_
    rintro y f own ⟨i, pb, cb, nr, hi, rfl, h9, h6, h8, h7', h1, hNb, hsb, rfl⟩
    rw [upd_of h9, upd_of h6, upd_of h8, upd_of h7', upd_of h1]
    obtain ⟨ls, hls⟩ : ∃ ls : Int, ls = (if i = 0 then -1 else c (bIdx c i)) := ⟨_, rfl⟩
    have hls0 : i = 0 → ls = -1 := fun h => by rw [hls, if_pos h]
    have hls1 : i ≠ 0 → ls = c (bIdx c i) ∧ 0 ≤ ls ∧ ls ≤ 1960000 := fun h => by
      have hb := bIdx_lt c i (by omega)
      have := hcr (bIdx c i) (by omega)
      rw [hls, if_neg h]; exact ⟨rfl, this⟩
    have hlr : -1 ≤ ls ∧ ls ≤ 1960000 := by
      by_cases h : i = 0
      · have := hls0 h; omega
      · have := (hls1 h).2; omega
    rw [← hls]
    repeat (first | refine vops_q tyOk rfl ?_ | refine vops_nil ?_ | refine vw_seq ?_ | refine vw_region (by kernel_rfl) ?_ | refine vw_cond rfl ?_)
    refine bs_dec (fun hlt => ?_) (fun hlt => ?_)
    · obtain ⟨q, hq⟩ : ∃ q, L[i]? = some q := ⟨_, List.getElem?_eq_getElem (by omega)⟩
      obtain ⟨a1, a2, a3⟩ := hat q (List.mem_of_getElem? hq)
      have hER := reord_even hE a1 a2 a3
      have hcost := hcq i q hq
      have hci := hcr i (by omega)
      obtain ⟨bo', co', uq, nrq, he, hNq, hsq, hcuq⟩ := ll_at hS hq
      cases he
      obtain ⟨pq, cq, rfl⟩ := SlAt.form hNq
      have hql : q.length = d + 1 := by rw [← hd]; exact a1
      rw [hql] at hNq hcuq
      have hgq : L.getD i [] = q := by rw [List.getD_eq_getElem?_getD, hq]; rfl
      have hbs : bIdx c (i + 1) = if i = 0 then 0 else if c i < c (bIdx c i) then i else bIdx c i := rfl
      have hvd : ∀ w', Fr [] w w' → RdS w' (.slice a (d + 1) cap) rs := fun w' hf => by rw [← hd]; exact hv.same hf
      have hCost : ∀ v w', RdII w' v (tabOf k (carN k (reord rs q) (reord rs q).length)) → Calls Try.prog 90 [v].toArray w' (Res w' (Is (.int .i64 (c i)))) := by
        rw [hcost]; exact fun v w' h => c_l09Cost k hk14 _ (carN_small hER) v w' h
      have hkey : ls < 0 ∨ c i < ls → bIdx c (i + 1) = i := fun h => by
        rw [hbs]
        by_cases h0 : i = 0
        · rw [if_pos h0, h0]
        · have := hls1 h0
          rw [if_neg h0, if_pos (by omega)]
      have hkeep : ¬ ls < 0 → ¬ c i < ls → bIdx c (i + 1) = bIdx c i := fun h h' => by
        have h0 : i ≠ 0 := fun h0 => h (by rw [hls0 h0]; omega)
        have := hls1 h0
        rw [hbs, if_neg h0, if_neg (by omega)]
      have hq14 := reord14 (rs := rs) (q := q) hr a2
      have hrdq : ∀ (w' : World) (own : Own) (Γ : Ctx), Go.VL.Sub newS own → Go.VL.Good Γ own w' → RdI w' (.slice pq (d + 1) cq) q := fun w' own Γ hs hg => NewI.rdG hNq (fun p hp => hs p (hsq p hp)) hg
      repeat (first | refine vw_seq ?_ | refine vw_skip ?_ | refine vw_block ?_)
      refine vw_draw [0, 1, 2, 3, 4, 5, 6, 7, 8] (by kernel_rfl) (by kernel_rfl) (by kernel_rfl) rfl ?_
      repeat' (first | refine vd_q tyOk rfl (by first | trivial | rfl) rfl (by kernel_rfl) (by kernel_rfl) ?_ | refine vd_p tyOk rfl (by first | trivial | rfl) rfl (by kernel_rfl) (by kernel_rfl) (by (try simp only [inR]); omega) ?_ | refine vops_nil ?_ | refine vd_nil (by kernel_rfl) ?_ | refine ⟨fun _ _ _ h => h, ?_⟩ | refine ⟨fun _ _ _ h => List.mem_append_right _ h, ?_⟩ | refine vd_loadNM tyOk rfl (by first | trivial | rfl) rfl rfl rfl (by repeat (first | exact mem_here | apply mem_next | apply mem_past)) (by rfl) (by kernel_rfl) (by kernel_rfl) (by kernel_rfl) (by repeat (first | exact sub_hereL | exact sub_refl | apply sub_cons | apply sub_app)) ?_ | refine vd_load tyOk rfl (by first | trivial | rfl) rfl rfl rfl (by kernel_rfl) (by kernel_rfl) (by kernel_rfl) (hcuq _ _ (fun p hp => List.mem_append_left _ hp)) (by repeat (first | exact sub_hereL | exact sub_refl | apply sub_cons | apply sub_app)) ?_ | (apply vops_call ent92 rfl; (intro w' hg; exact c_l01Reordered (k : Int) _ _ rs q w' (hvd w' hg.fr) (hrdq w' _ _ (by repeat (first | exact sub_hereL | exact sub_refl | apply sub_cons | apply sub_app)) hg) hr hl (by omega) a2); (rintro _ newN ⟨p9, c9, rfl, hS9⟩)) | (apply vops_call ent91 rfl; (intro w' hg; exact c_l09Matrix k _ (reord rs q) hER w' (NewR.see hS9 (by repeat (first | exact sub_hereL | exact sub_refl | apply sub_cons | apply sub_app)) _ hg) hq14); (intro _ newM hM; obtain ⟨_, _, rfl⟩ := NewLL.form hM)) | (apply vops_callp ent90 rfl; (intro w' hg; exact hCost _ w' (NewLL.rdG hM (by repeat (first | exact sub_hereL | exact sub_refl | apply sub_cons | apply sub_app)) hg))) | refine vd_one rfl (by kernel_rfl) (by kernel_rfl) rfl ?_)
      repeat' (first | refine vops_q tyOk rfl ?_ | refine vops_nil ?_ | refine vw_seq ?_ | refine vw_region (by kernel_rfl) ?_ | refine vops_guardF rfl rfl ?_ | with_reducible refine bs_true ?_ | with_reducible refine bs_false ?_ | refine vops_p tyOk rfl (by (try simp only [inR]); omega) ?_ | refine vw_cond rfl ?_ | refine vw_skip ?_ | (with_reducible refine bs_dec (fun _ => ?_) (fun _ => ?_)) <;> try (exfalso; omega) | refine vops_load tyOk rfl rfl rfl (hcuq _ _ (fun p hp => List.mem_append_right _ (List.mem_append_right _ (List.mem_append_left _ hp)))) ?_)
      all_goals first
        | (refine ⟨L.length - (i + 1), by omega, newS ++ [(b1, ⟨[.int .i64 (k : Int), .slice a (d + 1) cap], 26, 2, none⟩)], (by repeat (first | exact ole_nil | exact ole_refl | (apply ole_cons; (repeat (first | exact pm1_here | apply pm1_next | apply pm1_past))) | (apply ole_app; (repeat (first | exact pm_here | exact pm_last | apply pm_next | apply pm_past))))), i + 1, pq, cq, nrq, by omega, rfl, rfl, rfl, ?_, rfl, rfl, ?_, hsq, rfl⟩
           · rw [if_neg (by omega), hkey (by omega)]; rfl
           · rw [hkey (by omega), hgq]; exact hNq)
        | (refine ⟨L.length - (i + 1), by omega, newS ++ [(b1, ⟨[.int .i64 (k : Int), .slice a (d + 1) cap], 26, 2, none⟩)], (by repeat (first | exact ole_nil | exact ole_refl | (apply ole_cons; (repeat (first | exact pm1_here | apply pm1_next | apply pm1_past))) | (apply ole_app; (repeat (first | exact pm_here | exact pm_last | apply pm_next | apply pm_past))))), i + 1, pb, cb, nr, by omega, rfl, rfl, rfl, ?_, rfl, rfl, ?_, hsb, rfl⟩
           · rw [if_neg (by omega), hkeep (by omega) (by omega), ← (hls1 (by omega)).1]; rfl
           · rw [hkeep (by omega) (by omega)]; exact hNb)
    · obtain rfl : i = L.length := by omega
      have hb := bIdx_lt c L.length hLp
      have hbl : (L.getD (bIdx c L.length) []).length = d + 1 := by
        rw [← hd, List.getD_eq_getElem?_getD, List.getElem?_eq_getElem hb]
        exact (hat _ (List.getElem_mem hb)).1
      have hlsn := (hls1 (by omega)).1
      repeat (first | refine vops_q tyOk rfl ?_ | refine vops_nil ?_ | refine vw_seq ?_ | refine vw_region (by kernel_rfl) ?_ | refine vw_ret ?_ | refine vw_exit ?_ | (apply vops_call ent93 rfl; (intro w' hg; exact c_l01OwnL _ (L.getD (bIdx c L.length) []) w' (NewI.rdG hNb (fun p hp => List.mem_append_left _ (hsb p hp)) hg) (by omega)); (intro _ newN hN; obtain ⟨pN, cN, rfl⟩ := SlAt.form hN)))
      exact trI_ok rfl rfl rfl rfl hN (by repeat (first | exact sub_hereL | exact sub_refl | apply sub_cons | apply sub_app)) (by rw [hlsn])
  )
end Go.Proofs.Ytlnohlomanapeaa
