import Derived.Test.YtlfflmoegfibgaaZZ5
import Derived.Test.YtlfflmoegfibgaaZZ0
import Derived.Test.YtlfflmoegfibgaaCF
import Derived.Test.YtlfflmoegfibgaaVLA
import Derived.Test.YtlfflmoegfibgaaCD
import Derived.Test.YtlfflmoegfibgaaZZ4
import Derived.Test.YtlfflmoegfibgaaZZ2
import Derived.Test.YtlfflmoegfibgaaSY
import Derived.Test.YtlfflmoegfibgaaVLBB
/- Parts of the proof, one after another. No conditions of their own. -/
/- A part of the proof: CB11. No conditions of its own. -/
namespace Go.Proofs.Ytlfflmoegfibgaa
open Go.VL
attribute [local irreducible] VWr VOps VD Calls

/-- A new list of numbers, and two numbers. -/
def TrI (e : Nat) (r : List Int × Int × Int) (v : Value) (new : Own) : Prop := ∃ p cap, v = .tuple #[.slice p r.1.length cap, .int .i64 r.2.1, .int .i64 r.2.2] ∧ NewI e r.1 (.slice p r.1.length cap) new
theorem trI_ok {P : Program} {Γ : Ctx} {f : Nat → Value} {own : Own} {e n t u s : Nat} {fn : Func} {v : Value} {l : List Int} {a b : Int} {r : List Int × Int × Int} {new : Own} (h : fn.results = #[.tmp t, .tmp u, .tmp s]) (hv : f t = v) (hx : f u = .int .i64 a) (hy : f s = .int .i64 b) (hN : NewI e l v new) (hs : Go.VL.Sub new own) (hr : r = (l, a, b)) : Out P Γ n fn (TrI e r) .ret f own := by
  obtain ⟨p, cap, rfl⟩ := SlAt.form hN
  subst hr
  exact ⟨_, new, rv_tmp3 h hv hx hy, SlAt.nodup hN, hs, p, cap, rfl, hN⟩
theorem arrL_pos : ∀ (d : Nat) (pre left : List (List Int)), left.length = d → 0 < (arrL d pre left).length
  | 0, _, _, _ => by simp [arrL]
  | d + 1, pre, left, h => by
    rw [arrL_succ, h, arrTo, List.range_succ_eq_map, List.flatMap_cons, List.length_append]
    have h1 := restAt_length (left := left) (j := 0) (by omega)
    have := arrL_pos d (pre ++ [left.getD 0 []]) (restAt left 0) (by omega)
    omega
theorem ord_pos (d : Nat) : 0 < (ordR (d + 1) d [0]).length := by
  have hf : (freeN (d + 1) [0]).length = d := by rw [freeN_one]; simp
  have h := arrL_pos d (ones9 [0]) (ones9 (freeN (d + 1) [0])) (by rw [ones9, List.length_map, hf])
  rw [show arrL d (ones9 [0]) (ones9 (freeN (d + 1) [0])) = (ordR (d + 1) d [0]).map ones9 from arrL_ones (d + 1) d [0] hf, List.length_map] at h
  exact h
def costO (k : Nat) (rs : List (List Int)) (q : List Int) : Int := sum2 k k (sqA (carN k (reord rs q) (reord rs q).length))
def costI (k : Nat) (rs : List (List Int)) (d i : Nat) : Int := costO k rs ((ordR (d + 1) d [0]).getD i [])
open Classical in
noncomputable def boR (n : Int) (rs : List (List Int)) : List Int × Int × Int :=
  if codeE n rs = 0 then (if rs.length ≤ 7 then ((ordR (rs.length - 1 + 1) (rs.length - 1) [0]).getD (bIdx (costI n.toNat rs (rs.length - 1)) (ordR (rs.length - 1 + 1) (rs.length - 1) [0]).length) [], costI n.toNat rs (rs.length - 1) (bIdx (costI n.toNat rs (rs.length - 1)) (ordR (rs.length - 1 + 1) (rs.length - 1) [0]).length), 0) else ([], 0, 3)) else ([], 0, codeE n rs)
theorem boR_len (n : Int) (rs : List (List Int)) : (boR n rs).1.length ≤ 1048576 := by
  unfold boR
  split
  · split
    · rename_i h
      generalize bIdx (costI n.toNat rs (rs.length - 1)) (ordR (rs.length - 1 + 1) (rs.length - 1) [0]).length = i
      show ((ordR (rs.length - 1 + 1) (rs.length - 1) [0]).getD i []).length ≤ _
      rw [List.getD_eq_getElem?_getD]
      cases hq : (ordR (rs.length - 1 + 1) (rs.length - 1) [0])[i]? with
      | none => simp
      | some q =>
        have := (ord_at (List.mem_of_getElem? hq)).1
        show q.length ≤ _
        omega
    · simp
  · simp
theorem cost_range {k : Nat} {rs : List (List Int)} {q : List Int} (hE : EvenR k (reord rs q)) : 0 ≤ costO k rs q ∧ costO k rs q ≤ 1960000 := by
  have hs := carN_small hE
  have h14 := hE.len
  refine ⟨sumTo_nonneg fun a ha => sumTo_nonneg fun b hb => (sq_small (hs a b ha hb)).1, ?_⟩
  have h1 : costO k rs q ≤ (k : Int) * 140000 := sumTo_le fun a ha => by
    have h2 : sumTo (sqA (carN k (reord rs q) (reord rs q).length) a) k ≤ (k : Int) * 10000 := sumTo_le fun b hb => (sq_small (hs a b ha hb)).2
    omega
  omega

open Classical in
set_option maxHeartbeats 4000000 in
set_option maxRecDepth 100000 in
theorem c_spec_BestOrder (n : Int) (v : Value) (rs : List (List Int)) (w : World) (hv : RdS w v rs) (hr : ∀ r ∈ rs, r.length = 14) (hl : rs.length ≤ 1048576) :
    Calls Try.prog 49 [.agg #[.int .i64 n, v]].toArray w (Res w (TrI 2 (boR n rs))) := by
  obtain ⟨a, cap, rfl⟩ := hv.len
  refine calls_of_vw Try.func49 rfl Try.ntmps49 (by simp) ?_
  refine vw_seq (vw_region (by kernel_rfl) (vops_box [.int .i64 n, .slice a rs.length cap] rfl (fun b1 hb1 => ?_)))
  have hcc := fun (w' : World) (hg : Go.VL.Good ⟨w, []⟩ [(b1, ⟨[.int .i64 n, .slice a rs.length cap], 32, 2, none⟩)] w') => c_l09Code n _ rs w' (hv.same hg.fr) hr hl
  obtain ⟨cd, hcd⟩ : ∃ cd, cd = codeE n rs := ⟨_, rfl⟩
  rw [← hcd] at hcc
  repeat' (first | refine vops_q tyOk rfl ?_ | refine vops_nil ?_ | refine vw_seq ?_ | refine vw_region (by kernel_rfl) ?_ | refine vops_guardT rfl rfl ?_ | with_reducible refine bs_true ?_ | with_reducible refine bs_false ?_ | refine vw_cond rfl ?_ | refine vw_skip ?_ | refine vw_ret ?_ | (with_reducible refine bs_dec (fun _ => ?_) (fun _ => ?_)) <;> try (exfalso; omega) | (with_reducible refine bs_ndec (fun _ => ?_) (fun _ => ?_)) <;> try (exfalso; omega) | (apply vops_callp ent110 rfl; (intro w' hg; exact hcc w' hg)) | ((show VOps _ _ _ _ (⟨some _, Go.Op.load _ _, _, _, _, none⟩ :: _) _ _); first | refine vops_loadM tyOk rfl rfl rfl (by repeat (first | exact mem_here | apply mem_next | apply mem_past)) (by rfl) ?_ | refine vops_loadNM tyOk rfl rfl rfl (by repeat (first | exact mem_here | apply mem_next | apply mem_past)) (by first | rfl | (rw [ints_length]; first | assumption | omega | (rw [ints_length]; first | assumption | omega | simp [*])) | simp [*]) ?_))
  all_goals (first
    | (exfalso; omega)
    | exact trI_ok (new := []) rfl rfl rfl rfl NewI.nil (fun _ h => by cases h) (by rw [boR, if_neg (by omega), hcd])
    | exact trI_ok (new := []) rfl rfl rfl rfl NewI.nil (fun _ h => by cases h) (by rw [boR, if_pos (by omega), if_neg (by omega)])
    | skip)
  all_goals (
    have hz : codeE n rs = 0 := by omega
    have h7 : rs.length ≤ 7 := by omega
    obtain ⟨k, rfl⟩ : ∃ k : Nat, n = (k : Int) := ⟨n.toNat, by have := (codeE_zero.1 hz).1.1; omega⟩
    have hE := codeE_zero.1 hz
    obtain ⟨hk2, hk14, hkl⟩ := hE.len
    obtain ⟨d, hd⟩ : ∃ d, rs.length = d + 1 := ⟨rs.length - 1, by omega⟩
    have hR : boR k rs = ((ordR (d + 1) d [0]).getD (bIdx (costI k rs d) (ordR (d + 1) d [0]).length) [], costI k rs d (bIdx (costI k rs d) (ordR (d + 1) d [0]).length), 0) := by
      have e : rs.length - 1 = d := by omega
      rw [boR, if_pos hz, if_pos h7, e, Int.toNat_natCast]
    rw [hR]
    clear hR hcc
    have hLp := ord_pos d
    have hLb : (ordR (d + 1) d [0]).length ≤ 2097152 := by
      refine Nat.le_trans (ordR_len (d + 1) d [0]) ?_
      calc (d + 1) ^ d ≤ 8 ^ d := Nat.pow_le_pow_left (by omega) d
        _ ≤ 8 ^ 7 := Nat.pow_le_pow_right (by omega) (by omega)
        _ = 2097152 := by decide
    have hat : ∀ q ∈ ordR (d + 1) d [0], q.length = rs.length ∧ (∀ x ∈ q, 0 ≤ x ∧ x < (rs.length : Int)) ∧ q.Nodup := fun q hq => by rw [hd]; exact ord_at hq
    obtain ⟨L, hL⟩ : ∃ L, L = ordR (d + 1) d [0] := ⟨_, rfl⟩
    obtain ⟨c, hc⟩ : ∃ c, c = costI k rs d := ⟨_, rfl⟩
    have hcq : ∀ i q, L[i]? = some q → c i = costO k rs q := fun i q hq => by rw [hc, costI, ← hL, List.getD_eq_getElem?_getD, hq]; rfl
    have hcr : ∀ i, i < L.length → 0 ≤ c i ∧ c i ≤ 1960000 := fun i hi => by
      obtain ⟨q, hq⟩ : ∃ q, L[i]? = some q := ⟨_, List.getElem?_eq_getElem hi⟩
      obtain ⟨a1, a2, a3⟩ := hat q (by rw [← hL]; exact List.mem_of_getElem? hq)
      rw [hcq i q hq]; exact cost_range (reord_even hE a1 a2 a3)
    repeat (first | refine vops_litI [_] tyOk rfl rfl (List.cons_ne_nil _ _) (by rfl) rfl (by omega) (by omega) (fun bt hbt => ?_))
    rw [hd]
    refine vops_callM (own0 := [(bt, ⟨ints [0], 2, 1 * 1, none⟩)]) (S := NewLL 38 2 L) ent111 rfl (by repeat (first | exact pm_here | exact pm_last | apply pm_next | apply pm_past)) (fun w' hg => ?_) ?_
    · rw [hL]
      exact c_l09Orders (d + 1) (by omega) d [0] (some ⟨bt, 0, none⟩) 1 _ w' (NewF.mk rfl (Nat.le_refl _) (by decide)) hg.left.ok (by simp; omega)
    rintro _ newS hS
    rw [← hL] at hLp hLb hat ⊢
    rw [← hc]
    obtain ⟨p6, c6, rfl⟩ := hS.form
    obtain ⟨q0, hq0⟩ : ∃ q0, L[0]? = some q0 := ⟨_, List.getElem?_eq_getElem hLp⟩
    obtain ⟨bo, co, u0, nr0, he, hNr0, hsr0, hcu0⟩ := ll_at hS hq0
    cases he
    obtain ⟨pu0, cu0, rfl⟩ := SlAt.form hNr0
    have hq0l : q0.length = d + 1 := by rw [← hd]; exact (hat q0 (List.mem_of_getElem? hq0)).1
    rw [hq0l] at hNr0 hcu0
    have hcu0' : ∀ Γ own, Go.VL.Sub newS own → Sees Γ own bo (0 + Int.toNat 0) (.slice pu0 (d + 1) cu0) := hcu0
    repeat (first | refine vops_q tyOk rfl ?_ | refine vops_nil ?_ | refine vw_seq ?_ | refine vw_region (by kernel_rfl) ?_ | refine vops_p tyOk rfl (by (try simp only [inR]); omega) ?_ | refine vw_block ?_ | refine vops_load tyOk rfl rfl rfl (hcu0' _ _ (fun p hp => List.mem_append_left _ hp)) ?_)
    refine vw_loopW (fun y f own => ∃ (i : Nat) (pb : Option Addr) (cb : Nat) (nr : Own), i ≤ L.length ∧ y = L.length - i ∧ f 9 = .int .i64 i ∧ f 6 = .slice (some ⟨bo, 0, none⟩) L.length c6 ∧ f 8 = .int .i64 (if i = 0 then -1 else c (bIdx c i)) ∧ f 7 = .slice pb (d + 1) cb ∧ f 1 = .pointer (some ⟨b1, 0, none⟩) ∧ NewI 2 (L.getD (bIdx c i) []) (.slice pb (d + 1) cb) nr ∧ Go.VL.Sub nr newS ∧ own = newS ++ [(b1, ⟨[.int .i64 (k : Int), .slice a (d + 1) cap], 32, 2, none⟩)]) L.length
      ⟨_, ole_refl, 0, pu0, cu0, nr0, by omega, by omega, rfl, rfl, rfl, rfl, rfl, by rw [bIdx, List.getD_eq_getElem?_getD, hq0]; exact hNr0, hsr0, rfl⟩ ?_
    rintro y f own ⟨i, pb, cb, nr, hi, rfl, h9, h6, h8, h7', h1, hNb, hsb, rfl⟩
    rw [upd_of h9, upd_of h6, upd_of h8, upd_of h7', upd_of h1]
    obtain ⟨ls, hls⟩ : ∃ ls : Int, ls = (if i = 0 then -1 else c (bIdx c i)) := ⟨_, rfl⟩
    have hls0 : i = 0 → ls = -1 := fun h => by rw [hls, if_pos h]
    have hls1 : i ≠ 0 → ls = c (bIdx c i) ∧ 0 ≤ ls ∧ ls ≤ 1960000 := fun h => by
      have hb := bIdx_lt c i (by omega)
      have := hcr (bIdx c i) (by omega)
      rw [hls, if_neg h]; exact ⟨rfl, this⟩
    have hlr : -1 ≤ ls ∧ ls ≤ 1960000 := by
      by_cases h : i = 0
      · have := hls0 h; omega
      · have := (hls1 h).2; omega
    rw [← hls]
    repeat (first | refine vops_q tyOk rfl ?_ | refine vops_nil ?_ | refine vw_seq ?_ | refine vw_region (by kernel_rfl) ?_ | refine vw_cond rfl ?_)
    refine bs_dec (fun hlt => ?_) (fun hlt => ?_)
    · obtain ⟨q, hq⟩ : ∃ q, L[i]? = some q := ⟨_, List.getElem?_eq_getElem (by omega)⟩
      obtain ⟨a1, a2, a3⟩ := hat q (List.mem_of_getElem? hq)
      have hER := reord_even hE a1 a2 a3
      have hcost := hcq i q hq
      have hci := hcr i (by omega)
      obtain ⟨bo', co', uq, nrq, he, hNq, hsq, hcuq⟩ := ll_at hS hq
      cases he
      obtain ⟨pq, cq, rfl⟩ := SlAt.form hNq
      have hql : q.length = d + 1 := by rw [← hd]; exact a1
      rw [hql] at hNq hcuq
      have hgq : L.getD i [] = q := by rw [List.getD_eq_getElem?_getD, hq]; rfl
      have hbs : bIdx c (i + 1) = if i = 0 then 0 else if c i < c (bIdx c i) then i else bIdx c i := rfl
      have hvd : ∀ w', Fr [] w w' → RdS w' (.slice a (d + 1) cap) rs := fun w' hf => by rw [← hd]; exact hv.same hf
      have hCost : ∀ v w', RdII w' v (tabOf k (carN k (reord rs q) (reord rs q).length)) → Calls Try.prog 112 [v].toArray w' (Res w' (Is (.int .i64 (c i)))) := by
        rw [hcost]; exact fun v w' h => c_l09Cost k hk14 _ (carN_small hER) v w' h
      have hkey : ls < 0 ∨ c i < ls → bIdx c (i + 1) = i := fun h => by
        rw [hbs]
        by_cases h0 : i = 0
        · rw [if_pos h0, h0]
        · have := hls1 h0
          rw [if_neg h0, if_pos (by omega)]
      have hkeep : ¬ ls < 0 → ¬ c i < ls → bIdx c (i + 1) = bIdx c i := fun h h' => by
        have h0 : i ≠ 0 := fun h0 => h (by rw [hls0 h0]; omega)
        have := hls1 h0
        rw [hbs, if_neg h0, if_neg (by omega)]
      have hq14 := reord14 (rs := rs) (q := q) hr a2
      have hrdq : ∀ (w' : World) (own : Own) (Γ : Ctx), Go.VL.Sub newS own → Go.VL.Good Γ own w' → RdI w' (.slice pq (d + 1) cq) q := fun w' own Γ hs hg => NewI.rdG hNq (fun p hp => hs p (hsq p hp)) hg
      repeat (first | refine vw_seq ?_ | refine vw_skip ?_ | refine vw_block ?_)
      refine vw_draw [0, 1, 2, 3, 4, 5, 6, 7, 8] (by kernel_rfl) (by kernel_rfl) (by kernel_rfl) rfl ?_
      repeat' (first | refine vd_q tyOk rfl (by first | trivial | rfl) rfl (by kernel_rfl) (by kernel_rfl) ?_ | refine vd_p tyOk rfl (by first | trivial | rfl) rfl (by kernel_rfl) (by kernel_rfl) (by (try simp only [inR]); omega) ?_ | refine vops_nil ?_ | refine vd_nil (by kernel_rfl) ?_ | refine ⟨fun _ _ _ h => h, ?_⟩ | refine ⟨fun _ _ _ h => List.mem_append_right _ h, ?_⟩ | refine vd_loadNM tyOk rfl (by first | trivial | rfl) rfl rfl rfl (by repeat (first | exact mem_here | apply mem_next | apply mem_past)) (by rfl) (by kernel_rfl) (by kernel_rfl) (by kernel_rfl) (by repeat (first | exact sub_hereL | exact sub_refl | apply sub_cons | apply sub_app)) ?_ | refine vd_load tyOk rfl (by first | trivial | rfl) rfl rfl rfl (by kernel_rfl) (by kernel_rfl) (by kernel_rfl) (hcuq _ _ (fun p hp => List.mem_append_left _ hp)) (by repeat (first | exact sub_hereL | exact sub_refl | apply sub_cons | apply sub_app)) ?_ | (apply vops_call ent114 rfl; (intro w' hg; exact c_l01Reordered (k : Int) _ _ rs q w' (hvd w' hg.fr) (hrdq w' _ _ (by repeat (first | exact sub_hereL | exact sub_refl | apply sub_cons | apply sub_app)) hg) hr hl (by omega) a2); (rintro _ newN ⟨p9, c9, rfl, hS9⟩)) | (apply vops_call ent113 rfl; (intro w' hg; exact c_l09Matrix k _ (reord rs q) hER w' (NewR.see hS9 (by repeat (first | exact sub_hereL | exact sub_refl | apply sub_cons | apply sub_app)) _ hg) hq14); (intro _ newM hM; obtain ⟨_, _, rfl⟩ := NewLL.form hM)) | (apply vops_callp ent112 rfl; (intro w' hg; exact hCost _ w' (NewLL.rdG hM (by repeat (first | exact sub_hereL | exact sub_refl | apply sub_cons | apply sub_app)) hg))) | refine vd_one rfl (by kernel_rfl) (by kernel_rfl) rfl ?_)
      repeat' (first | refine vops_q tyOk rfl ?_ | refine vops_nil ?_ | refine vw_seq ?_ | refine vw_region (by kernel_rfl) ?_ | refine vops_guardF rfl rfl ?_ | with_reducible refine bs_true ?_ | with_reducible refine bs_false ?_ | refine vops_p tyOk rfl (by (try simp only [inR]); omega) ?_ | refine vw_cond rfl ?_ | refine vw_skip ?_ | (with_reducible refine bs_dec (fun _ => ?_) (fun _ => ?_)) <;> try (exfalso; omega) | refine vops_load tyOk rfl rfl rfl (hcuq _ _ (fun p hp => List.mem_append_right _ (List.mem_append_right _ (List.mem_append_left _ hp)))) ?_)
      all_goals first
        | (refine ⟨L.length - (i + 1), by omega, newS ++ [(b1, ⟨[.int .i64 (k : Int), .slice a (d + 1) cap], 32, 2, none⟩)], (by repeat (first | exact ole_nil | exact ole_refl | (apply ole_cons; (repeat (first | exact pm1_here | apply pm1_next | apply pm1_past))) | (apply ole_app; (repeat (first | exact pm_here | exact pm_last | apply pm_next | apply pm_past))))), i + 1, pq, cq, nrq, by omega, rfl, rfl, rfl, ?_, rfl, rfl, ?_, hsq, rfl⟩
           · rw [if_neg (by omega), hkey (by omega)]; rfl
           · rw [hkey (by omega), hgq]; exact hNq)
        | (refine ⟨L.length - (i + 1), by omega, newS ++ [(b1, ⟨[.int .i64 (k : Int), .slice a (d + 1) cap], 32, 2, none⟩)], (by repeat (first | exact ole_nil | exact ole_refl | (apply ole_cons; (repeat (first | exact pm1_here | apply pm1_next | apply pm1_past))) | (apply ole_app; (repeat (first | exact pm_here | exact pm_last | apply pm_next | apply pm_past))))), i + 1, pb, cb, nr, by omega, rfl, rfl, rfl, ?_, rfl, rfl, ?_, hsb, rfl⟩
           · rw [if_neg (by omega), hkeep (by omega) (by omega), ← (hls1 (by omega)).1]; rfl
           · rw [hkeep (by omega) (by omega)]; exact hNb)
    · obtain rfl : i = L.length := by omega
      have hb := bIdx_lt c L.length hLp
      have hbl : (L.getD (bIdx c L.length) []).length = d + 1 := by
        rw [← hd, List.getD_eq_getElem?_getD, List.getElem?_eq_getElem hb]
        exact (hat _ (List.getElem_mem hb)).1
      have hlsn := (hls1 (by omega)).1
      repeat (first | refine vops_q tyOk rfl ?_ | refine vops_nil ?_ | refine vw_seq ?_ | refine vw_region (by kernel_rfl) ?_ | refine vw_ret ?_ | refine vw_exit ?_ | (apply vops_call ent115 rfl; (intro w' hg; exact c_l01OwnL _ (L.getD (bIdx c L.length) []) w' (NewI.rdG hNb (fun p hp => List.mem_append_left _ (hsb p hp)) hg) (by omega)); (intro _ newN hN; obtain ⟨pN, cN, rfl⟩ := SlAt.form hN)))
      exact trI_ok rfl rfl rfl rfl hN (by repeat (first | exact sub_hereL | exact sub_refl | apply sub_cons | apply sub_app)) (by rw [hlsn])
  )
end Go.Proofs.Ytlfflmoegfibgaa

/- A part of the proof: CB12. No conditions of its own. -/
namespace Go.Proofs.Ytlfflmoegfibgaa
open Go.VL
attribute [local irreducible] VWr VOps VD Calls

/-- The best order of the rounds so far. -/
def BestP (rs : List (List Int)) (d : Nat) (c : Nat → Int) (L : List (List Int)) (q : Nat) (vb : Value) (new : Own) : Prop :=
  (q = 0 ∧ vb = .slice none 0 0 ∧ new = []) ∨ (0 < q ∧ (∃ pb cb, vb = .slice pb (d + 1) cb) ∧ NewF 50 14 (d + 1) (reord rs (L.getD (bIdx c q) [])).flatten vb new)
def lsP (c : Nat → Int) (q : Nat) : Int := if q = 0 then 9223372036854775807 else c (bIdx c q)

open Classical in
set_option maxHeartbeats 4000000 in
set_option maxRecDepth 100000 in
theorem c_impl_BestOrder (n : Int) (v : Value) (rs : List (List Int)) (w : World) (hv : RdS w v rs) (hr : ∀ r ∈ rs, r.length = 14) (hl : rs.length ≤ 1048576) (hcap : ∀ a m c, v = .slice a m c → m ≤ c) :
    Calls Try.prog 48 [.agg #[.int .i64 n, v]].toArray w (Res w (TrI 2 (boR n rs))) := by
  obtain ⟨a, cap, rfl⟩ := hv.len
  have hcp := hcap _ _ _ rfl
  refine calls_of_vw Try.func48 rfl Try.ntmps48 (by simp) ?_
  refine vw_seq (vw_region (by kernel_rfl) (vops_box [.int .i64 n, .slice a rs.length cap] rfl (fun b1 hb1 => ?_)))
  have hcc := fun (w' : World) (hg : Go.VL.Good ⟨w, []⟩ [(b1, ⟨[.int .i64 n, .slice a rs.length cap], 32, 2, none⟩)] w') => c_codeOfEvenRobin n _ rs w' (hv.same hg.fr) hr hl
  obtain ⟨cd, hcd⟩ : ∃ cd, cd = codeE n rs := ⟨_, rfl⟩
  rw [← hcd] at hcc
  repeat' (first | refine vops_q tyOk rfl ?_ | refine vops_nil ?_ | refine vw_seq ?_ | refine vw_region (by kernel_rfl) ?_ | refine vw_cond rfl ?_ | refine vw_skip ?_ | refine vw_block ?_ | refine vw_ret ?_ | (with_reducible refine bs_dec (fun _ => ?_) (fun _ => ?_)) <;> try (exfalso; omega) | (with_reducible refine bs_ndec (fun _ => ?_) (fun _ => ?_)) <;> try (exfalso; omega) | (apply vops_callp ent104 rfl; (intro w' hg; exact hcc w' hg)) | refine vops_allocZ [.slice none 0 0] tyOk rfl rfl (by simp) (fun b6 hb6 => ?_) | refine vops_allocZ [.int .i64 0] tyOk rfl rfl (by simp) (fun b7 hb7 => ?_) | (apply vops_call ent105 rfl; (intro w' hg; exact c_arrangementsR a rs.length cap 1 w'); (rintro _ newN ⟨bA, bB, rfl, rfl, hne⟩)) | ((show VOps _ _ _ _ (⟨some _, Go.Op.load _ _, _, _, _, none⟩ :: _) _ _); first | refine vops_loadM tyOk rfl rfl rfl (by repeat (first | exact mem_here | apply mem_next | apply mem_past)) (by rfl) ?_ | refine vops_loadNM tyOk rfl rfl rfl (by repeat (first | exact mem_here | apply mem_next | apply mem_past)) (by first | rfl | (rw [ints_length]; first | assumption | omega | (rw [ints_length]; first | assumption | omega | simp [*])) | simp [*]) ?_) | ((show VOps _ _ _ _ (⟨none, Go.Op.store _ _ _, _, _, _, none⟩ :: _) _ _); refine vops_storeM tyOk rfl rfl rfl rfl rfl (by repeat (first | exact upd_here | apply upd_next | apply upd_past)) (by simp) ?_))
  all_goals (first
    | (exfalso; omega)
    | exact trI_ok (new := []) rfl rfl rfl rfl NewI.nil (fun _ h => by cases h) (by rw [boR, if_neg (by omega), hcd])
    | exact trI_ok (new := []) rfl rfl rfl rfl NewI.nil (fun _ h => by cases h) (by rw [boR, if_pos (by omega), if_neg (by omega)])
    | skip)
  have hz : codeE n rs = 0 := by omega
  have h7 : rs.length ≤ 7 := by omega
  obtain ⟨k, rfl⟩ : ∃ k : Nat, n = (k : Int) := ⟨n.toNat, by have := (codeE_zero.1 hz).1.1; omega⟩
  have hE := codeE_zero.1 hz
  obtain ⟨hk2, hk14, hkl⟩ := hE.len
  obtain ⟨d, hd⟩ : ∃ d, rs.length = d + 1 := ⟨rs.length - 1, by omega⟩
  have hR : boR k rs = ((ordR (d + 1) d [0]).getD (bIdx (costI k rs d) (ordR (d + 1) d [0]).length) [], costI k rs d (bIdx (costI k rs d) (ordR (d + 1) d [0]).length), 0) := by
    have e : rs.length - 1 = d := by omega
    rw [boR, if_pos hz, if_pos h7, e, Int.toNat_natCast]
  rw [hR]
  clear hR hcc
  have hLp := ord_pos d
  have hat : ∀ q ∈ ordR (d + 1) d [0], q.length = rs.length ∧ (∀ x ∈ q, 0 ≤ x ∧ x < (rs.length : Int)) ∧ q.Nodup := fun q hq => by rw [hd]; exact ord_at hq
  have hsp := rs_split hd
  have hit := it_arrR a (d + 1) cap 1 [rs.getD 0 []] (rs.drop 1) rfl (by rw [List.length_drop, hd]) (by omega) (by omega) (by omega) (by rw [hsp]; exact hr) bA bB []
  rw [show d + 1 - 1 = d from rfl, arr_reord hd, hsp, List.append_nil, List.length_map] at hit
  obtain ⟨L, hL⟩ : ∃ L, L = ordR (d + 1) d [0] := ⟨_, rfl⟩
  obtain ⟨c, hc⟩ : ∃ c, c = costI k rs d := ⟨_, rfl⟩
  have hcq : ∀ i q, L[i]? = some q → c i = costO k rs q := fun i q hq => by rw [hc, costI, ← hL, List.getD_eq_getElem?_getD, hq]; rfl
  have hcr : ∀ i, i < L.length → 0 ≤ c i ∧ c i ≤ 1960000 := fun i hi => by
    obtain ⟨q, hq⟩ : ∃ q, L[i]? = some q := ⟨_, List.getElem?_eq_getElem hi⟩
    obtain ⟨a1, a2, a3⟩ := hat q (by rw [← hL]; exact List.mem_of_getElem? hq)
    rw [hcq i q hq]; exact cost_range (reord_even hE a1 a2 a3)
  rw [← hL] at hLp hat hit ⊢
  rw [← hc]
  rw [hd]
  have hvd : RdS w (.slice a (d + 1) cap) rs := by rw [← hd]; exact hv
  clear hv
  refine vw_rangeFuncC (ts := [22]) (own0 := [(b7, ⟨[.int .i64 9223372036854775807], 2, 1, none⟩), (b6, ⟨[.slice none 0 0], 108, 1, none⟩), (b1, ⟨[.int .i64 (k : Int), .slice a (d + 1) cap], 32, 2, none⟩)]) (cap := ArBR (.slice a (d + 1) cap) 1 bA bB) rfl ent158 hit
    (fun w' own' hg => RdFW.subL (RdFW.later (W := []) (by omega) (rdFW_rows hvd hr hd.symm) hg))
    List.perm_append_comm (by simp) (fun i w x W hK => by obtain ⟨_, _, rfl, _⟩ := hK; rfl) (fun i w x W W' hs hK => hK.sub hs)
    (fun q own => ∃ vb newB, BestP rs d c L q vb newB ∧ own = (newB ++ [(b7, ⟨[.int .i64 (lsP c q)], 2, 1, none⟩), (b6, ⟨[vb], 108, 1, none⟩), (b1, ⟨[.int .i64 (k : Int), .slice a (d + 1) cap], 32, 2, none⟩)]))
    (fun _ _ => False) ⟨_, [], .inl ⟨rfl, rfl, rfl⟩, rfl⟩ ?_ ?_ ?_
  · rintro l q x ownc w1 hq ⟨vb, newB, hB, rfl⟩ hg1 hK
    obtain ⟨o, ho⟩ : ∃ o, L[q]? = some o := ⟨_, List.getElem?_eq_getElem hq⟩
    have hgd : (L.map (reord rs)).getD q [] = reord rs o := by rw [List.getD_eq_getElem?_getD, List.getElem?_map, ho]; rfl
    have hgo : L.getD q [] = o := by rw [List.getD_eq_getElem?_getD, ho]; rfl
    rw [hgd] at hK
    obtain ⟨a', cap', rfl, hcap', hRd⟩ := hK
    obtain ⟨a1, a2, a3⟩ := hat o (List.mem_of_getElem? ho)
    have hER := reord_even hE a1 a2 a3
    have hq14 := reord14 (rs := rs) (q := o) hr a2
    have hrl : (reord rs o).length = d + 1 := by rw [reord_length, a1, hd]
    have hcost := hcq q o ho
    have hci := hcr q hq
    have hls0 : q = 0 → lsP c q = 9223372036854775807 := fun h => by rw [lsP, if_pos h]
    have hls1 : q ≠ 0 → lsP c q = c (bIdx c q) ∧ 0 ≤ lsP c q ∧ lsP c q ≤ 1960000 := fun h => by
      have hb := bIdx_lt c q (by omega)
      have := hcr (bIdx c q) (by omega)
      rw [lsP, if_neg h]; exact ⟨rfl, this⟩
    have hlr : 0 ≤ lsP c q ∧ lsP c q ≤ 9223372036854775807 := by
      by_cases h : q = 0
      · have := hls0 h; omega
      · have := (hls1 h).2; omega
    have hbs : bIdx c (q + 1) = if q = 0 then 0 else if c q < c (bIdx c q) then q else bIdx c q := rfl
    have hls2 : lsP c (q + 1) = c (bIdx c (q + 1)) := by rw [lsP, if_neg (by omega)]
    generalize hlsg : lsP c q = ls at *
    have hkey : c q < ls → bIdx c (q + 1) = q := fun h => by
      rw [hbs]
      by_cases h0 : q = 0
      · rw [if_pos h0, h0]
      · have := hls1 h0
        rw [if_neg h0, if_pos (by omega)]
    have hkeep : ¬ c q < ls → q ≠ 0 ∧ bIdx c (q + 1) = bIdx c q := fun h' => by
      have h0 : q ≠ 0 := fun h0 => by have := hls0 h0; omega
      have := hls1 h0
      exact ⟨h0, by rw [hbs, if_neg h0, if_neg (by omega)]⟩
    have hCost : ∀ w', Calls Try.prog 107 [mvM k (carN k (reord rs o) (reord rs o).length)].toArray w' (Res w' (Is (.int .i64 (c q)))) := by
      rw [hcost]; exact fun w' => c_costM k hk14 _ (carN_small hER) w'
    simp only [updL]
    repeat (first | refine vops_q tyOk rfl ?_ | refine vops_nil ?_ | refine vw_region (by kernel_rfl) ?_)
    intro w2 hg2 hg3
    have hRI := RdFWi.later (by omega) hRd hg3
    refine vw_block ?_
    repeat (first | refine vops_q tyOk rfl ?_ | refine vops_nil ?_ | refine vw_seq ?_ | refine vw_region (by kernel_rfl) ?_ | refine vw_cond rfl ?_ | (apply vops_callp ent106 rfl; (intro w' hg; exact c_carryIn k _ (reord rs o) hER w' (rdFW_S (RdFW.later (by omega) hRI hg) hq14 hrl.symm ⟨_, _, rfl⟩) hq14 (fun a m c h => by cases h; exact hcap'))) | (apply vops_callp ent107 rfl; (intro w' hg; exact hCost w')) | ((show VOps _ _ _ _ (⟨some _, Go.Op.load _ _, _, _, _, none⟩ :: _) _ _); refine vops_loadM tyOk rfl rfl rfl (by repeat (first | exact mem_here | apply mem_next | apply mem_past)) (by rfl) ?_) | refine vops_build2 rfl rfl (by kernel_rfl) ?_)
    refine bs_dec (fun hlt => ?_) (fun hlt => ?_)
    · repeat (first | refine vops_q tyOk rfl ?_ | refine vops_nil ?_ | refine vw_region (by kernel_rfl) ?_ | (apply vops_call ent108 rfl; (intro w' hg; exact c_cloneOR _ (d + 1) (reord rs o).flatten w' (rdFW_F (k := 14) (n := d + 1) (q := (reord rs o).flatten) (RdFW.later (by omega) hRI hg) (show (reord rs o).flatten.length = (d + 1) * 14 by rw [flat_length hq14, hrl]) ⟨_, _, rfl⟩) (by omega)); (intro _ newC hC; obtain ⟨pC, cC, rfl⟩ := SlAt.form hC)) | refine vops_storeM tyOk rfl rfl rfl rfl rfl (by repeat (first | exact upd_here | apply upd_next | apply upd_past)) (by simp) ?_)
      exact ⟨(newC ++ [(b7, ⟨[.int .i64 (c q)], 2, 1, none⟩), (b6, ⟨[.slice pC (d + 1) cC], 108, 1, none⟩), (b1, ⟨[.int .i64 (k : Int), .slice a (d + 1) cap], 32, 2, none⟩)]), (by repeat (first | exact ole_nil | exact ole_refl | (apply ole_cons; (repeat (first | exact pm1_here | apply pm1_next | apply pm1_past))) | (apply ole_app; (repeat (first | exact pm_here | exact pm_last | apply pm_next | apply pm_past))))), .slice pC (d + 1) cC, newC, .inr ⟨by omega, ⟨_, _, rfl⟩, by rw [hkey hlt, hgo]; exact hC⟩, by rw [hls2, hkey hlt]⟩
    · obtain ⟨h0, hk0⟩ := hkeep hlt
      repeat (first | refine vw_skip ?_)
      refine ⟨(newB ++ [(b7, ⟨[.int .i64 ls], 2, 1, none⟩), (b6, ⟨[vb], 108, 1, none⟩), (b1, ⟨[.int .i64 (k : Int), .slice a (d + 1) cap], 32, 2, none⟩)]), (by repeat (first | exact ole_nil | exact ole_refl | (apply ole_cons; (repeat (first | exact pm1_here | apply pm1_next | apply pm1_past))) | (apply ole_app; (repeat (first | exact pm_here | exact pm_last | apply pm_next | apply pm_past))))), vb, newB, ?_, by rw [hls2, hk0, (hls1 h0).1]⟩
      rcases hB with ⟨h, _⟩ | ⟨_, h2, h3⟩
      · exact absurd h h0
      · exact .inr ⟨by omega, h2, by rw [hk0]; exact h3⟩
  · rintro own' ⟨vb, newB, hB, rfl⟩
    rcases hB with ⟨h, _⟩ | ⟨_, ⟨pb, cb, rfl⟩, hN⟩
    · omega
    have hb := bIdx_lt c L.length hLp
    obtain ⟨o, ho⟩ : ∃ o, o = L.getD (bIdx c L.length) [] := ⟨_, rfl⟩
    have hom : o ∈ L := by rw [ho, List.getD_eq_getElem?_getD, List.getElem?_eq_getElem hb]; exact List.getElem_mem hb
    obtain ⟨a1, a2, a3⟩ := hat o hom
    have hrl : (reord rs o).length = d + 1 := by rw [reord_length, a1, hd]
    rw [← ho] at hN ⊢
    rw [lsP, if_neg (by omega), List.append_assoc]
    have hNR : NewR 50 14 (reord rs o) (.slice pb (d + 1) cb) newB := NewF.r (m := 0) hN hrl.symm rfl
    repeat (first | refine vw_seq ?_)
    refine vw_draw [0, 1, 3, 2, 4, 5, 6] (by kernel_rfl) (by kernel_rfl) (by kernel_rfl) rfl ?_
    repeat' (first | refine vd_q tyOk rfl (by first | trivial | rfl) rfl (by kernel_rfl) (by kernel_rfl) ?_ | refine vops_nil ?_ | refine vd_nil (by kernel_rfl) ?_ | refine ⟨fun _ _ _ h => List.mem_append_right _ h, ?_⟩ | refine vd_loadNM tyOk rfl (by first | trivial | rfl) rfl rfl rfl (by repeat (first | exact mem_here | apply mem_next | apply mem_past)) (by rfl) (by kernel_rfl) (by kernel_rfl) (by kernel_rfl) (by repeat (first | exact sub_hereL | exact sub_refl | apply sub_cons | apply sub_app)) ?_ | refine vd_load tyOk rfl (by first | trivial | rfl) rfl rfl rfl (by kernel_rfl) (by kernel_rfl) (by kernel_rfl) (sees_mem (by repeat (first | exact mem_here | apply mem_next | apply mem_past)) rfl) (by repeat (first | exact sub_hereL | exact sub_refl | apply sub_cons | apply sub_app)) ?_ | (apply vops_call ent109 rfl; (intro w' hg; exact c_placesOf (k : Int) _ _ rs o w' (hvd.same hg.fr) (NewR.see hNR (by repeat (first | exact sub_hereL | exact sub_refl | apply sub_cons | apply sub_app)) _ hg) hr (by omega) (by omega) a2 (fun i j r h1 h2 => first_inj hE h1 h2)); (intro _ newN hN; obtain ⟨pN, cN, rfl⟩ := SlAt.form hN)) | refine vd_one rfl (by kernel_rfl) (by kernel_rfl) rfl ?_)
    skip
    repeat (first | refine vw_ret ?_)
    exact trI_ok rfl rfl rfl rfl hN (by repeat (first | exact sub_hereL | exact sub_refl | apply sub_cons | apply sub_app)) rfl
  · rintro cc own' h
    exact h.elim
end Go.Proofs.Ytlfflmoegfibgaa

/- A part of the proof: CB7. No conditions of its own. -/
namespace Go.Proofs.Ytlfflmoegfibgaa
open Go.VL
attribute [local irreducible] VWr VOps VD Calls

def GoodO (m : Nat) (o : List Int) : Prop := BalO (m + 1) (carN (m + 1) (digRows (m + 1) o) (digRows (m + 1) o).length)
open Classical in
noncomputable def firstG (m : Nat) (ds : List (List Int)) : List Int × Int := match ds.find? (fun o => decide (GoodO m o)) with
  | some o => (o, 0)
  | none => ([], 4)
open Classical in
noncomputable def fdR (n : Int) : List Int × Int := if n = 2 ∨ n = 4 ∨ n = 8 then firstG (n.toNat - 1) (digs (n.toNat - 1)) else ([], 2)
open Classical in
theorem firstG_none {m : Nat} {ds : List (List Int)} (h : ∀ o ∈ ds, ¬ GoodO m o) : firstG m ds = ([], 4) := by
  have : ds.find? (fun o => decide (GoodO m o)) = none := List.find?_eq_none.2 fun o ho => by simpa using h o ho
  simp [firstG, this]
open Classical in
theorem firstG_some {m : Nat} {ds : List (List Int)} {i : Nat} {o : List Int} (hi : ds[i]? = some o) (h : ∀ o' ∈ ds.take i, ¬ GoodO m o') (hG : GoodO m o) : firstG m ds = (o, 0) := by
  have : ds.find? (fun o => decide (GoodO m o)) = some o := by
    obtain ⟨hlt, hx⟩ := List.getElem?_eq_some_iff.1 hi
    have e : ds = ds.take i ++ o :: ds.drop (i + 1) := by rw [← hx, List.getElem_cons_drop, List.take_append_drop]
    rw [e, List.find?_append]
    have hn : (ds.take i).find? (fun o => decide (GoodO m o)) = none := List.find?_eq_none.2 fun o ho => by simpa using h o ho
    rw [hn]
    simp [hG]
  simp [firstG, this]
theorem fdR_len (n : Int) : (fdR n).1.length ≤ 1048576 := by
  unfold fdR
  split
  · rename_i h
    unfold firstG
    split
    · rename_i o ho
      obtain ⟨m, hm⟩ : ∃ m, m + 1 = n.toNat := ⟨n.toNat - 1, by omega⟩
      have := (digs_ok (m := m) (by omega) (by have := List.mem_of_find?_eq_some ho; rwa [show n.toNat - 1 = m by omega] at this)).2
      show o.length ≤ _; omega
    · simp
  · simp
theorem incL_take {t : List Int} {k : Nat} (h : k < t.length) : (incL t).take (k + 1) = (incL t).take k ++ [t.getD k 0 + 1] := by
  rw [List.take_add_one]
  have : (incL t)[k]? = some (t.getD k 0 + 1) := by simp [incL, List.getElem?_eq_getElem h]
  rw [this]; rfl

open Classical in
set_option maxHeartbeats 4000000 in
set_option maxRecDepth 100000 in
theorem c_spec_FirstDigitOrder (n : Int) (w : World) : Calls Try.prog 68 [.int .i64 n].toArray w (Res w (PairI 2 (fdR n))) := by
  refine calls_of_vw Try.func68 rfl Try.ntmps68 (by simp) ?_
  by_cases h : n = 2 ∨ n = 4 ∨ n = 8
  rotate_left
  · repeat' (first | refine vops_q tyOk rfl ?_ | refine vops_nil ?_ | refine vw_seq ?_ | refine vw_region (by kernel_rfl) ?_ | refine vops_guardT rfl rfl ?_ | with_reducible refine bs_true ?_ | refine vw_cond rfl ?_ | refine vw_ret ?_ | (with_reducible refine bs_ndec (fun _ => ?_) (fun _ => ?_)) <;> try (exfalso; omega))
    all_goals (first | (exfalso; omega) | exact pairI_err rfl rfl rfl (by rw [fdR, if_neg h]))
  obtain ⟨m, rfl⟩ : ∃ m : Nat, n = ((m + 1 : Nat) : Int) := ⟨n.toNat - 1, by omega⟩
  have hm : m + 1 = 2 ∨ m + 1 = 4 ∨ m + 1 = 8 := by omega
  have hR : fdR ((m + 1 : Nat) : Int) = firstG m (digs m) := by rw [fdR, if_pos h, Int.toNat_natCast]; rfl
  rw [hR]
  clear hR
  have e1 : (((m + 1 : Nat) : Int) - 1) = (m : Int) := by omega
  have hL : (ordR m m []).length ≤ 2097152 := by
    refine Nat.le_trans (ordR_len m m []) ?_
    calc m ^ m ≤ 8 ^ m := Nat.pow_le_pow_left (by omega) m
      _ ≤ 8 ^ 7 := Nat.pow_le_pow_right (by omega) (by omega)
      _ = 2097152 := by decide
  repeat' (first | refine vops_q tyOk rfl ?_ | refine vops_nil ?_ | refine vw_seq ?_ | refine vw_region (by kernel_rfl) ?_ | refine vops_guardT rfl rfl ?_ | with_reducible refine bs_true ?_ | with_reducible refine bs_false ?_ | refine vops_p tyOk rfl (by (try simp only [inR]); omega) ?_ | refine vw_cond rfl ?_ | refine vw_skip ?_ | (with_reducible refine bs_ndec (fun _ => ?_) (fun _ => ?_)) <;> try (exfalso; omega))
  all_goals (first | (exfalso; omega) | skip)
  all_goals (
    refine vops_build0 tyOk rfl rfl (fun be hbe => ?_)
    rw [e1]
    refine vops_callM (own0 := [(be, ⟨[], 2, 0, none⟩)]) (S := NewLL 38 2 (ordR m m [])) ent111 rfl (by repeat (first | exact pm_here | exact pm_last | apply pm_next | apply pm_past)) (fun w' hg => ?_) ?_
    · exact c_l09Orders m (by omega) m [] (some ⟨be, 0, none⟩) 0 _ w' NewI.empty (by simpa using hg.ok) (by simp)
    rintro _ newS hS
    obtain ⟨p6, c6, rfl⟩ := hS.form
    repeat (first | refine vops_q tyOk rfl ?_ | refine vops_nil ?_ | refine vw_seq ?_ | refine vw_region (by kernel_rfl) ?_ | refine vw_block ?_)
    refine vw_loopW (fun y f own => ∃ i : Nat, i ≤ (ordR m m []).length ∧ y = (ordR m m []).length - i ∧ f 5 = .int .i64 i ∧ f 4 = .slice p6 (ordR m m []).length c6 ∧ f 0 = .int .i64 ((m + 1 : Nat) : Int) ∧ (∀ o ∈ (digs m).take i, ¬ GoodO m o) ∧ own = newS) (ordR m m []).length
      ⟨newS, ole_last (by repeat (first | exact pm_here | exact pm_last | apply pm_next | apply pm_past)), 0, by omega, by omega, rfl, rfl, rfl, by simp, rfl⟩ ?_
    rintro y f newS ⟨i, hi, rfl, h5, h4, h0, hno, rfl⟩
    rw [upd_of h5, upd_of h4, upd_of h0]
    repeat (first | refine vops_q tyOk rfl ?_ | refine vops_nil ?_ | refine vw_seq ?_ | refine vw_region (by kernel_rfl) ?_ | refine vw_cond rfl ?_)
    refine bs_dec (fun hlt => ?_) (fun hlt => ?_)
    · obtain ⟨t, ht⟩ : ∃ t, (ordR m m [])[i]? = some t := ⟨_, List.getElem?_eq_getElem (by omega)⟩
      have hdt : (digs m)[i]? = some (incL t) := by rw [digs, List.getElem?_map, ht]; rfl
      obtain ⟨hD, hlt2⟩ := digs_ok hm (List.mem_of_getElem? hdt)
      have hE := dig_even hD
      have htl : t.length = m := by simpa [incL] using hlt2
      obtain ⟨bo, co, u, nr, he, hNr, hsr, hcu⟩ := ll_at hS ht
      cases he
      obtain ⟨pu, cu, rfl⟩ := SlAt.form hNr
      repeat (first | refine vw_seq ?_ | refine vw_region (by kernel_rfl) ?_ | refine vw_skip ?_ | refine vw_block ?_)
      refine vops_build0 tyOk rfl rfl (fun b6 hb6 => ?_)
      repeat (first | refine vops_q tyOk rfl ?_ | refine vops_nil ?_ | refine vw_seq ?_ | refine vw_region (by kernel_rfl) ?_ | refine vw_block ?_)
      refine vw_loopW (fun y f own => ∃ (k : Nat) (p : Option Addr) (c : Nat) (X : Own), k ≤ m ∧ y = m - k ∧ f 7 = .int .i64 k ∧ f 6 = .slice p k c ∧ f 5 = .int .i64 i ∧ f 4 = .slice (some ⟨bo, 0, none⟩) (ordR m m []).length c6 ∧ f 0 = .int .i64 ((m + 1 : Nat) : Int) ∧ NewI 2 ((incL t).take k) (.slice p k c) X ∧ own = X ++ newS) m
        ⟨_, ole_refl, 0, some ⟨b6, 0, none⟩, 0, [(b6, ⟨[], 2, 0, none⟩)], by omega, by omega, rfl, rfl, rfl, rfl, rfl, NewI.empty, rfl⟩ ?_
      rintro y f own ⟨k, p, c, X, hk, rfl, h7, h6, h5, h4, h0, hX, rfl⟩
      rw [upd_of h7, upd_of h6, upd_of h5, upd_of h4, upd_of h0]
      have hti : ((incL t).take k).length = k := by rw [List.length_take]; simp only [incL, List.length_map]; omega
      repeat (first | refine vops_q tyOk rfl ?_ | refine vops_nil ?_ | refine vw_seq ?_ | refine vw_region (by kernel_rfl) ?_ | refine vops_p tyOk rfl (by (try simp only [inR]); omega) ?_ | refine vw_cond rfl ?_ | refine vops_load tyOk rfl rfl rfl (hcu _ _ (by repeat (first | exact sub_hereL | exact sub_refl | apply sub_cons | apply sub_app))) ?_)
      refine bs_dec (fun hlt3 => ?_) (fun hlt3 => ?_)
      · have hkt : k < t.length := by omega
        obtain ⟨b8, c8, he8, hc8⟩ := row_at hNr hkt
        cases he8
        have hsub : Go.VL.Sub nr (X ++ newS) := fun q hq => List.mem_append_right _ (hsr q hq)
        have hXf : NewF 2 1 k ((incL t).take k) (.slice p k c) X := by
          have := NewI.f hX
          rwa [hti] at this
        have hb8 : -1000 ≤ t.getD k 0 ∧ t.getD k 0 ≤ 1000 := by
          have : t.getD k 0 + 1 ∈ incL t := List.mem_map.2 ⟨_, mem_getD (l := t) (i := k) hkt, rfl⟩
          have := hD.2.2.1 _ this
          omega
        repeat (first | refine vops_q tyOk rfl ?_ | refine vops_nil ?_ | refine vw_seq ?_ | refine vw_region (by kernel_rfl) ?_ | refine vops_p tyOk rfl (by (try simp only [inR]); omega) ?_ | refine vw_skip ?_ | refine vw_block ?_ | refine vops_load tyOk rfl rfl rfl (hcu _ _ (by repeat (first | exact sub_hereL | exact sub_refl | apply sub_cons | apply sub_app))) ?_ | refine vops_load tyOk rfl rfl rfl (hc8 _ _ hsub) ?_ | refine vops_litI [_] tyOk rfl rfl (List.cons_ne_nil _ _) (by rfl) rfl (by omega) (by omega) (fun bt hbt => ?_) | refine vops_append1 (k := 1) tyOk rfl rfl (List.cons_ne_nil _ _) rfl rfl (by decide) rfl hXf (by repeat (first | exact pm_here | exact pm_last | apply pm_next | apply pm_past)) rfl (by repeat (first | exact mem_here | apply mem_next | apply mem_past)) rfl (by omega) (fun p' cap' new' hN' => ?_))
        refine ⟨m - (k + 1), by omega, new' ++ newS, ole_app pm_here (ole_last (by repeat (first | exact pm_here | exact pm_last | apply pm_next | apply pm_past))), k + 1, p', cap', new', by omega, rfl, rfl, rfl, rfl, rfl, rfl, ?_, rfl⟩
        rw [incL_take hkt]
        exact NewI.snoc hN' hti.symm
      · obtain rfl : k = m := by omega
        rw [List.take_of_length_le (by omega)] at hX
        repeat (first | refine vops_q tyOk rfl ?_ | refine vops_nil ?_ | refine vw_seq ?_ | refine vw_region (by kernel_rfl) ?_ | refine vw_cond rfl ?_ | refine vw_exit ?_ | (apply vops_call ent129 rfl; (intro w' hg; exact c_l09Robin (k + 1) (by omega) _ (incL t) w' (NewI.rdG hX (by repeat (first | exact sub_hereL | exact sub_refl | apply sub_cons | apply sub_app)) hg) (by omega) hD.lt); (rintro _ newN ⟨p9, c9, rfl, hS9⟩)) | (apply vops_call ent113 rfl; (intro w' hg; exact c_l09Matrix (k + 1) _ (digRows (k + 1) (incL t)) hE w' (NewR.see hS9 (by repeat (first | exact sub_hereL | exact sub_refl | apply sub_cons | apply sub_app)) _ hg) (digRows14 _ _)); (intro _ newM hM; obtain ⟨_, _, rfl⟩ := NewLL.form hM)) | (apply vops_callp ent119 rfl; (intro w' hg; exact c_l09Balanced (k + 1) (by omega) (carN (k + 1) (digRows (k + 1) (incL t)) (digRows (k + 1) (incL t)).length) _ w' (NewLL.rdG hM (by repeat (first | exact sub_hereL | exact sub_refl | apply sub_cons | apply sub_app)) hg))))
        refine bs_dec (fun hB => ?_) (fun hB => ?_)
        · repeat (first | refine vops_q tyOk rfl ?_ | refine vops_nil ?_ | refine vw_seq ?_ | refine vw_region (by kernel_rfl) ?_ | refine vw_ret ?_)
          exact pairI_ok rfl rfl rfl hX (by repeat (first | exact sub_hereL | exact sub_refl | apply sub_cons | apply sub_app)) (firstG_some hdt hno hB)
        · repeat (first | refine vops_q tyOk rfl ?_ | refine vops_nil ?_ | refine vw_region (by kernel_rfl) ?_ | refine vops_p tyOk rfl (by (try simp only [inR]); omega) ?_ | refine vw_skip ?_)
          refine ⟨(ordR k k []).length - (i + 1), by omega, newS, ole_last (by repeat (first | exact pm_here | exact pm_last | apply pm_next | apply pm_past)), i + 1, by omega, rfl, rfl, rfl, rfl, fun o ho => ?_, rfl⟩
          rw [List.take_add_one, hdt] at ho
          rcases List.mem_append.1 ho with ho | ho
          · exact hno o ho
          · simp at ho; subst ho; exact hB
    · obtain rfl : i = (ordR m m []).length := by omega
      have hall : ∀ o ∈ digs m, ¬ GoodO m o := by
        rwa [List.take_of_length_le (by simp [digs])] at hno
      repeat (first | refine vops_q tyOk rfl ?_ | refine vops_nil ?_ | refine vw_seq ?_ | refine vw_region (by kernel_rfl) ?_ | refine vw_ret ?_ | refine vw_exit ?_)
      exact pairI_err rfl rfl rfl (firstG_none hall)
  )
end Go.Proofs.Ytlfflmoegfibgaa

/- A part of the proof: CB8. No conditions of its own. -/
namespace Go.Proofs.Ytlfflmoegfibgaa
open Go.VL
attribute [local irreducible] VWr VOps VD Calls

theorem capR {e k n : Nat} {q : List Int} {v : Value} {new : Own} (h : NewF e k n q v new) : ∀ a m c, v = .slice a m c → m ≤ c := fun a m c hv => by
  rcases h.2 with ⟨h1, _, _⟩ | ⟨b, cap, h1, h2, _, _⟩
  · rw [h1] at hv; cases hv; omega
  · rw [h1] at hv; cases hv; exact h2
/-- A list and a code, both in cells. -/
theorem pairIC {P : Program} {T : Nat → Option TI} {Γ : Ctx} {nt : Nat} {f : Nat → Value} {own : Own} (hT : Go.VL.TyOk P T) {e p t q u b c : Nat} {ti ui : TI} {fn : Func} {v : Value} {l : List Int} {cd : Int} {r : List Int × Int} {new : Own} (h : fn.results = #[.cell p t, .cell q u]) (ht : T t = some ti) (hu : T u = some ui)
    (hpt : ti.plain = true) (hpu : ui.plain = true) (hp : f p = .pointer (some ⟨b, 0, none⟩)) (hq : f q = .pointer (some ⟨c, 0, none⟩)) (hv : Sees Γ own b 0 v) (hx : Sees Γ own c 0 (.int .i64 cd)) (hN : NewI e l v new) (hs : Go.VL.Sub new own) (hr : r = (l, cd)) : Out P Γ nt fn (PairI e r) .ret f own := by
  obtain ⟨p', cap, rfl⟩ := SlAt.form hN
  subst hr
  exact ⟨_, new, rv_cells hT h ht hu hpt hpu hp hq hv hx, SlAt.nodup hN, hs, p', cap, rfl, hN⟩
theorem lst_front (m : Nat) : lst (m + 1) (fun x => (x : Int)) = ([[0]] ++ ones1 (lst m fun x => (x : Int) + 1)).flatten := by
  have h : (ones1 (lst m fun x => (x : Int) + 1)).flatten = lst m fun x => (x : Int) + 1 := flat_ones _
  rw [List.flatten_append, h, lst, List.range_succ_eq_map, List.map_cons, List.map_map]; rfl
theorem sliced1 {b m c : Nat} (hc : m + 1 ≤ c) (hm : 0 < m) : sliced (some ⟨b, 0, none⟩) (Int.toNat 1) ((m + 1 : Nat) : Int).toNat c 1 = .slice (some ⟨b, 1, none⟩) m (c - 1) := by
  have : c ≠ 1 := by omega
  simp [sliced, this, Addr.add]

open Classical in
set_option maxHeartbeats 4000000 in
set_option maxRecDepth 100000 in
theorem c_impl_FirstDigitOrder (n : Int) (w : World) : Calls Try.prog 67 [.int .i64 n].toArray w (Res w (PairI 2 (fdR n))) := by
  refine calls_of_vw Try.func67 rfl Try.ntmps67 (by simp) ?_
  refine vw_seq (vw_region (by kernel_rfl) (vops_box [.int .i64 n] rfl (fun b1 hb1 => ?_)))
  repeat (first | refine vops_q tyOk rfl ?_ | refine vops_nil ?_ | refine vw_seq ?_ | refine vw_region (by kernel_rfl) ?_ | refine vw_cond rfl ?_ | refine vops_allocZ [.slice none 0 0] tyOk rfl rfl (by simp) (fun b2 hb2 => ?_) | refine vops_allocZ [.int .i64 0] tyOk rfl rfl (by simp) (fun b3 hb3 => ?_) | (apply vops_callp ent124 rfl; (intro w _; exact c_hasDigits _ w)) | ((show VOps _ _ _ _ (⟨some _, Go.Op.load _ _, _, _, _, none⟩ :: _) _ _); refine vops_loadM tyOk rfl rfl rfl (by repeat (first | exact mem_here | apply mem_next | apply mem_past)) (by rfl) ?_))
  refine bs_ndec2 (fun h => ?_) (fun h => ?_)
  · repeat (first | refine vops_nil ?_ | refine vw_seq ?_ | refine vw_region (by kernel_rfl) ?_ | refine vw_ret ?_ | ((show VOps _ _ _ _ (⟨none, Go.Op.store _ _ _, _, _, _, none⟩ :: _) _ _); refine vops_storeM tyOk rfl rfl rfl rfl rfl (by repeat (first | exact upd_here | apply upd_next | apply upd_past)) (by simp) ?_))
    exact pairIC (new := []) tyOk rfl rfl rfl rfl rfl rfl rfl (sees_mem (by repeat (first | exact mem_here | apply mem_next | apply mem_past)) rfl) (sees_mem (by repeat (first | exact mem_here | apply mem_next | apply mem_past)) rfl) NewI.nil (fun _ h => by cases h) (by rw [fdR, if_neg h])
  obtain ⟨m, rfl⟩ : ∃ m : Nat, n = ((m + 1 : Nat) : Int) := ⟨n.toNat - 1, by omega⟩
  have hm : m + 1 = 2 ∨ m + 1 = 4 ∨ m + 1 = 8 := by omega
  have hR : fdR ((m + 1 : Nat) : Int) = firstG m (digs m) := by rw [fdR, if_pos h, Int.toNat_natCast]; rfl
  rw [hR]
  clear hR
  repeat (first | refine vw_seq ?_ | refine vw_region (by kernel_rfl) ?_ | refine vw_skip ?_ | ((show VOps _ _ _ _ (⟨some _, Go.Op.load _ _, _, _, _, none⟩ :: _) _ _); refine vops_loadM tyOk rfl rfl rfl (by repeat (first | exact mem_here | apply mem_next | apply mem_past)) (by rfl) ?_))
  (apply vops_call ent131 rfl; (intro w' hg; exact c_numbersBelow (m + 1) (by omega) w'); (intro _ newN hN; obtain ⟨pN, cN, rfl⟩ := SlAt.form hN))
  obtain ⟨bN, rfl, rfl, hcap, _, _⟩ := NewF.blk hN (by omega)
  refine vops_sliceTo tyOk (.slice (some ⟨bN, 1, none⟩) m (cN - 1)) rfl rfl rfl rfl rfl (by omega) (sliced1 hcap (by omega)) ?_
  repeat (first | refine vops_nil ?_ | refine vw_block ?_ | (apply vops_call ent132 rfl; (intro w' hg; exact c_arrangementsI (some ⟨bN, 1, none⟩) m (cN - 1) 0 w'); (rintro _ newN ⟨bA, bB, rfl, rfl, hne⟩)))
  have hit := it_arrI (some ⟨bN, 1, none⟩) m (cN - 1) 0 [] (ones1 (lst m fun x => (x : Int) + 1)) rfl (by simp [ones1, lst_length]) (by omega) (by omega) (by omega) (fun r hr => by
    obtain ⟨x, _, rfl⟩ := List.mem_map.1 hr; rfl) bA bB [(bN, ⟨ints (lst (m + 1) fun x => (x : Int)), 2, cN * 1, none⟩)]
  rw [show m - 0 = m from rfl, arr_digs, List.nil_append] at hit
  have hlen : ((digs m).map ones1).length = (digs m).length := List.length_map _
  rw [hlen] at hit
  refine vw_rangeFuncC (ts := [12]) (own0 := [(b3, ⟨[.int .i64 0], 2, 1, none⟩), (b2, ⟨[.slice none 0 0], 38, 1, none⟩), (b1, ⟨[.int .i64 ((m + 1 : Nat) : Int)], 2, 1, none⟩)]) (cap := ArBI (.slice (some ⟨bN, 1, none⟩) m (cN - 1)) 0 bA bB ++ [(bN, ⟨ints (lst (m + 1) fun x => (x : Int)), 2, cN * 1, none⟩)]) rfl ent168 hit
    (fun w' own' hg => by
      have h1 := rdFW_new hg hN (fun p hp => List.mem_append_right _ hp)
      rw [lst_front] at h1
      have h2 := rdFW_drop (kept := 1) h1 rfl (by omega) hcap
      rw [show ((1 : Nat) : Int).toNat = Int.toNat 1 from rfl, sliced1 hcap (by omega)] at h2
      exact h2)
    (by first | exact List.perm_append_comm | (rw [← List.append_assoc]; exact List.perm_append_comm)) (by simp) (fun i w x W hK => by obtain ⟨_, _, rfl, _⟩ := hK; rfl) (fun i w x W W' hs hK => hK.sub hs)
    (fun q own => own = [(b3, ⟨[.int .i64 0], 2, 1, none⟩), (b2, ⟨[.slice none 0 0], 38, 1, none⟩), (b1, ⟨[.int .i64 ((m + 1 : Nat) : Int)], 2, 1, none⟩)] ∧ ∀ o ∈ (digs m).take q, ¬ GoodO m o)
    (fun c own => c = .ret ∧ ∃ (o : List Int) (pC : Option Addr) (cC : Nat) (newC : Own), o.length = m ∧ firstG m (digs m) = (o, 0) ∧ NewF 2 1 m o (.slice pC m cC) newC ∧ own = (newC ++ [(b3, ⟨[.int .i64 0], 2, 1, none⟩), (b2, ⟨[.slice pC m cC], 38, 1, none⟩), (b1, ⟨[.int .i64 ((m + 1 : Nat) : Int)], 2, 1, none⟩)])) ⟨rfl, by simp⟩ ?_ ?_ ?_
  · rintro l q x ownc w1 hq ⟨rfl, hno⟩ hg1 hK
    obtain ⟨o, ho⟩ : ∃ o, (digs m)[q]? = some o := ⟨_, List.getElem?_eq_getElem hq⟩
    have hgd : ((digs m).map ones1).getD q [] = ones1 o := by rw [List.getD_eq_getElem?_getD, List.getElem?_map, ho]; rfl
    rw [hgd] at hK
    obtain ⟨a', cap', rfl, _, hRd⟩ := hK
    rw [show (ones1 o).flatten = o from flat_ones o] at hRd
    obtain ⟨hD, hol⟩ := digs_ok hm (List.mem_of_getElem? ho)
    have hE := dig_even hD
    simp only [updL]
    repeat (first | refine vops_q tyOk rfl ?_ | refine vops_nil ?_ | refine vw_region (by kernel_rfl) ?_)
    intro w2 hg2 hg3
    have hRI := RdFWi.later (by omega) hRd hg3
    refine vw_block ?_
    repeat (first | refine vops_q tyOk rfl ?_ | refine vops_nil ?_ | refine vw_seq ?_ | refine vw_region (by kernel_rfl) ?_ | refine vw_cond rfl ?_ | (apply vops_call ent127 rfl; (intro w' hg; exact c_digitRobin (m + 1) (by omega) _ o w' (rdFW_II (RdFW.later (by omega) hRI hg) hol.symm ⟨_, _, rfl⟩) (by omega) hD.lt); (rintro _ newN ⟨p9, c9, rfl, hS9⟩)) | (apply vops_callp ent106 rfl; (intro w' hg; exact c_carryIn (m + 1) _ (digRows (m + 1) o) hE w' (NewR.see hS9 (by repeat (first | exact sub_hereL | exact sub_refl | apply sub_cons | apply sub_app)) _ hg) (digRows14 _ _) (capR hS9))) | (apply vops_callp ent118 rfl; (intro w' hg; exact c_isBalanced (m + 1) (by omega) (carN (m + 1) (digRows (m + 1) o) (digRows (m + 1) o).length) w')) | ((show VOps _ _ _ _ (⟨some _, Go.Op.load _ _, _, _, _, none⟩ :: _) _ _); refine vops_loadM tyOk rfl rfl rfl (by repeat (first | exact mem_here | apply mem_next | apply mem_past)) (by rfl) ?_))
    have hiff : (matN ((m + 1 : Nat) : Int) 14 14 (carN (m + 1) (digRows (m + 1) o) (digRows (m + 1) o).length) = matN ((m + 1 : Nat) : Int) 14 14 (balP (m + 1) (m + 1) 0)) ↔ GoodO m o := (bal_iff (by omega) fun a b hab => carN_out hE.1 hab _ (Nat.le_refl _)).trans (bal_off hE)
    refine bs_dec (fun hB => ?_) (fun hB => ?_)
    · repeat (first | refine vops_q tyOk rfl ?_ | refine vops_nil ?_ | refine vw_seq ?_ | refine vw_region (by kernel_rfl) ?_ | refine vw_ret ?_ | (apply vops_call ent133 rfl; (intro w' hg; exact c_cloneOI _ m o w' (rdFW_F (k := 1) (n := m) (q := o) (RdFW.later (by omega) hRI hg) (show o.length = m * 1 by omega) ⟨_, _, rfl⟩) (by omega)); (intro _ newC hC; obtain ⟨pC, cC, rfl⟩ := SlAt.form hC)) | refine vops_storeM tyOk rfl rfl rfl rfl rfl (by repeat (first | exact upd_here | apply upd_next | apply upd_past)) (by simp) ?_)
      exact ⟨(newC ++ [(b3, ⟨[.int .i64 0], 2, 1, none⟩), (b2, ⟨[.slice pC m cC], 38, 1, none⟩), (b1, ⟨[.int .i64 ((m + 1 : Nat) : Int)], 2, 1, none⟩)]), (by repeat (first | exact ole_nil | exact ole_refl | (apply ole_cons; (repeat (first | exact pm1_here | apply pm1_next | apply pm1_past))) | (apply ole_app; (repeat (first | exact pm_here | exact pm_last | apply pm_next | apply pm_past))))), rfl, o, pC, cC, newC, hol, firstG_some ho hno (hiff.1 hB), hC, rfl⟩
    · repeat (first | refine vw_skip ?_)
      refine ⟨[(b3, ⟨[.int .i64 0], 2, 1, none⟩), (b2, ⟨[.slice none 0 0], 38, 1, none⟩), (b1, ⟨[.int .i64 ((m + 1 : Nat) : Int)], 2, 1, none⟩)], (by repeat (first | exact ole_nil | exact ole_refl | (apply ole_cons; (repeat (first | exact pm1_here | apply pm1_next | apply pm1_past))) | (apply ole_app; (repeat (first | exact pm_here | exact pm_last | apply pm_next | apply pm_past))))), rfl, fun o' ho' => ?_⟩
      rw [List.take_add_one, ho] at ho'
      rcases List.mem_append.1 ho' with ho' | ho'
      · exact hno o' ho'
      · simp at ho'; subst ho'; exact fun hG => hB (hiff.2 hG)
  · rintro own' ⟨rfl, hno⟩
    rw [List.take_length] at hno
    repeat (first | refine vops_nil ?_ | refine vw_seq ?_ | refine vw_region (by kernel_rfl) ?_ | refine vw_ret ?_ | ((show VOps _ _ _ _ (⟨none, Go.Op.store _ _ _, _, _, _, none⟩ :: _) _ _); refine vops_storeM tyOk rfl rfl rfl rfl rfl (by repeat (first | exact upd_here | apply upd_next | apply upd_past)) (by simp) ?_))
    exact pairIC (new := []) tyOk rfl rfl rfl rfl rfl rfl rfl (sees_mem (by repeat (first | exact mem_here | apply mem_next | apply mem_past)) rfl) (sees_mem (by repeat (first | exact mem_here | apply mem_next | apply mem_past)) rfl) NewI.nil (fun _ h => by cases h) (firstG_none hno)
  · rintro c own' ⟨rfl, o, pC, cC, newC, hol, hF, hC, rfl⟩
    rw [List.append_assoc]
    repeat (first | refine vw_ret ?_)
    have hC' : NewI 2 o (.slice pC m cC) newC := by
      subst hol; exact hC
    exact pairIC (new := newC) tyOk rfl rfl rfl rfl rfl rfl rfl (sees_mem (by repeat (first | exact mem_here | apply mem_next | apply mem_past)) rfl) (sees_mem (by repeat (first | exact mem_here | apply mem_next | apply mem_past)) rfl) hC' (by repeat (first | exact sub_hereL | exact sub_refl | apply sub_cons | apply sub_app)) hF
end Go.Proofs.Ytlfflmoegfibgaa

/- A part of the proof: CMC. No conditions of its own. -/
namespace Go.Proofs.Ytlfflmoegfibgaa
open Go.VL
attribute [local irreducible] VWr VOps VD Calls

theorem ordTo_ext (n d : Nat) (l : List Int) {k m : Nat} (h : k ≤ m) : ∃ t, ordTo n d l m = ordTo n d l k ++ t := by
  obtain ⟨j, rfl⟩ : ∃ j, m = k + j := ⟨m - k, by omega⟩
  clear h
  induction j with
  | zero => exact ⟨[], by simp⟩
  | succ j ih =>
    obtain ⟨t, ht⟩ := ih
    exact ⟨t ++ _, by rw [show k + (j + 1) = k + j + 1 by omega, ordTo_succ, ht, List.append_assoc]⟩
abbrev idL (p : Nat) : List Int := lst p fun x => (x : Int)
theorem idL_mem {p x : Nat} (h : x < p) : (x : Int) ∈ idL p := List.mem_map.2 ⟨x, List.mem_range.2 h, rfl⟩
theorem idL_not {p : Nat} : ¬ (p : Int) ∈ idL p := fun h => by
  obtain ⟨y, hy, e⟩ := List.mem_map.1 h
  have := List.mem_range.1 hy
  omega
theorem idL_succ (p : Nat) : idL (p + 1) = idL p ++ [(p : Int)] := by simp [lst, List.range_succ]
theorem ordTo_nil {n d p : Nat} : ∀ k, k ≤ p → ordTo n d (idL p) k = []
  | 0, _ => rfl
  | k + 1, h => by rw [ordTo_succ, ordTo_nil k (by omega), if_pos (idL_mem (by omega))]; rfl
theorem ord_first (n : Nat) : ∀ d p, p + d = n → ∃ t, ordR n d (idL p) = idL n :: t
  | 0, p, h => ⟨[], by rw [show p = n by omega]; rfl⟩
  | d + 1, p, h => by
    obtain ⟨t, ht⟩ := ord_first n d (p + 1) (by omega)
    obtain ⟨u, hu⟩ := ordTo_ext n d (idL p) (k := p + 1) (m := n) (by omega)
    rw [ordR_succ, hu, ordTo_succ, ordTo_nil p (Nat.le_refl _), if_neg idL_not, ← idL_succ, ht]
    exact ⟨t ++ u, rfl⟩
theorem ord_zero (d : Nat) : (ordR (d + 1) d [0]).getD 0 [] = idL (d + 1) := by
  obtain ⟨t, ht⟩ := ord_first (d + 1) d 1 (by omega)
  rw [show ([0] : List Int) = idL 1 from rfl, ht]; rfl
theorem reord_id {rs : List (List Int)} : reord rs (idL rs.length) = rs := by
  unfold reord idL lst
  rw [List.map_map]
  apply List.ext_getElem (by simp)
  intro i h1 h2
  simp [h2]
theorem bIdx_min (c : Nat → Int) : ∀ i, 0 < i → ∀ j, j < i → c (bIdx c i) ≤ c j
  | 1, _, j, hj => by
    obtain rfl : j = 0 := by omega
    simp [bIdx]
  | i + 2, _, j, hj => by
    have ih := bIdx_min c (i + 1) (by omega)
    rw [bIdx, if_neg (by omega)]
    by_cases h : c (i + 1) < c (bIdx c (i + 1))
    · rw [if_pos h]
      by_cases hji : j = i + 1
      · subst hji; exact Int.le_refl _
      · have := ih j (by omega); omega
    · rw [if_neg h]
      by_cases hji : j = i + 1
      · subst hji; omega
      · exact ih j (by omega)
/-- What a best order is. -/
theorem best_ok {k : Nat} {rs : List (List Int)} {q : List Int} {least : Int} (h : boR k rs = (q, least, 0)) :
    codeE k rs = 0 ∧ rs.length ≤ 7 ∧ q.length = rs.length ∧ (∀ x ∈ q, 0 ≤ x ∧ x < rs.length) ∧ q.Nodup ∧ least = costO k rs q ∧ least ≤ sum2 k k (sqA (carN k rs rs.length)) := by
  unfold boR at h
  by_cases h1 : codeE k rs = 0
  rotate_left
  · rw [if_neg h1] at h
    simp only [Prod.mk.injEq] at h
    exact absurd h.2.2 h1
  rw [if_pos h1] at h
  by_cases h2 : rs.length ≤ 7
  rotate_left
  · rw [if_neg h2] at h
    simp only [Prod.mk.injEq] at h
    omega
  rw [if_pos h2, Int.toNat_natCast] at h
  have hE := codeE_zero.1 h1
  have hl := hE.len.2.2
  have hk2 := hE.len.1
  obtain ⟨d, hd⟩ : ∃ d, rs.length = d + 1 := ⟨rs.length - 1, by omega⟩
  rw [show rs.length - 1 = d by omega] at h
  have hpos := ord_pos d
  have hlt := bIdx_lt (costI k rs d) (ordR (d + 1) d [0]).length hpos
  have hmin := bIdx_min (costI k rs d) (ordR (d + 1) d [0]).length hpos 0 hpos
  generalize bIdx (costI k rs d) (ordR (d + 1) d [0]).length = z at *
  simp only [Prod.mk.injEq] at h
  obtain ⟨hq, hle, _⟩ := h
  have hqm : q ∈ ordR (d + 1) d [0] := by
    rw [← hq, List.getD_eq_getElem?_getD, List.getElem?_eq_getElem hlt]
    exact List.getElem_mem hlt
  obtain ⟨g1, g2, g3⟩ := ord_at hqm
  refine ⟨h1, h2, by omega, fun x hx => by have := g2 x hx; omega, g3, ?_, ?_⟩
  · rw [← hle, ← hq]; rfl
  · rw [← hle]
    refine Int.le_trans hmin (Int.le_of_eq ?_)
    unfold costI costO
    rw [ord_zero, ← hd, reord_id]

theorem car_col {k : Nat} {rs : List (List Int)} (h : IsSch k rs) {y : Nat} (hy : y < k) : ∀ i, i ≤ rs.length → sumTo (fun x => carN k rs i x y) k = i
  | 0, _ => sumTo_zero fun _ _ => rfl
  | i + 1, hi => by
    have e : sumTo (fun x => carN k rs (i + 1) x y) k = sumTo (fun x => carN k rs i x y) k + sumTo (fun x => if x < k ∧ nxR rs i x = (y : Int) then 1 else 0) k := by
      rw [← sumTo_add]; rfl
    have hr := (sch_get h (i := i) (by omega)).2
    have hn := (sch_get h (i := (i + 1) % rs.length) (Nat.mod_lt _ (by omega))).2
    have a1 := rd_at hn hy
    have hnx : ∀ x, nxR rs i x = (rs.getD ((i + 1) % rs.length) []).getD ((rs.getD i []).getD x 0).toNat 0 := fun x => rfl
    generalize rs.getD i [] = r at *
    generalize rs.getD ((i + 1) % rs.length) [] = q at *
    obtain ⟨z, hz⟩ : ∃ z : Nat, q.getD y 0 = (z : Int) := ⟨(q.getD y 0).toNat, by omega⟩
    rw [hz] at a1
    have a2 := rd_at hr (x := z) (by omega)
    obtain ⟨x0, hx0⟩ : ∃ x0 : Nat, r.getD z 0 = (x0 : Int) := ⟨(r.getD z 0).toNat, by omega⟩
    rw [hx0] at a2
    simp only [Int.toNat_natCast] at a1 a2
    rw [e, car_col h hy i (by omega), sumTo_one (a := x0) (c := 1) (by omega) (if_pos ⟨by omega, by rw [hnx, a2.2.2, Int.toNat_natCast]; exact a1.2.2⟩) fun x hx hne => if_neg fun h2 => hne ?_]
    · push_cast; rfl
    · have b1 := rd_at hr hx
      have h3 := h2.2
      rw [hnx] at h3
      obtain ⟨u, hu⟩ : ∃ u : Nat, r.getD x 0 = (u : Int) := ⟨(r.getD x 0).toNat, by omega⟩
      rw [hu] at b1 h3
      simp only [Int.toNat_natCast] at b1 h3
      have b2 := rd_at hn (x := u) (by omega)
      rw [h3, Int.toNat_natCast, hz] at b2
      have : u = z := by omega
      subst this
      omega
end Go.Proofs.Ytlfflmoegfibgaa

/- A part of the proof: RC3h. No conditions of its own. -/
namespace Go.Proofs.Ytlfflmoegfibgaa
open Go.VL
attribute [local irreducible] VWr VOps VD Calls

theorem tiC {P : Program} {fn : Nat} {args : Array Value} {w : World} {e : Nat} {r : List Int × Int × Int} {l : List Int} {b c : Int} (h : Calls P fn args w (Res w (TrI e r))) (hr : r = (l, b, c)) :
    Calls P fn args w (Res w (fun v new => ∃ p cap, v = .tuple #[.slice p l.length cap, .int .i64 b, .int .i64 c] ∧ NewI e l (.slice p l.length cap) new)) := by
  subst hr; exact h
set_option maxHeartbeats 2000000 in
set_option maxRecDepth 100000 in
theorem c_schedules5 (n : Int) (v u : Value) (rs : List (List Int)) (w : World) (hv : RdS w v rs) (hu : RdS w u rs) (hr : ∀ r ∈ rs, r.length = 14) (hl : rs.length ≤ 1048576) :
    Calls Try.prog 64 [.agg #[.int .i64 n, v], .agg #[.int .i64 n, u]].toArray w (Res w (Is (.bool true))) := by
  obtain ⟨a, cap, rfl⟩ := hv.len
  obtain ⟨a2, cap2, rfl⟩ := hu.len
  refine calls_of_vw Try.func64 rfl Try.ntmps64 (by simp) ?_
  refine vw_seq (vw_region (by kernel_rfl) (vops_box [.int .i64 n, .slice a rs.length cap] rfl (fun b2 hb2 => ?_)))
  refine vops_box [.int .i64 n, .slice a2 rs.length cap2] rfl (fun b3 hb3 => ?_)
  repeat (first | refine vops_q tyOk rfl ?_ | refine vops_nil ?_ | refine vw_seq ?_ | refine vw_region (by kernel_rfl) ?_ | refine vops_guardF rfl rfl ?_ | ((show VOps _ _ _ _ (⟨some _, Go.Op.load _ _, _, _, _, none⟩ :: _) _ _); refine vops_loadM tyOk rfl rfl rfl (by repeat (first | exact mem_here | apply mem_next | apply mem_past)) (by rfl) ?_))
  refine bs_ndec2 (fun h => absurd rfl h) (fun _ => ?_)
  repeat (first | refine vops_q tyOk rfl ?_ | refine vops_nil ?_ | refine vops_guardF rfl rfl ?_ | with_reducible refine bs_false ?_ | refine vw_cond rfl ?_ | ((show VOps _ _ _ _ (⟨some _, Go.Op.load _ _, _, _, _, none⟩ :: _) _ _); refine vops_loadM tyOk rfl rfl rfl (by repeat (first | exact mem_here | apply mem_next | apply mem_past)) (by rfl) ?_))
  refine bs_ndec2 (fun h => absurd rfl h) (fun _ => ?_)
  repeat (first | refine vops_q tyOk rfl ?_ | refine vops_nil ?_ | refine vw_seq ?_ | refine vw_region (by kernel_rfl) ?_ | refine vw_skip ?_ | refine vw_block ?_)
  refine vw_loop (fun m f own => ∃ i : Nat, i ≤ rs.length ∧ m = rs.length - i ∧ f 5 = .int .i64 i ∧ f 2 = .pointer (some ⟨b2, 0, none⟩) ∧ f 3 = .pointer (some ⟨b3, 0, none⟩) ∧ own = [(b3, ⟨[.int .i64 n, .slice a2 rs.length cap2], 32, 2, none⟩), (b2, ⟨[.int .i64 n, .slice a rs.length cap], 32, 2, none⟩)]) rs.length
    ⟨0, by omega, by omega, rfl, rfl, rfl, rfl⟩ ?_
  rintro m f own ⟨i, hi, rfl, h5, h2, h3, rfl⟩
  rw [upd_of h5, upd_of h2, upd_of h3]
  repeat (first | refine vops_q tyOk rfl ?_ | refine vops_nil ?_ | refine vw_seq ?_ | refine vw_region (by kernel_rfl) ?_ | refine vw_cond rfl ?_ | ((show VOps _ _ _ _ (⟨some _, Go.Op.load _ _, _, _, _, none⟩ :: _) _ _); refine vops_loadM tyOk rfl rfl rfl (by repeat (first | exact mem_here | apply mem_next | apply mem_past)) (by rfl) ?_))
  refine bs_dec (fun h4 => ?_) (fun h4 => ?_)
  · obtain ⟨r, hri⟩ : ∃ r, rs[i]? = some r := ⟨_, List.getElem?_eq_getElem (by omega)⟩
    have hrl := hr r (List.mem_of_getElem? hri)
    obtain ⟨b, o, cap', he, hrow⟩ := hv.row hr hri
    cases he
    obtain ⟨b', o', cap'', he, hrow'⟩ := hu.row hr hri
    cases he
    repeat (first | refine vw_seq ?_ | refine vw_skip ?_ | refine vw_block ?_)
    refine vw_draw [0, 1, 2, 3, 4, 5, 6, 7, 8, 9, 10] (by kernel_rfl) (by kernel_rfl) (by kernel_rfl) rfl ?_
    repeat' (first | refine vd_q tyOk rfl (by first | trivial | rfl) rfl (by kernel_rfl) (by kernel_rfl) ?_ | refine vd_p tyOk rfl (by first | trivial | rfl) rfl (by kernel_rfl) (by kernel_rfl) (by (try simp only [inR]); omega) ?_ | refine vops_nil ?_ | refine vd_nil (by kernel_rfl) ?_ | refine ⟨fun _ _ _ h => h, ?_⟩ | refine vd_load tyOk rfl (by first | trivial | rfl) rfl rfl rfl (by kernel_rfl) (by kernel_rfl) (by kernel_rfl) (sees_mem (by repeat (first | exact mem_here | apply mem_next | apply mem_past)) (by rfl)) (by repeat (first | exact sub_hereL | exact sub_refl | apply sub_cons | apply sub_app)) ?_ | refine vd_loadN tyOk (ints (r)) rfl (by first | trivial | rfl) rfl rfl rfl (by simp [ints_length, *]) (by kernel_rfl) (by kernel_rfl) (by kernel_rfl) (fun j x hx => sees_old (hrow j x hx) (by simp)) (by first | exact sub_refl | exact sub_cons sub_refl | exact sub_app sub_refl) ?_ | refine vd_loadN tyOk (ints (r)) rfl (by first | trivial | rfl) rfl rfl rfl (by simp [ints_length, *]) (by kernel_rfl) (by kernel_rfl) (by kernel_rfl) (fun j x hx => sees_old (hrow' j x hx) (by simp)) (by first | exact sub_refl | exact sub_cons sub_refl | exact sub_app sub_refl) ?_ | refine vops_neA tyOk rfl rfl rfl rfl rfl rfl (by omega) (by omega) ?_ | refine vd_one rfl (by kernel_rfl) (by kernel_rfl) rfl ?_)
    repeat (first | refine vw_cond rfl ?_)
    refine bs_ndec2 (fun h => absurd rfl h) (fun _ => ?_)
    repeat (first | refine vops_q tyOk rfl ?_ | refine vops_nil ?_ | refine vw_region (by kernel_rfl) ?_ | refine vops_p tyOk rfl (by (try simp only [inR]); omega) ?_ | refine vw_skip ?_)
    exact ⟨rs.length - (i + 1), by omega, i + 1, by omega, rfl, rfl, rfl, rfl, rfl⟩
  · repeat (first | refine vops_q tyOk rfl ?_ | refine vops_nil ?_ | refine vw_seq ?_ | refine vw_region (by kernel_rfl) ?_ | refine vw_ret ?_ | refine vw_exit ?_)
    exact rv_bool rfl rfl rfl
set_option maxHeartbeats 2000000 in
set_option maxRecDepth 100000 in
theorem c_sumL (k : Nat) (h : Nat → Int) (hk : k ≤ 14) (hb : ∀ i, i < k → 0 ≤ h i ∧ h i ≤ 100) (v : Value) (w : World) (hv : RdI w v (lst k h)) : Calls Try.prog 60 [v].toArray w (Res w (Is (.int .i64 (sumTo h k)))) := by
  obtain ⟨a, cap, rfl⟩ := hv.len
  have hlen := lst_length k h
  rw [hlen] at hv ⊢
  refine calls_of_vw Try.func60 rfl Try.ntmps60 (by simp) ?_
  repeat (first | refine vops_q tyOk rfl ?_ | refine vops_nil ?_ | refine vw_seq ?_ | refine vw_region (by kernel_rfl) ?_ | refine vw_block ?_)
  refine vw_loop (fun m f own => ∃ i : Nat, i ≤ k ∧ m = k - i ∧ f 4 = .int .i64 i ∧ f 3 = .int .i64 (sumTo h i) ∧ f 0 = .slice a k cap ∧ own = []) k
    ⟨0, by omega, by omega, rfl, rfl, rfl, rfl⟩ ?_
  rintro m f own ⟨i, hi, rfl, h4, h3, h0, rfl⟩
  rw [upd_of h4, upd_of h3, upd_of h0]
  repeat (first | refine vops_q tyOk rfl ?_ | refine vops_nil ?_ | refine vw_seq ?_ | refine vw_region (by kernel_rfl) ?_ | refine vw_cond rfl ?_)
  refine bs_dec (fun hlt => ?_) (fun hlt => ?_)
  · have hik : i < k := by omega
    obtain ⟨b3, o3, cap4, he, hcell⟩ := hv.at (i := i) (by omega)
    have he2 : Value.slice a k cap = .slice (some ⟨b3, o3, none⟩) k cap4 := by rw [he, hlen]
    cases he2
    have hc := hcell i (by omega)
    rw [lst_getD hik] at hc
    have h1 := hb i hik
    have h2 := sumTo_nonneg (f := h) (k := i) fun j hj => (hb j (by omega)).1
    have h3 := sumTo_le (f := h) (c := 100) (k := i) fun j hj => (hb j (by omega)).2
    repeat (first | refine vops_q tyOk rfl ?_ | refine vops_nil ?_ | refine vw_seq ?_ | refine vw_region (by kernel_rfl) ?_ | refine vops_p tyOk rfl (by (try simp only [inR]); omega) ?_ | refine vw_skip ?_ | refine vw_block ?_ | refine vops_load tyOk rfl rfl rfl (sees_old hc (by simp)) ?_)
    exact ⟨k - (i + 1), by omega, i + 1, by omega, rfl, rfl, rfl, rfl, rfl⟩
  · obtain rfl : i = k := by omega
    repeat (first | refine vops_q tyOk rfl ?_ | refine vops_nil ?_ | refine vw_seq ?_ | refine vw_region (by kernel_rfl) ?_ | refine vw_ret ?_ | refine vw_exit ?_)
    exact rv_int rfl rfl rfl
end Go.Proofs.Ytlfflmoegfibgaa

/- A part of the proof: RC4h. No conditions of its own. -/
namespace Go.Proofs.Ytlfflmoegfibgaa
open Go.VL
attribute [local irreducible] VWr VOps VD Calls

theorem psC {P : Program} {fn : Nat} {args : Array Value} {w : World} {e : Nat} {r : (Int × List (List Int)) × Int} {n : Int} {rs : List (List Int)} {c : Int} (h : Calls P fn args w (Res w (PairS e r))) (hr : r = ((n, rs), c)) :
    Calls P fn args w (Res w (fun v new => ∃ p cap, v = .tuple #[.agg #[.int .i64 n, .slice p rs.length cap], .int .i64 c] ∧ NewR e 14 rs (.slice p rs.length cap) new)) := by
  subst hr; exact h
theorem boR_nat {m : Int} {rs : List (List Int)} {q : List Int} {least : Int} (h : boR m rs = (q, least, 0)) : ∃ k : Nat, m = (k : Int) := by
  unfold boR at h
  by_cases h1 : codeE m rs = 0
  · have := (codeE_zero.1 h1).1.1
    exact ⟨m.toNat, by omega⟩
  · rw [if_neg h1] at h
    simp only [Prod.mk.injEq] at h
    exact absurd h.2.2 h1
theorem costR_even {k : Nat} {rs : List (List Int)} (h : EvenR k rs) : costR k rs = (sum2 k k (sqA (carN k rs rs.length)), 0) := by
  unfold costR
  rw [if_pos (codeE_zero.2 h), Int.toNat_natCast]
theorem bal_cost {k : Nat} {rs : List (List Int)} (h : EvenR k rs) (hb : BalO k (carN k rs rs.length)) : sum2 k k (sqA (carN k rs rs.length)) = (k : Int) * ((k : Int) - 1) := by
  have hB := (bal_off h).2 hb
  rw [← sum2_bal]
  refine sum2_congr fun a b ha hb' => ?_
  show carN k rs rs.length a b * carN k rs rs.length a b = _
  rw [hB a b ha hb']
  split <;> rfl
open Classical in
theorem carry_all {m : Int} {rs : List (List Int)} {ls : List (List Int)} (h : carryR m rs = (ls, 0)) : ∃ (k : Nat) (g : Nat → Nat → Int), m = (k : Int) ∧ 2 ≤ k ∧ k ≤ 14 ∧ ls = tabOf k g ∧ (∀ a b, 0 ≤ g a b ∧ g a b ≤ 13) ∧
    (∀ x, x < k → sumTo (g x) k = (k : Int) - 1) ∧ (∀ y, y < k → sumTo (fun x => g x y) k = (k : Int) - 1) ∧ costR m rs = (sum2 k k (sqA g), 0) ∧ ∀ bl bc, balR m rs = (bl, bc) → bl = true → sum2 k k (sqA g) = (k : Int) * ((k : Int) - 1) := by
  unfold carryR at h
  by_cases h1 : codeE m rs = 0
  rotate_left
  · rw [if_neg h1] at h
    simp only [Prod.mk.injEq] at h
    exact absurd h.2 h1
  rw [if_pos h1] at h
  have hE := codeE_zero.1 h1
  have h2 := hE.1.1
  obtain ⟨k, rfl⟩ : ∃ k : Nat, m = (k : Int) := ⟨m.toNat, by omega⟩
  simp only [Int.toNat_natCast, Prod.mk.injEq] at h
  have hl := hE.len
  refine ⟨k, carN k rs rs.length, rfl, hl.1, hl.2.1, h.1.symm, fun a b => ?_, fun x hx => ?_, fun y hy => ?_, costR_even hE, fun bl bc hB hb => bal_cost hE ?_⟩
  · have := carN_le k rs a b rs.length; omega
  · rw [sum_carN hE.1 hx _ (Nat.le_refl _)]; omega
  · rw [car_col hE.1 hy _ (Nat.le_refl _)]; omega
  · unfold balR at hB
    rw [if_pos h1] at hB
    simp only [Int.toNat_natCast, Prod.mk.injEq] at hB
    exact of_decide_eq_true (hB.1.trans hb)
/-- A row of a list of lists of one's own, wherever it lies, read whole. -/
theorem newLL_rowI {eo ei : Nat} {ls : List (List Int)} {v : Value} {new : Own} (h : NewLL eo ei ls v new) {i : Nat} {l : List Int} (hi : ls[i]? = some l) (h0 : 0 < l.length) :
    ∃ b cap br cr, v = .slice (some ⟨b, 0, none⟩) ls.length cap ∧ (∀ {Γ : Ctx} {own : Own}, Sub new own → Sees Γ own b (0 + i) (.slice (some ⟨br, 0, none⟩) l.length cr)) ∧ (∀ {Γ : Ctx} {own : Own}, Sub new own → ∀ j, j < l.length → Sees Γ own br (0 + j) (.int .i64 (l.getD j 0))) ∧
      ∀ {Γ : Ctx} {own : Own} {w : World}, Sub new own → Go.VL.Good Γ own w → RdI w (.slice (some ⟨br, 0, none⟩) l.length cr) l := by
  obtain ⟨vs, ns, outer, hR, hO, rfl⟩ := h
  obtain ⟨p, cap, rfl⟩ := hO.form
  have hlt := (List.getElem?_eq_some_iff.1 hi).1
  obtain ⟨bo, rfl, rfl⟩ := outer_blk hO (by omega)
  obtain ⟨u, hu⟩ : ∃ u, vs[i]? = some u := ⟨_, List.getElem?_eq_getElem (by rw [hR.len.1]; exact hlt)⟩
  obtain ⟨n, hn, hsn⟩ := hR.get hu hi
  obtain ⟨p2, cr, rfl⟩ := SlAt.form hn
  obtain ⟨br, rfl, rfl, h1, h2, h3⟩ := NewF.blk (NewI.f hn) h0
  refine ⟨bo, cap, br, cr, rfl, fun hs => sees_mem (hs _ (List.mem_append_left _ List.mem_cons_self)) (by rw [Nat.zero_add]; exact hu), fun hs j hj => sees_mem (hs _ (List.mem_append_right _ (hsn _ List.mem_cons_self))) (by rw [Nat.zero_add]; exact ints_get hj), fun hs hg => ?_⟩
  exact NewI.rdG hn (fun x hx => hs x (List.mem_append_right _ (hsn x hx))) hg
theorem sq13 {x : Int} (h : 0 ≤ x ∧ x ≤ 13) : 0 ≤ x * x ∧ x * x ≤ 169 :=
  ⟨Int.mul_nonneg h.1 h.1, Int.le_trans (Int.mul_le_mul h.2 h.2 h.1 (by omega)) (by omega)⟩
open Classical in
theorem fd_zero {n : Int} {l : List Int} (h : fdR n = (l, 0)) : ∃ m : Nat, n = ((m + 1 : Nat) : Int) ∧ IsDig n l ∧ GoodO m l := by
  unfold fdR at h
  by_cases h1 : n = 2 ∨ n = 4 ∨ n = 8
  rotate_left
  · rw [if_neg h1] at h
    simp only [Prod.mk.injEq] at h
    omega
  rw [if_pos h1] at h
  refine ⟨n.toNat - 1, by omega, ?_⟩
  unfold firstG at h
  cases hf : (digs (n.toNat - 1)).find? (fun o => decide (GoodO (n.toNat - 1) o)) with
  | none => rw [hf] at h; simp only [Prod.mk.injEq] at h; omega
  | some o =>
    rw [hf] at h
    simp only [Prod.mk.injEq] at h
    obtain ⟨rfl, _⟩ := h
    have h2 := List.find?_some hf
    have h3 := digs_ok (m := n.toNat - 1) (by omega) (List.mem_of_find?_eq_some hf)
    have e : ((n.toNat - 1 + 1 : Nat) : Int) = n := by omega
    rw [e] at h3
    exact ⟨h3.1, of_decide_eq_true h2⟩

end Go.Proofs.Ytlfflmoegfibgaa

