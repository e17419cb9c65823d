import Derived.Test.YtlfflmoegfibgaaTA6
import Derived.Test.YtlfflmoegfibgaaVLA
/- A part of the proof: TA7. No conditions of its own. -/
namespace Go.Proofs.Ytlfflmoegfibgaa
open Go.VL
attribute [local irreducible] VWr VOps VD Calls

/-- How often a team is told. -/
def cntO (a : Nat) : List (List Int) → Nat
  | [] => 0
  | o :: os => (if o.getD 1 0 = (a : Int) then 1 else 0) + cntO a os
theorem cntO_append (a : Nat) : ∀ (x y : List (List Int)), cntO a (x ++ y) = cntO a x + cntO a y
  | [], y => by simp [cntO]
  | o :: x, y => by simp only [List.cons_append, cntO, cntO_append a x y]; omega
def cntP (a : Nat) : List (List Int) → Nat
  | [] => 0
  | p :: ps => (if p.getD 0 0 = (a : Int) then 1 else 0) + (if p.getD 1 0 = (a : Int) then 1 else 0) + cntP a ps
theorem cntP_append (a : Nat) : ∀ (x y : List (List Int)), cntP a (x ++ y) = cntP a x + cntP a y
  | [], y => by simp [cntP]
  | o :: x, y => by simp only [List.cons_append, cntP, cntP_append a x y]; omega
theorem cntP_pairs {n : Nat} {r : List Int} (h : IsRd n r) (a : Nat) : ∀ k, k ≤ n → cntP a (pairsTo r k) = (if a < k ∧ (a : Int) < r.getD a 0 then 1 else 0) + if (r.getD a 0 < (k : Int) ∧ r.getD a 0 < (a : Int) ∧ a < n) then 1 else 0
  | 0, _ => by
    rw [show pairsTo r 0 = [] from rfl]
    by_cases ha : a < n
    · have := rd_at h ha
      rw [if_neg (by omega), if_neg (by omega)]; rfl
    · rw [if_neg (by omega), if_neg (by omega)]; rfl
  | k + 1, hk => by
    have ih := cntP_pairs h a k (by omega)
    have hkn := rd_at h (x := k) (by omega)
    by_cases hp : (k : Int) < r.getD k 0
    · rw [pairsTo_yes hp, cntP_append, ih]
      show _ + ((if (k : Int) = (a : Int) then 1 else 0) + (if r.getD k 0 = (a : Int) then 1 else 0) + 0) = _
      by_cases h1 : k = a
      · subst h1
        rw [if_neg (by omega), if_neg (by omega), if_pos rfl, if_neg (by omega), if_pos ⟨by omega, hp⟩, if_neg (by omega)]
      · rw [if_neg (show ¬ (k : Int) = (a : Int) by omega)]
        by_cases h2 : r.getD k 0 = (a : Int)
        · have e : r.getD a 0 = (k : Int) := by have := hkn.2.2; rwa [h2, Int.toNat_natCast] at this
          rw [e, if_pos h2, if_neg (by omega), if_neg (by omega), if_neg (by omega), if_pos (by omega)]
        · have e : r.getD a 0 = (k : Int) → ¬ a < n := fun e ha => by
            have := (rd_at h ha).2.2
            rw [e, Int.toNat_natCast] at this; exact h2 this
          rw [if_neg h2]
          have h3 : (a < k + 1 ∧ (a : Int) < r.getD a 0) ↔ (a < k ∧ (a : Int) < r.getD a 0) := by omega
          have h4 : (r.getD a 0 < ((k + 1 : Nat) : Int) ∧ r.getD a 0 < (a : Int) ∧ a < n) ↔ (r.getD a 0 < (k : Int) ∧ r.getD a 0 < (a : Int) ∧ a < n) := by
            constructor
            · rintro ⟨q1, q2, q3⟩
              exact ⟨by by_cases hh : r.getD a 0 = (k : Int); exact absurd q3 (e hh); omega, q2, q3⟩
            · rintro ⟨q1, q2, q3⟩; exact ⟨by omega, q2, q3⟩
          simp only [h3, h4]; omega
    · rw [pairsTo_no hp, ih]
      have h3 : (a < k + 1 ∧ (a : Int) < r.getD a 0) ↔ (a < k ∧ (a : Int) < r.getD a 0) := by
        constructor
        · rintro ⟨q1, q2⟩
          refine ⟨?_, q2⟩
          by_cases hh : a = k
          · subst hh; omega
          · omega
        · rintro ⟨q1, q2⟩; exact ⟨by omega, q2⟩
      have h4 : (r.getD a 0 < ((k + 1 : Nat) : Int) ∧ r.getD a 0 < (a : Int) ∧ a < n) ↔ (r.getD a 0 < (k : Int) ∧ r.getD a 0 < (a : Int) ∧ a < n) := by
        constructor
        · rintro ⟨q1, q2, q3⟩
          refine ⟨?_, q2, q3⟩
          by_cases hh : r.getD a 0 = (k : Int)
          · have := (rd_at h q3).2.2
            rw [hh, Int.toNat_natCast] at this
            omega
          · omega
        · rintro ⟨q1, q2, q3⟩; exact ⟨by omega, q2, q3⟩
      simp only [h3, h4]
theorem cntO_row (a i : Nat) (P : List (List Int)) (l : List Int) : ∀ q, q ≤ P.length → cntO a (outRow i P l q) = cntP a (P.take q)
  | 0, _ => rfl
  | q + 1, hq => by
    obtain ⟨p, hp⟩ : ∃ p, P[q]? = some p := ⟨_, List.getElem?_eq_getElem (by omega)⟩
    have e : P.getD q [] = p := by rw [List.getD_eq_getElem?_getD, hp]; rfl
    rw [List.take_add_one, hp, show outRow i P l (q + 1) = outRow i P l q ++ outOne i ((P.getD q []).getD 0 0) ((P.getD q []).getD 1 0) (plI (l.getD q 0)) from rfl, e, cntO_append, cntO_row a i P l q (by omega)]
    show _ = cntP a (P.take q ++ [p])
    rw [cntP_append]
    congr 1
theorem cntO_one {n : Nat} {r : List Int} (h : IsRd n r) (a i : Nat) (l : List Int) : cntO a (outRow i (pairsTo r n) l (pairsTo r n).length) ≤ 1 := by
  rw [cntO_row a i _ _ _ (Nat.le_refl _), List.take_length, cntP_pairs h a n (Nat.le_refl _)]
  by_cases h1 : (a : Int) < r.getD a 0
  · rw [if_neg (show ¬ (_ ∧ _ ∧ _) by omega)]; split <;> omega
  · rw [if_neg (show ¬ (_ ∧ _) by omega)]; split <;> omega
/-- The points of a in the round that comes to the place t, the last ones told. -/
def lastP (a t : Nat) (acc : Int) : List (List Int) → Int
  | [] => acc
  | o :: os => lastP a t (if o.getD 1 0 = (a : Int) ∧ o.getD 0 0 + 1 = (t : Int) then o.getD 3 0 else acc) os
theorem lastP_append (a t : Nat) : ∀ (x y : List (List Int)) (acc : Int), lastP a t acc (x ++ y) = lastP a t (lastP a t acc x) y
  | [], _, _ => rfl
  | _ :: x, y, _ => lastP_append a t x y _
theorem lastP_other {a t : Nat} : ∀ {L : List (List Int)} {acc : Int}, (∀ o ∈ L, o.getD 1 0 = (a : Int) → o.getD 0 0 + 1 ≠ (t : Int)) → lastP a t acc L = acc
  | [], acc, _ => rfl
  | o :: L, acc, h => by
    show lastP a t (if _ then _ else _) L = acc
    rw [if_neg fun hh => h o List.mem_cons_self hh.1 hh.2]
    exact lastP_other fun q hq => h q (List.mem_cons_of_mem _ hq)
theorem cntO_zero {a : Nat} : ∀ {L : List (List Int)}, cntO a L = 0 → (∀ o ∈ L, o.getD 1 0 ≠ (a : Int)) ∧ sumT a L = 0
  | [], _ => ⟨fun _ h => (by cases h), rfl⟩
  | o :: L, h => by
    simp only [cntO] at h
    by_cases h1 : o.getD 1 0 = (a : Int)
    · rw [if_pos h1] at h; omega
    · rw [if_neg h1] at h
      have ih := cntO_zero (a := a) (L := L) (by omega)
      refine ⟨fun q hq => ?_, by simp only [sumT, if_neg h1, ih.2]; rfl⟩
      rcases List.mem_cons.1 hq with rfl | hq
      · exact h1
      · exact ih.1 q hq
theorem lastP_one {a t : Nat} : ∀ {L : List (List Int)}, cntO a L ≤ 1 → (∀ o ∈ L, o.getD 0 0 + 1 = (t : Int)) → lastP a t 0 L = sumT a L
  | [], _, _ => rfl
  | o :: L, hc, hr => by
    simp only [cntO] at hc
    have h0 := hr o List.mem_cons_self
    show lastP a t (if _ then _ else _) L = _
    by_cases h1 : o.getD 1 0 = (a : Int)
    · rw [if_pos h1] at hc
      have hz := cntO_zero (a := a) (L := L) (by omega)
      rw [if_pos ⟨h1, h0⟩, lastP_other fun q hq e => absurd e (hz.1 q hq)]
      simp only [sumT, if_pos h1, hz.2]; omega
    · rw [if_neg fun hh => h1 hh.1, lastP_one (by rw [if_neg h1] at hc; omega) fun q hq => hr q (List.mem_cons_of_mem _ hq)]
      simp only [sumT, if_neg h1]; omega
theorem outRow_round {k i : Nat} {P : List (List Int)} {l : List Int} : ∀ q, ∀ o ∈ outRow i P l q, o.getD 0 0 = (i : Int)
  | 0, o, h => by cases h
  | q + 1, o, h => by
    rcases List.mem_append.1 h with h | h
    · exact outRow_round (k := k) q o h
    · rcases List.mem_cons.1 h with rfl | h
      · rfl
      · rw [List.mem_singleton.1 h]; rfl
/-- What a round gives to a team. -/
def incT (a k : Nat) (rs xs : List (List Int)) (i : Nat) : Int := sumT a (outRow i (pairsTo (rs.getD i []) k) (xs.getD i []) (pairsTo (rs.getD i []) k).length)
theorem sumT_to (a k : Nat) (rs xs : List (List Int)) (i : Nat) : sumT a (outTo k rs xs (i + 1)) = sumT a (outTo k rs xs i) + incT a k rs xs i := sumT_append a _ _
theorem lastP_to {k a : Nat} {rs xs : List (List Int)} (hS : IsSch k rs) {i : Nat} : ∀ m, m ≤ rs.length → lastP a (i + 1) 0 (outTo k rs xs m) = if i < m then incT a k rs xs i else 0
  | 0, _ => rfl
  | m + 1, hm => by
    show lastP a (i + 1) 0 (outTo k rs xs m ++ outRow m _ _ _) = _
    rw [lastP_append, lastP_to hS m (by omega)]
    by_cases h1 : i < m
    · rw [if_pos h1, if_pos (by omega)]
      refine lastP_other fun o ho _ => ?_
      rw [outRow_round (k := k) _ o ho]; omega
    · rw [if_neg h1]
      by_cases h2 : i = m
      · subst h2
        rw [if_pos (by omega)]
        refine lastP_one (cntO_one (sch_get hS (by omega)).2 a i _) fun o ho => ?_
        rw [outRow_round (k := k) _ o ho]; omega
      · rw [if_neg (by omega)]
        refine lastP_other fun o ho _ => ?_
        rw [outRow_round (k := k) _ o ho]; omega
noncomputable def pbrR (n : Int) (rs xs : List (List Int)) (x : Int) : List Int × Int := by
  classical exact if rsC n rs xs (0 ≤ x ∧ x < n) = 0 then (lst (xs.length + 1) fun t => sumT x.toNat (outTo n.toNat rs xs t), 0) else ([], rsC n rs xs (0 ≤ x ∧ x < n))
theorem pbrR_err {n : Int} {rs xs : List (List Int)} {x c : Int} (h : rsC n rs xs (0 ≤ x ∧ x < n) = c) (hc : c ≠ 0) : pbrR n rs xs x = ([], c) := by
  unfold pbrR; rw [if_neg (by rw [h]; exact hc), h]
theorem pbrR_ok {n : Int} {rs xs : List (List Int)} {x : Int} (h : rsC n rs xs (0 ≤ x ∧ x < n) = 0) : pbrR n rs xs x = (lst (xs.length + 1) fun t => sumT x.toNat (outTo n.toNat rs xs t), 0) := by
  unfold pbrR; rw [if_pos h]
theorem pbrR_len (n : Int) (rs xs : List (List Int)) (x : Int) : (pbrR n rs xs x).1.length ≤ 1048576 := by
  by_cases h : rsC n rs xs (0 ≤ x ∧ x < n) = 0
  · obtain ⟨hS, _, hI⟩ := rsC_zero h
    rw [pbrR_ok h]
    have h1 := hI.1
    have h2 := hS.2.2.1
    show (lst _ _).length ≤ _
    rw [lst_length]; omega
  · rw [pbrR_err rfl h]; simp

open Classical in
set_option maxHeartbeats 4000000 in
set_option maxRecDepth 100000 in
theorem c_spec_PointsByRound (n x : Int) (v u : Value) (rs xs : List (List Int)) (w : World) (hv : RdS w v rs) (hu : RdII w u xs) (hr : ∀ r ∈ rs, r.length = 14) (hl : rs.length ≤ 1048576) (hl2 : xs.length ≤ 1048576) (hll : ∀ l ∈ xs, l.length ≤ 1048576) :
    Calls Try.prog 37 [.agg #[.int .i64 n, v], u, .int .i64 x].toArray w (Res w (PairI 2 (pbrR n rs xs x))) := by
  obtain ⟨a, cap, rfl⟩ := hv.len
  obtain ⟨a2, cap2, rfl⟩ := hu.len
  refine calls_of_vw Try.func37 rfl Try.ntmps37 (by simp) ?_
  refine vw_seq (vw_region (by kernel_rfl) (vops_box [.int .i64 n, .slice a rs.length cap] rfl (fun b4 hb4 => ?_)))
  have hTw : (∀ t ∈ [x], 0 ≤ t ∧ t < n) = (0 ≤ x ∧ x < n) := by simp
  have hC : ∀ (w' : World) (b1 : Nat), RdS w' (.slice a rs.length cap) rs → RdII w' (.slice a2 xs.length cap2) xs → RdI w' (.slice (some ⟨b1, 0, none⟩) 1 1) [x] → Calls Try.prog 78 [.agg #[.int .i64 n, .slice a rs.length cap], .slice a2 xs.length cap2, .slice (some ⟨b1, 0, none⟩) 1 1].toArray w' (Res w' (Is (.int .i64 (rsC n rs xs (0 ≤ x ∧ x < n))))) := fun w' b1 h1 h2 h3 => hTw ▸ c_l10Code n _ _ _ rs xs [x] w' h1 h2 h3 hr hl hl2 hll (by simp)
  have hEr := fun (h : rsC n rs xs (0 ≤ x ∧ x < n) ≠ 0) => pbrR_err (rfl : rsC n rs xs (0 ≤ x ∧ x < n) = rsC n rs xs (0 ≤ x ∧ x < n)) h
  have hOk := fun (h : rsC n rs xs (0 ≤ x ∧ x < n) = 0) => And.intro (rsC_zero h) (pbrR_ok h)
  generalize rsC n rs xs (0 ≤ x ∧ x < n) = c at *
  repeat (first | refine vops_q tyOk rfl ?_ | refine vops_nil ?_ | refine vw_seq ?_ | refine vw_region (by kernel_rfl) ?_ | refine vw_cond rfl ?_ | refine vops_litI [_] tyOk rfl rfl (List.cons_ne_nil _ _) (by rfl) rfl (by omega) (by omega) (fun b1 hb1 => ?_) | (apply vops_callp ent78 rfl; (intro w' hg; exact hC w' _ (hv.same hg.fr) (hu.same hg.fr) (rdI_lit (l := [x]) List.mem_cons_self hg rfl))) | ((show VOps _ _ _ _ (⟨some _, Go.Op.load _ _, _, _, _, none⟩ :: _) _ _); refine vops_loadNM tyOk rfl rfl rfl (by repeat (first | exact mem_here | apply mem_next | apply mem_past)) (by first | rfl | (rw [ints_length]; first | assumption | omega | (rw [ints_length]; first | assumption | omega | simp [*])) | simp [*]) ?_))
  refine bs_ndec2 (fun hne => ?_) (fun h0 => ?_)
  · repeat (first | refine vops_q tyOk rfl ?_ | refine vops_nil ?_ | refine vw_seq ?_ | refine vw_region (by kernel_rfl) ?_ | refine vw_ret ?_)
    exact pairI_err rfl rfl rfl (hEr hne)
  obtain ⟨⟨hS, hTT, hI⟩, hR⟩ := hOk h0
  have hn := hS.1
  have hn14 := hS.2.1
  have hl40 := hS.2.2.1
  have hxl := hI.1
  obtain ⟨k, rfl⟩ : ∃ k : Nat, n = (k : Int) := ⟨n.toNat, by omega⟩
  obtain ⟨t, rfl⟩ : ∃ t : Nat, x = (t : Int) := ⟨x.toNat, by omega⟩
  rw [Int.toNat_natCast, Int.toNat_natCast] at hR
  repeat (first | refine vops_q tyOk rfl ?_ | refine vops_nil ?_ | refine vw_seq ?_ | refine vw_region (by kernel_rfl) ?_ | refine vw_skip ?_ | refine vw_block ?_ | refine vops_build0 tyOk rfl rfl (fun be hbe => ?_))
  refine vw_loopW (fun m f own => ∃ (i : Nat) (p : Option Addr) (c : Nat) (newO : Own), i ≤ xs.length + 1 ∧ m = xs.length + 1 - i ∧ f 10 = .int .i64 i ∧ f 9 = .slice p i c ∧ f 1 = .slice a2 xs.length cap2 ∧ f 2 = .int .i64 t ∧ f 3 = .pointer (some ⟨b4, 0, none⟩) ∧
      NewF 2 1 i (lst i fun j => sumT t (outTo k rs xs j)) (.slice p i c) newO ∧
      own = newO ++ [(b4, ⟨[.int .i64 k, .slice a rs.length cap], 32, 2, none⟩)]) (xs.length + 1)
    ⟨[(be, _)] ++ [(b4, _)], (by repeat (first | exact ole_nil | exact ole_refl | (apply ole_cons; (repeat (first | exact pm1_here | apply pm1_next | apply pm1_past))) | (apply ole_app; (repeat (first | exact pm_here | exact pm_last | apply pm_next | apply pm_past))))), 0, some ⟨be, 0, none⟩, 0, [(be, _)], by omega, by omega, rfl, rfl, rfl, rfl, rfl, NewF.empty, rfl⟩ ?_
  rintro m f own ⟨i, p, c, newO, hi, rfl, h10, h9, h1, h2, h3, hN, rfl⟩
  rw [upd_of h10, upd_of h9, upd_of h1, upd_of h2, upd_of h3]
  repeat (first | refine vops_q tyOk rfl ?_ | refine vops_nil ?_ | refine vw_seq ?_ | refine vw_region (by kernel_rfl) ?_ | refine vw_cond rfl ?_)
  refine bs_dec (fun hlt => ?_) (fun hlt => ?_)
  · have htk : t < k := by omega
    have hst : lst (i + 1) (fun j => sumT t (outTo k rs xs j)) = (lst i fun j => sumT t (outTo k rs xs j)) ++ [sumT t (outTo k rs xs i)] := by
      unfold lst; rw [List.range_succ, List.map_append]; rfl
    have htab : (tabT k (outTo k rs xs i))[t]? = some (sumT t (outTo k rs xs i)) := lst_get htk
    have htl := tabT_length k (outTo k rs xs i)
    generalize sumT t (outTo k rs xs i) = z at *
    generalize hQ : tabT k (outTo k rs xs i) = Q at *
    have hcall : ∀ w', Fr [] w w' → Calls Try.prog 79 [.agg #[.int .i64 k, .slice a rs.length cap], .slice a2 xs.length cap2, .int .i64 i].toArray w' (Res w' (NewI 2 Q)) := fun w' hf => hQ ▸ c_l10Points k i _ _ rs xs hS hI (by omega) w' (hv.same hf) (hu.same hf) hr hl2
    repeat (first | refine vops_q tyOk rfl ?_ | refine vw_seq ?_ | refine vw_region (by kernel_rfl) ?_ | refine vops_p tyOk rfl (by (try simp only [inR]); omega) ?_ | refine vw_skip ?_ | refine vw_block ?_ | (apply vops_call ent79 rfl; (intro w' hg; exact hcall w' hg.fr); (intro _ newQ hNQ; obtain ⟨pq, cq, rfl⟩ := SlAt.form hNQ; rw [htl]; obtain ⟨bq, rfl, rfl, _⟩ := NewF.blk (htl ▸ NewI.f hNQ) (by omega))) | ((show VOps _ _ _ _ (⟨some _, Go.Op.load _ _, _, _, _, none⟩ :: _) _ _); first | refine vops_loadM tyOk rfl rfl rfl (by repeat (first | exact mem_here | apply mem_next | apply mem_past)) (by exact ints_get0 (by omega)) ?_ | refine vops_loadNM tyOk rfl rfl rfl (by repeat (first | exact mem_here | apply mem_next | apply mem_past)) (by first | rfl | (rw [ints_length]; first | assumption | omega | (rw [ints_length]; first | assumption | omega | simp [*])) | simp [*]) ?_))
    repeat (first | refine vops_q tyOk rfl ?_ | refine vops_nil ?_ | refine vw_region (by kernel_rfl) ?_ | refine vops_p tyOk rfl (by (try simp only [inR]); omega) ?_ | refine vops_litI [_] tyOk rfl rfl (List.cons_ne_nil _ _) (by rfl) rfl (by omega) (by omega) (fun bt hbt => ?_) | refine vops_append1 (k := 1) tyOk rfl rfl (List.cons_ne_nil _ _) rfl rfl (by decide) rfl hN (by repeat (first | exact pm_here | exact pm_last | apply pm_next | apply pm_past)) rfl (by repeat (first | exact mem_here | apply mem_next | apply mem_past)) rfl (by omega) (fun p' cap' new' hN' => ?_))
    rw [show Q.getD (t : Int).toNat 0 = z by rw [Int.toNat_natCast, List.getD_eq_getElem?_getD, htab]; rfl] at hN'
    exact ⟨xs.length + 1 - (i + 1), by omega, new' ++ [(b4, ⟨[.int .i64 k, .slice a rs.length cap], 32, 2, none⟩)], (by repeat (first | exact ole_nil | exact ole_refl | (apply ole_cons; (repeat (first | exact pm1_here | apply pm1_next | apply pm1_past))) | (apply ole_app; (repeat (first | exact pm_here | exact pm_last | apply pm_next | apply pm_past))))), i + 1, p', cap', new', by omega, rfl, rfl, rfl, rfl, rfl, rfl, by rw [hst]; exact hN', rfl⟩
  · obtain rfl : i = xs.length + 1 := by omega
    repeat (first | refine vops_q tyOk rfl ?_ | refine vops_nil ?_ | refine vw_seq ?_ | refine vw_region (by kernel_rfl) ?_ | refine vw_ret ?_ | refine vw_exit ?_)
    exact pairI_ok rfl rfl rfl (by have e := lst_length (xs.length + 1) fun j => sumT t (outTo k rs xs j); unfold NewI; rw [e]; exact hN) (by repeat (first | exact sub_hereL | exact sub_refl | apply sub_cons | apply sub_app)) hR
end Go.Proofs.Ytlfflmoegfibgaa
