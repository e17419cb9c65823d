import Derived.Test.YtlnohlomanapeaaCI
import Derived.Test.YtlnohlomanapeaaVLOrd
import Derived.Test.YtlnohlomanapeaaVLA
/- A part of the proof: CB3. No conditions of its own. -/
namespace Go.Proofs.Ytlnohlomanapeaa
open Go.VL
attribute [local irreducible] VWr VOps VD Calls

/-- The steps of a list, modulo n. -/
def stN (n : Nat) (t : List Int) (m : Nat) : List Int := (List.range m).map fun k => (t.getD (k + 1) 0 - t.getD k 0 + n) % n
theorem stN_length (n : Nat) (t : List Int) (m : Nat) : (stN n t m).length = m := by simp [stN]
theorem stN_get {n : Nat} {t : List Int} {m k : Nat} (h : k < m) : (stN n t m).getD k 0 = (t.getD (k + 1) 0 - t.getD k 0 + n) % n := by
  simp [stN, List.getD_eq_getElem?_getD, h]
def StN (n : Nat) (t : List Int) : Prop := (stN n t (t.length - 1)).Nodup
theorem stN_steps {t : List Int} : StN t.length t ↔ Steps t := Iff.rfl
theorem stN_pre {n : Nat} {l u : List Int} (h : StN n (l ++ u)) : StN n l := by
  unfold StN at h ⊢
  have e : stN n l (l.length - 1) = (stN n (l ++ u) ((l ++ u).length - 1)).take (l.length - 1) := by
    simp only [stN]
    rw [← List.map_take, List.take_range, Nat.min_eq_left (by rw [List.length_append]; omega)]
    refine List.map_congr_left fun k hk => ?_
    have hk := List.mem_range.1 hk
    simp only [List.getD_eq_getElem?_getD]
    rw [List.getElem?_append_left (by omega), List.getElem?_append_left (by omega)]
  rw [e]
  exact List.Pairwise.sublist (List.take_sublist _ _) h
open Classical in
/-- How many step sequences begin with l, with d more numbers. -/
noncomputable def cntR (n : Nat) : Nat → List Int → Nat
  | 0, _ => 1
  | d + 1, l => ((List.range n).map fun x : Nat => if (x : Int) ∉ l ∧ StN n (l ++ [(x : Int)]) then cntR n d (l ++ [(x : Int)]) else 0).sum
open Classical in
noncomputable def cntTo (n d : Nat) (l : List Int) (k : Nat) : Nat := ((List.range k).map fun x : Nat => if (x : Int) ∉ l ∧ StN n (l ++ [(x : Int)]) then cntR n d (l ++ [(x : Int)]) else 0).sum
open Classical in
theorem cntTo_succ (n d : Nat) (l : List Int) (k : Nat) : cntTo n d l (k + 1) = cntTo n d l k + (if (k : Int) ∉ l ∧ StN n (l ++ [(k : Int)]) then cntR n d (l ++ [(k : Int)]) else 0) := by
  simp [cntTo, List.range_succ]
theorem cntTo_le {n d m : Nat} (h : ∀ l, cntR n d l ≤ m) (l : List Int) : ∀ k, cntTo n d l k ≤ k * m
  | 0 => Nat.zero_le _
  | k + 1 => by
    have := cntTo_le h l k
    rw [cntTo_succ, Nat.add_mul, Nat.one_mul]
    split
    · have := h (l ++ [(k : Int)]); omega
    · omega
theorem cntR_le (n : Nat) : ∀ (d : Nat) (l : List Int), cntR n d l ≤ n ^ d
  | 0, _ => Nat.le_refl _
  | d + 1, l => by
    have := cntTo_le (cntR_le n d) l n
    rw [Nat.pow_succ, Nat.mul_comm]; exact this
open Classical in
theorem cntR_eq (n : Nat) : ∀ (d : Nat) (l : List Int), StN n l → cntR n d l = (ordR n d l).countP fun t => decide (StN n t)
  | 0, l, h => by simp [cntR, ordR, h]
  | d + 1, l, h => by
    rw [cntR, ordR]
    generalize List.range n = L
    induction L with
    | nil => rfl
    | cons x L ihL =>
      rw [List.map_cons, List.sum_cons, List.flatMap_cons, List.countP_append, ihL]
      congr 1
      by_cases hx : (x : Int) ∈ l
      · simp [hx]
      · by_cases hS : StN n (l ++ [(x : Int)])
        · rw [if_pos ⟨hx, hS⟩, if_neg hx]; exact cntR_eq n d _ hS
        · rw [if_neg (fun h => hS h.2), if_neg hx]
          refine (List.countP_eq_zero.2 fun t ht => ?_).symm
          have : ∃ u, t = (l ++ [(x : Int)]) ++ u := ord_pre n d _ t ht
          obtain ⟨u, rfl⟩ := this
          simpa using fun h => hS (stN_pre h)
theorem stN_one (n : Nat) (x : Int) : StN n [x] := by simp [StN, stN]

theorem step_ltN {n : Nat} {t : List Int} (h1 : 1 ≤ n) (h : ∀ x ∈ t, 0 ≤ x ∧ x < n) {k : Nat} (hk : k + 1 < t.length) :
    0 ≤ t.getD k 0 ∧ t.getD k 0 < n ∧ 0 ≤ t.getD (k + 1) 0 ∧ t.getD (k + 1) 0 < n ∧ 0 ≤ (t.getD (k + 1) 0 - t.getD k 0 + n) % n ∧ (t.getD (k + 1) 0 - t.getD k 0 + n) % n < n := by
  obtain ⟨a, b⟩ := h _ (mem_getD (l := t) (i := k) (by omega))
  obtain ⟨c, d⟩ := h _ (mem_getD (l := t) (i := k + 1) hk)
  exact ⟨a, b, c, d, Int.emod_nonneg _ (by omega), Int.emod_lt_of_pos _ (by omega)⟩

open Classical in
set_option maxHeartbeats 2000000 in
set_option maxRecDepth 100000 in
theorem c_l09StepN (n : Nat) (v : Value) (t : List Int) (w : World) (hv : RdI w v t) (h1 : 1 ≤ n) (h14 : n ≤ 14) (hl : 1 ≤ t.length ∧ t.length ≤ n) (hB : ∀ x ∈ t, 0 ≤ x ∧ x < n) :
    Calls Try.prog 118 [v, .int .i64 (n : Int)].toArray w (Res w (Is (.bool (decide (StN n t))))) := by
  obtain ⟨a, cap, rfl⟩ := hv.len
  refine calls_of_vw Try.func118 rfl Try.ntmps118 (by simp) ?_
  have hL : (stN n t (t.length - 1)).length = t.length - 1 := stN_length _ _ _
  have hgt : ∀ k, k < t.length - 1 → (stN n t (t.length - 1)).getD k 0 = (t.getD (k + 1) 0 - t.getD k 0 + n) % n := fun k hk => stN_get hk
  have hSt : StN n t ↔ (stN n t (t.length - 1)).Nodup := Iff.rfl
  generalize stN n t (t.length - 1) = L at *
  repeat (first | refine vops_q tyOk rfl ?_ | refine vops_nil ?_ | refine vw_seq ?_ | refine vw_region (by kernel_rfl) ?_)
  refine vops_makeBools (n := n) tyOk rfl rfl rfl rfl rfl rfl rfl (by decide) (by omega) (fun b hb => ?_)
  repeat (first | refine vops_q tyOk rfl ?_ | refine vops_nil ?_ | refine vw_seq ?_ | refine vw_region (by kernel_rfl) ?_ | refine vw_block ?_)
  refine vw_loop (fun y f own => ∃ q : Nat, q ≤ L.length ∧ y = L.length - q ∧ f 6 = .int .i64 ((q : Int) + 1) ∧ f 0 = .slice a t.length cap ∧ f 1 = .int .i64 n ∧ f 5 = .slice (some ⟨b, 0, none⟩) n n ∧ own = [(b, ⟨bools (seenOf L q n), 4, n, none⟩)] ∧ (L.take q).Nodup) L.length
    ⟨0, by omega, by omega, rfl, rfl, rfl, rfl, by rw [seenOf_zero], by simp⟩ ?_
  rintro y f own ⟨q, hq, rfl, h6, h0, h1', h5, rfl, hnd⟩
  rw [upd_of h6, upd_of h0, upd_of h1', upd_of h5]
  repeat (first | refine vops_q tyOk rfl ?_ | refine vops_nil ?_ | refine vw_seq ?_ | refine vw_region (by kernel_rfl) ?_ | refine vw_cond rfl ?_)
  refine bs_dec (fun hlt => ?_) (fun hlt => ?_)
  · have hqL : q < L.length := by omega
    obtain ⟨e0, e1, e2, e3, e4, e5⟩ := step_ltN h1 hB (k := q) (by omega)
    have hgq := hgt q (by omega)
    obtain ⟨b', o, cap', he, hcell⟩ := hv.at (i := 0) (by omega)
    cases he
    have hA : w.cell? ⟨b', o + ((q : Int) + 1).toNat, none⟩ = some (.int .i64 (t.getD (q + 1) 0)) := by rw [show ((q : Int) + 1).toNat = q + 1 by omega]; exact hcell (q + 1) (by omega)
    have hB' : w.cell? ⟨b', o + ((q : Int) + 1 - 1).toNat, none⟩ = some (.int .i64 (t.getD q 0)) := by rw [show ((q : Int) + 1 - 1).toNat = q by omega]; exact hcell q (by omega)
    have hst := seenOf_set (l := L) (i := q) (n := n) hqL (by rw [hgq]; exact e4) (by rw [hgq]; omega)
    have hsg := seenOf_get (l := L) (i := q) (n := n) (x := (L.getD q 0).toNat) (by omega)
    rw [show (((L.getD q 0).toNat : Nat) : Int) = L.getD q 0 by omega] at hsg
    have hld : (bools (seenOf L q n))[0 + (L.getD q 0).toNat]? = some (.bool (decide (L.getD q 0 ∈ L.take q))) := by rw [← hsg]; exact bools_get (by rw [seenOf_length]; omega)
    rw [← hgq] at e4 e5
    repeat (first | refine vw_seq ?_ | refine vw_skip ?_ | refine vw_block ?_)
    refine vw_draw [0, 1, 2, 3, 4, 5, 6, 7, 8, 9, 10, 11, 12] (by kernel_rfl) (by kernel_rfl) (by kernel_rfl) rfl ?_
    repeat' (first | refine vd_q tyOk rfl (by first | trivial | rfl) rfl (by kernel_rfl) (by kernel_rfl) ?_ | refine vd_p tyOk rfl (by first | trivial | rfl) rfl (by kernel_rfl) (by kernel_rfl) (by (try simp only [inR]); omega) ?_ | refine vops_nil ?_ | refine vd_nil (by kernel_rfl) ?_ | refine ⟨fun _ _ _ h => h, ?_⟩ | refine vd_load tyOk rfl (by first | trivial | rfl) rfl rfl rfl (by kernel_rfl) (by kernel_rfl) (by kernel_rfl) (sees_old hA (by simp)) (by repeat (first | exact sub_hereL | exact sub_refl | apply sub_cons | apply sub_app)) ?_ | refine vd_load tyOk rfl (by first | trivial | rfl) rfl rfl rfl (by kernel_rfl) (by kernel_rfl) (by kernel_rfl) (sees_old hB' (by simp)) (by repeat (first | exact sub_hereL | exact sub_refl | apply sub_cons | apply sub_app)) ?_ | (apply vops_callp ent171 rfl; (intro w _; exact c_l03ModS _ _ (by omega) (by omega) (by omega) (by omega) w)) | refine vd_one rfl (by kernel_rfl) (by kernel_rfl) rfl ?_)
    rw [← hgq]
    repeat (first | refine vops_q tyOk rfl ?_ | refine vops_nil ?_ | refine vw_seq ?_ | refine vw_region (by kernel_rfl) ?_ | refine vops_p tyOk rfl (by (try simp only [inR]); omega) ?_ | refine vw_cond rfl ?_ | refine vops_loadM tyOk rfl rfl rfl (by repeat (first | exact mem_here | apply mem_next | apply mem_past)) (by exact hld) ?_)
    refine bs_dec (fun h7 => ?_) (fun h7 => ?_)
    · repeat (first | refine vops_q tyOk rfl ?_ | refine vops_nil ?_ | refine vw_seq ?_ | refine vw_region (by kernel_rfl) ?_ | refine vw_ret ?_)
      exact rv_bool rfl rfl (decide_eq_false fun hS => not_nodup hqL h7 (hSt.1 hS)).symm
    · repeat (first | refine vops_q tyOk rfl ?_ | refine vops_nil ?_ | refine vw_region (by kernel_rfl) ?_ | refine vops_p tyOk rfl (by (try simp only [inR]); omega) ?_ | refine vw_skip ?_ | refine vops_storeBM tyOk rfl rfl rfl rfl (by repeat (first | exact upd_here | apply upd_next | apply upd_past)) (by simp only [seenOf_length]; omega) ?_)
      refine ⟨L.length - (q + 1), by omega, q + 1, by omega, rfl, rfl, rfl, rfl, rfl, ?_, nodup_snoc hqL hnd h7⟩
      rw [← hst]
  · repeat (first | refine vops_q tyOk rfl ?_ | refine vops_nil ?_ | refine vw_seq ?_ | refine vw_region (by kernel_rfl) ?_ | refine vw_ret ?_ | refine vw_exit ?_)
    rw [List.take_of_length_le (by omega)] at hnd
    exact rv_bool rfl rfl (decide_eq_true (hSt.2 hnd)).symm

theorem rdI_F1 {w : World} {v : Value} {l : List Int} (h : RdI w v l) : RdF w 1 l.length v l := by
  rcases h with ⟨a, cap, h1, h2⟩ | ⟨b, o, cap, h1, h2⟩
  · exact .inl ⟨a, cap, h1, by rw [h2]; rfl, h2⟩
  · exact .inr ⟨b, o, cap, h1, by rw [Nat.mul_one], h2⟩
set_option maxRecDepth 100000 in
theorem c_l01OwnL (v : Value) (l : List Int) (w : World) (hv : RdI w v l) (hl : l.length ≤ 1048576) : Calls Try.prog 93 [v].toArray w (Res w (NewI 2 l)) := by
  obtain ⟨a, cap, rfl⟩ := hv.len
  refine calls_of_vw Try.func93 rfl Try.ntmps93 (by simp) ?_
  repeat (first | refine vops_q tyOk rfl ?_ | refine vops_nil ?_ | refine vw_seq ?_ | refine vw_region (by kernel_rfl) ?_ | refine vw_ret ?_ | refine vops_build0 tyOk rfl rfl (fun be hbe => ?_) | refine vops_appendL (k := 1) (q := []) (q2 := l) tyOk rfl rfl (List.cons_ne_nil _ _) rfl rfl (by decide) rfl NewF.empty (by repeat (first | exact pm_here | exact pm_last | apply pm_next | apply pm_past)) rfl (fun w' hg => rdI_F1 (hv.same hg.fr)) (by omega) (fun p' cap' new' hN' => ?_))
  have hN2 : NewI 2 l (.slice p' (0 + l.length) cap') new' := by
    have h2 : NewF 2 1 (0 + l.length) l (.slice p' (0 + l.length) cap') new' := by simpa using hN'
    rw [Nat.zero_add] at h2 ⊢
    exact h2
  exact out1 rfl rfl (SlAt.nodup hN2) (by repeat (first | exact sub_hereL | exact sub_refl | apply sub_cons | apply sub_app)) hN2

open Classical in
set_option maxHeartbeats 2000000 in
set_option maxRecDepth 100000 in
theorem c_l09Count (n : Nat) (h1 : 1 ≤ n) (h8 : n ≤ 8) : ∀ (d : Nat) (l : List Int) (v : Value) (w : World), RdI w v l → l.length + d = n → l.Nodup → (∀ x ∈ l, 0 ≤ x ∧ x < n) →
    Calls Try.prog 129 [.int .i64 (n : Int), v].toArray w (Res w (Is (.int .i64 (cntR n d l : Nat)))) := by
  intro d
  induction d with
  | zero =>
    intro l v w hv hd _ _
    obtain ⟨a, cap, rfl⟩ := hv.len
    refine calls_of_vw Try.func129 rfl Try.ntmps129 (by simp) ?_
    repeat (first | refine vops_q tyOk rfl ?_ | refine vops_nil ?_ | refine vw_seq ?_ | refine vw_region (by kernel_rfl) ?_ | refine vw_cond rfl ?_)
    refine bs_dec (fun _ => ?_) (fun h => absurd (show (l.length : Int) = n by omega) h)
    repeat (first | refine vops_q tyOk rfl ?_ | refine vops_nil ?_ | refine vw_seq ?_ | refine vw_region (by kernel_rfl) ?_ | refine vw_ret ?_)
    exact rv_int rfl rfl rfl
  | succ d ih =>
    intro l v w hv hd hnd hb
    obtain ⟨a, cap, rfl⟩ := hv.len
    refine calls_of_vw Try.func129 rfl Try.ntmps129 (by simp) ?_
    have hpow : n ^ d ≤ 2097152 := by
      calc n ^ d ≤ 8 ^ d := Nat.pow_le_pow_left h8 d
        _ ≤ 8 ^ 7 := Nat.pow_le_pow_right (by omega) (by omega)
        _ = 2097152 := by decide
    have hcr : ∀ l', cntR n d l' ≤ 2097152 := fun l' => Nat.le_trans (cntR_le n d l') hpow
    have hct : ∀ k, k ≤ n → cntTo n d l k ≤ 16777216 := fun k hk => Nat.le_trans (cntTo_le hcr l k) (by omega)
    repeat (first | refine vops_q tyOk rfl ?_ | refine vops_nil ?_ | refine vw_seq ?_ | refine vw_region (by kernel_rfl) ?_ | refine vw_cond rfl ?_)
    refine bs_dec (fun h => absurd h (by omega)) (fun _ => ?_)
    repeat (first | refine vops_q tyOk rfl ?_ | refine vops_nil ?_ | refine vw_seq ?_ | refine vw_region (by kernel_rfl) ?_ | refine vw_skip ?_ | refine vw_block ?_)
    refine vw_loopW (fun y f own => ∃ x : Nat, x ≤ n ∧ y = n - x ∧ f 6 = .int .i64 x ∧ f 5 = .int .i64 (cntTo n d l x : Nat) ∧ f 0 = .int .i64 n ∧ f 1 = .slice a l.length cap ∧ own = []) n
      ⟨_, ole_nil, 0, by omega, by omega, rfl, rfl, rfl, rfl, rfl⟩ ?_
    rintro y f own ⟨x, hx, rfl, h6, h5, h0, h1', rfl⟩
    rw [upd_of h6, upd_of h5, upd_of h0, upd_of h1']
    repeat (first | refine vops_q tyOk rfl ?_ | refine vops_nil ?_ | refine vw_seq ?_ | refine vw_region (by kernel_rfl) ?_ | refine vw_cond rfl ?_)
    refine bs_dec (fun hlt => ?_) (fun hlt => ?_)
    · have hxn : x < n := by omega
      have hs := cntTo_succ n d l x
      have hc1 := hct x hx
      have hc2 := hcr (l ++ [(x : Int)])
      repeat (first | refine vops_q tyOk rfl ?_ | refine vops_nil ?_ | refine vw_seq ?_ | refine vw_region (by kernel_rfl) ?_ | refine vw_skip ?_ | refine vw_block ?_)
      refine vw_loop (fun y f own => ∃ i : Nat, i ≤ l.length ∧ y = l.length - i ∧ f 8 = .int .i64 i ∧ f 7 = .bool (decide ((x : Int) ∈ l.take i)) ∧ f 6 = .int .i64 x ∧ f 5 = .int .i64 (cntTo n d l x : Nat) ∧ f 0 = .int .i64 n ∧ f 1 = .slice a l.length cap ∧ own = []) l.length
        ⟨0, by omega, by omega, rfl, by simp; rfl, rfl, rfl, rfl, rfl, rfl⟩ ?_
      rintro y f own ⟨i, hi, rfl, h8', h7, h6, h5, h0, h1', rfl⟩
      rw [upd_of h8', upd_of h7, upd_of h6, upd_of h5, upd_of h0, upd_of h1']
      repeat (first | refine vops_q tyOk rfl ?_ | refine vops_nil ?_ | refine vw_seq ?_ | refine vw_region (by kernel_rfl) ?_ | refine vw_cond rfl ?_)
      refine bs_dec (fun hlt2 => ?_) (fun hlt2 => ?_)
      · obtain ⟨b', o, cap', he, hcell⟩ := hv.at (i := i) (by omega)
        cases he
        have hc := hcell i (by omega)
        have htk : l.take (i + 1) = l.take i ++ [l.getD i 0] := by rw [List.take_add_one, List.getD_eq_getElem?_getD, List.getElem?_eq_getElem (by omega)]; rfl
        have hmem : ((x : Int) ∈ l.take (i + 1)) ↔ ((x : Int) ∈ l.take i ∨ l.getD i 0 = (x : Int)) := by
          rw [htk, List.mem_append, List.mem_singleton]; exact or_congr Iff.rfl ⟨Eq.symm, Eq.symm⟩
        repeat' (first | refine vops_q tyOk rfl ?_ | refine vops_nil ?_ | refine vw_seq ?_ | refine vw_region (by kernel_rfl) ?_ | refine vops_guardF rfl rfl ?_ | with_reducible refine bs_true ?_ | with_reducible refine bs_false ?_ | refine vops_p tyOk rfl (by (try simp only [inR]); omega) ?_ | refine vw_skip ?_ | refine vw_block ?_ | (with_reducible refine bs_dec (fun _ => ?_) (fun _ => ?_)) <;> try (exfalso; omega) | refine vops_load tyOk rfl rfl rfl (sees_old hc (by simp)) ?_)
        all_goals (
          refine ⟨l.length - (i + 1), by omega, i + 1, by omega, rfl, rfl, ?_, rfl, rfl, rfl, rfl, rfl⟩
          first
            | (show Value.bool _ = _; congr 1; simp only [hmem]; simp [*])
            | (simp only [hmem]; simp [*]))
      · obtain rfl : i = l.length := by omega
        rw [List.take_length]
        repeat (first | refine vops_q tyOk rfl ?_ | refine vw_seq ?_ | refine vw_region (by kernel_rfl) ?_ | refine vw_exit ?_ | (apply vops_call ent93 rfl; (intro w' hg; exact c_l01OwnL _ l w' (hv.same hg.fr) (by omega)); (intro _ newN hN; obtain ⟨pN, cN, rfl⟩ := SlAt.form hN)))
        have hXf := NewI.f hN
        repeat (first | refine vops_q tyOk rfl ?_ | refine vops_nil ?_ | refine vw_seq ?_ | refine vw_region (by kernel_rfl) ?_ | refine vops_guardT rfl rfl ?_ | refine vops_litI [_] tyOk rfl rfl (List.cons_ne_nil _ _) (by rfl) rfl (by omega) (by omega) (fun bt hbt => ?_) | refine vops_append1 (k := 1) tyOk rfl rfl (List.cons_ne_nil _ _) rfl rfl (by decide) rfl hXf (by repeat (first | exact pm_here | exact pm_last | apply pm_next | apply pm_past)) rfl (by repeat (first | exact mem_here | apply mem_next | apply mem_past)) rfl (by omega) (fun p' cap' new' hN' => ?_))
        have hNI : NewI 2 (l ++ [(x : Int)]) (.slice p' (l.length + 1) cap') new' := NewI.snoc hN' rfl
        by_cases hxl : (x : Int) ∈ l
        · rw [decide_eq_true hxl]
          repeat (first | refine vops_q tyOk rfl ?_ | refine vops_nil ?_ | refine vw_region (by kernel_rfl) ?_ | refine vops_guardT rfl rfl ?_ | with_reducible refine bs_false ?_ | with_reducible refine bs_ntrue ?_ | refine vops_p tyOk rfl (by (try simp only [inR]); omega) ?_ | refine vw_cond rfl ?_ | refine vw_skip ?_)
          refine ⟨n - (x + 1), by omega, _, ole_nil, x + 1, by omega, rfl, rfl, ?_, rfl, rfl, rfl⟩
          rw [hs, if_neg (fun h => h.1 hxl)]; rfl
        · have hb2 : ∀ y ∈ l ++ [(x : Int)], 0 ≤ y ∧ y < n := fun y hy => by
            rcases List.mem_append.1 hy with hy | hy
            · exact hb y hy
            · rw [List.mem_singleton] at hy; omega
          have hnd2 : (l ++ [(x : Int)]).Nodup := List.nodup_append.2 ⟨hnd, by simp, fun a ha b hb he => by rw [List.mem_singleton] at hb; exact hxl (by rw [← hb, ← he]; exact ha)⟩
          have hl2 : (l ++ [(x : Int)]).length = l.length + 1 := by simp
          rw [decide_eq_false hxl]
          repeat (first | refine vops_q tyOk rfl ?_ | refine vops_nil ?_ | refine vops_guardT rfl rfl ?_ | with_reducible refine bs_true ?_ | with_reducible refine bs_nfalse ?_ | refine vw_cond rfl ?_ | (apply vops_callp ent118 rfl; (intro w' hg; exact c_l09StepN n _ (l ++ [(x : Int)]) w' (NewI.rdG hNI (by repeat (first | exact sub_hereL | exact sub_refl | apply sub_cons | apply sub_app)) hg) h1 (by omega) (by omega) hb2)))
          refine bs_dec (fun hS => ?_) (fun hS => ?_)
          · rw [if_pos ⟨hxl, hS⟩] at hs
            repeat (first | refine vops_q tyOk rfl ?_ | refine vops_nil ?_ | refine vw_region (by kernel_rfl) ?_ | refine vops_p tyOk rfl (by (try simp only [inR]); omega) ?_ | (apply vops_callp ent129 rfl; (intro w' hg; exact ih (l ++ [(x : Int)]) _ w' (NewI.rdG hNI (by repeat (first | exact sub_hereL | exact sub_refl | apply sub_cons | apply sub_app)) hg) (by omega) hnd2 hb2)))
            refine ⟨n - (x + 1), by omega, _, ole_nil, x + 1, by omega, rfl, rfl, ?_, rfl, rfl, rfl⟩
            rw [hs]; push_cast; rfl
          · repeat (first | refine vops_q tyOk rfl ?_ | refine vops_nil ?_ | refine vw_region (by kernel_rfl) ?_ | refine vops_p tyOk rfl (by (try simp only [inR]); omega) ?_ | refine vw_skip ?_)
            refine ⟨n - (x + 1), by omega, _, ole_nil, x + 1, by omega, rfl, rfl, ?_, rfl, rfl, rfl⟩
            rw [hs, if_neg (fun h => hS h.2)]; rfl
    · obtain rfl : x = n := by omega
      repeat (first | refine vops_q tyOk rfl ?_ | refine vops_nil ?_ | refine vw_seq ?_ | refine vw_region (by kernel_rfl) ?_ | refine vw_ret ?_ | refine vw_exit ?_)
      exact rv_int rfl rfl rfl
end Go.Proofs.Ytlnohlomanapeaa
