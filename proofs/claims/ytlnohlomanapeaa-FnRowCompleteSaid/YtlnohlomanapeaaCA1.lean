import Derived.Test.YtlnohlomanapeaaSX
import Derived.Test.YtlnohlomanapeaaVLTable
import Derived.Test.YtlnohlomanapeaaVLA
/- A part of the proof: CA1. No conditions of its own. -/
namespace Go.Proofs.Ytlnohlomanapeaa
open Go.VL
attribute [local irreducible] VWr VOps VD Calls

set_option maxRecDepth 100000 in
theorem c_isLength (n : Int) (w : World) : Calls Try.prog 123 [.int .i64 n].toArray w (Res w (Is (.bool (decide (1 ≤ n ∧ n ≤ 14))))) := by
  refine calls_of_vw Try.func123 rfl Try.ntmps123 (by simp) ?_
  repeat' (first | refine vops_q tyOk rfl ?_ | refine vops_nil ?_ | refine vw_seq ?_ | refine vw_region (by kernel_rfl) ?_ | refine vops_guardT rfl rfl ?_ | with_reducible refine bs_true ?_ | with_reducible refine bs_false ?_ | refine vw_ret ?_ | (with_reducible refine bs_dec (fun _ => ?_) (fun _ => ?_)) <;> try (exfalso; omega))
  all_goals (refine rv_bool rfl rfl ?_; simp; omega)
/-- A list of all numbers below its length, which fits. -/
def IsWhole (l : List Int) : Prop := 1 ≤ l.length ∧ l.length ≤ 14 ∧ IsPerm l.length l
open Classical in
set_option maxRecDepth 100000 in
theorem c_isWholeList (v : Value) (l : List Int) (w : World) (hv : RdI w v l) (hl : l.length ≤ 1048576) :
    Calls Try.prog 115 [v].toArray w (Res w (Is (.bool (decide (IsWhole l))))) := by
  obtain ⟨a, cap, rfl⟩ := hv.len
  refine calls_of_vw Try.func115 rfl Try.ntmps115 (by simp) ?_
  repeat' (first | refine vops_q tyOk rfl ?_ | refine vops_nil ?_ | refine vw_seq ?_ | refine vw_region (by kernel_rfl) ?_ | refine vops_guardT rfl rfl ?_ | with_reducible refine bs_true ?_ | with_reducible refine bs_false ?_ | refine vw_ret ?_ | (with_reducible refine bs_dec (fun _ => ?_) (fun _ => ?_)) <;> try (exfalso; omega) | (apply vops_callp ent123 rfl; (intro w _; exact c_isLength _ w)) | (apply vops_callp ent95 rfl; (intro w' hg; exact c_isPermutation _ l _ w' (hv.same hg.fr) hl (by omega) (by omega))))
  all_goals first
    | (refine rv_bool rfl rfl (decide_eq_decide.2 ⟨fun h => ⟨by omega, by omega, h⟩, fun h => h.2.2⟩); done)
    | exact rv_bool rfl rfl (decide_eq_false fun h => by have := h.1; have := h.2.1; omega).symm
open Classical in
set_option maxRecDepth 100000 in
theorem c_l09List (v : Value) (l : List Int) (w : World) (hv : RdI w v l) (hl : l.length ≤ 1048576) :
    Calls Try.prog 116 [v].toArray w (Res w (Is (.bool (decide (IsWhole l))))) := by
  obtain ⟨a, cap, rfl⟩ := hv.len
  refine calls_of_vw Try.func116 rfl Try.ntmps116 (by simp) ?_
  repeat' (first | refine vops_q tyOk rfl ?_ | refine vops_nil ?_ | refine vw_seq ?_ | refine vw_region (by kernel_rfl) ?_ | refine vops_guardT rfl rfl ?_ | with_reducible refine bs_true ?_ | with_reducible refine bs_false ?_ | refine vw_ret ?_ | (with_reducible refine bs_dec (fun _ => ?_) (fun _ => ?_)) <;> try (exfalso; omega) | (apply vops_callp ent124 rfl; (intro w _; exact c_l01In _ _ _ w)) | (apply vops_callp ent166 rfl; (intro w' hg; exact c_l01Order _ l _ w' (hv.same hg.fr) hl (by omega) (by omega))))
  all_goals first
    | (refine rv_bool rfl rfl (decide_eq_decide.2 ⟨fun h => ⟨by omega, by omega, h⟩, fun h => h.2.2⟩); done)
    | exact rv_bool rfl rfl (decide_eq_false fun h => by have := h.1; have := h.2.1; omega).symm

/-- The zigzag's number at the place k. -/
def zigC (n k : Nat) : Int := if k % 2 = 0 then ((k / 2 : Nat) : Int) else (n : Int) - 1 - ((k / 2 : Nat) : Int)
theorem zigC_even (n j : Nat) : zigC n (2 * j) = j := by
  rw [zigC, if_pos (by omega)]; congr 1; omega
theorem zigC_odd (n j : Nat) : zigC n (2 * j + 1) = (n : Int) - 1 - j := by
  rw [zigC, if_neg (by omega)]
  have : (2 * j + 1) / 2 = j := by omega
  rw [this]
def zigR (n : Int) : List Int × Int := if 1 ≤ n ∧ n ≤ 14 then (lst n.toNat (zigC n.toNat), 0) else ([], 2)
theorem zigR_len (n : Int) : (zigR n).1.length ≤ 1048576 := by
  unfold zigR; split
  · simp only [lst_length]; omega
  · simp

set_option maxHeartbeats 1000000 in
set_option maxRecDepth 100000 in
theorem c_impl_ZigzagOf (n : Int) (w : World) : Calls Try.prog 50 [.int .i64 n].toArray w (Res w (PairI 2 (zigR n))) := by
  refine calls_of_vw Try.func50 rfl Try.ntmps50 (by simp) ?_
  repeat (first | refine vops_q tyOk rfl ?_ | refine vops_nil ?_ | refine vw_seq ?_ | refine vw_region (by kernel_rfl) ?_ | refine vw_cond rfl ?_ | (apply vops_callp ent123 rfl; (intro w _; exact c_isLength _ w)))
  refine bs_ndec2 (fun h => ?_) (fun h => ?_)
  · repeat (first | refine vops_q tyOk rfl ?_ | refine vops_nil ?_ | refine vw_seq ?_ | refine vw_region (by kernel_rfl) ?_ | refine vw_ret ?_)
    exact pairI_err rfl rfl rfl (by rw [zigR, if_neg h])
  obtain ⟨k, rfl⟩ : ∃ k : Nat, n = (k : Int) := ⟨n.toNat, by omega⟩
  repeat (first | refine vops_q tyOk rfl ?_ | refine vops_nil ?_ | refine vw_seq ?_ | refine vw_region (by kernel_rfl) ?_ | refine vops_p tyOk rfl (by (try simp only [inR]); omega) ?_ | refine vw_skip ?_ | refine vw_block ?_)
  refine vw_loopW (fun y f own => ∃ (j m : Nat) (p : Option Addr) (c : Nat) (X : Own), j ≤ k ∧ y = k - j ∧ f 5 = .int .i64 j ∧ f 6 = .int .i64 ((k : Int) - 1 - j) ∧ (m = 2 * j ∧ m ≤ k ∨ m = k ∧ k ≤ 2 * j) ∧ f 4 = .slice p m c ∧ NewI 2 (lst m (zigC k)) (.slice p m c) X ∧ own = X) k
    ⟨[], ole_refl, 0, 0, none, 0, [], by omega, by omega, rfl, by simp only [Int.natCast_zero, Int.sub_zero]; rfl, .inl ⟨rfl, by omega⟩, rfl, NewI.nil, rfl⟩ ?_
  rintro y f own ⟨j, m, p, c, X, hj, rfl, h5, h6, hm, h4, hX, rfl⟩
  rw [upd_of h5, upd_of h6, upd_of h4]
  repeat (first | refine vops_q tyOk rfl ?_ | refine vops_nil ?_ | refine vw_seq ?_ | refine vw_region (by kernel_rfl) ?_ | refine vw_cond rfl ?_)
  refine bs_dec (fun hlt => ?_) (fun hlt => ?_)
  · have hm' : m = 2 * j := by omega
    subst hm'
    have hXf : NewF 2 1 (2 * j) (lst (2 * j) (zigC k)) (.slice p (2 * j) c) own := by
      have := NewI.f hX
      rwa [lst_length] at this
    repeat (first | refine vops_q tyOk rfl ?_ | refine vops_nil ?_ | refine vw_seq ?_ | refine vw_region (by kernel_rfl) ?_ | refine vw_cond rfl ?_ | refine vw_skip ?_ | refine vw_block ?_ | refine vops_litI [_] tyOk rfl rfl (List.cons_ne_nil _ _) (by rfl) rfl (by omega) (by omega) (fun bt hbt => ?_) | refine vops_append1 (k := 1) tyOk rfl rfl (List.cons_ne_nil _ _) rfl rfl (by decide) rfl hXf (by repeat (first | exact pm_here | exact pm_last | apply pm_next | apply pm_past)) rfl (by repeat (first | exact mem_here | apply mem_next | apply mem_past)) rfl (by omega) (fun p' cap' new' hN' => ?_))
    have hN1 : NewF 2 1 (2 * j + 1) (lst (2 * j + 1) (zigC k)) (.slice p' (2 * j + 1) cap') new' := by
      rw [lst_succ, zigC_even]; exact hN'
    clear hN'
    refine bs_dec (fun hlt2 => ?_) (fun hlt2 => ?_)
    · repeat (first | refine vops_q tyOk rfl ?_ | refine vops_nil ?_ | refine vw_region (by kernel_rfl) ?_ | refine vops_p tyOk rfl (by (try simp only [inR]); omega) ?_ | refine vops_litI [_] tyOk rfl rfl (List.cons_ne_nil _ _) (by rfl) rfl (by omega) (by omega) (fun bt hbt => ?_) | refine vops_append1 (k := 1) tyOk rfl rfl (List.cons_ne_nil _ _) rfl rfl (by decide) rfl hN1 (by repeat (first | exact pm_here | exact pm_last | apply pm_next | apply pm_past)) rfl (by repeat (first | exact mem_here | apply mem_next | apply mem_past)) rfl (by omega) (fun p' cap' new' hN' => ?_))
      refine ⟨k - (j + 1), by omega, new', ⟨_, List.Perm.refl _⟩, j + 1, 2 * j + 1 + 1, p', cap', new', by omega, rfl, rfl, ?_, .inl ⟨by omega, by omega⟩, rfl, ?_, rfl⟩
      · show Value.int .i64 _ = _
        congr 1; push_cast; omega
      · rw [lst_succ, zigC_odd]
        exact NewI.snoc hN' (lst_length _ _).symm
    · repeat (first | refine vops_q tyOk rfl ?_ | refine vops_nil ?_ | refine vw_region (by kernel_rfl) ?_ | refine vops_p tyOk rfl (by (try simp only [inR]); omega) ?_ | refine vw_skip ?_)
      refine ⟨k - (j + 1), by omega, new', ⟨_, List.Perm.refl _⟩, j + 1, 2 * j + 1, p', cap', new', by omega, rfl, rfl, ?_, .inr ⟨by omega, by omega⟩, rfl, ?_, rfl⟩
      · show Value.int .i64 _ = _
        congr 1; push_cast; omega
      · rw [lst_succ, zigC_even]
        rw [lst_succ, zigC_even] at hN1
        exact NewI.snoc hN1 (lst_length _ _).symm
  · obtain rfl : m = k := by omega
    repeat (first | refine vops_q tyOk rfl ?_ | refine vops_nil ?_ | refine vw_seq ?_ | refine vw_region (by kernel_rfl) ?_ | refine vw_ret ?_ | refine vw_exit ?_)
    exact pairI_ok rfl rfl rfl hX (by repeat (first | exact sub_hereL | exact sub_refl | apply sub_cons | apply sub_app)) (by rw [zigR, if_pos h, Int.toNat_natCast])

set_option maxHeartbeats 1000000 in
set_option maxRecDepth 100000 in
theorem c_l09Zigzag (k : Nat) (_hk : k ≤ 14) (w : World) : Calls Try.prog 125 [.int .i64 k].toArray w (Res w (NewI 2 (lst k (zigC k)))) := by
  refine calls_of_vw Try.func125 rfl Try.ntmps125 (by simp) ?_
  repeat (first | refine vops_q tyOk rfl ?_ | refine vops_nil ?_ | refine vw_seq ?_ | refine vw_region (by kernel_rfl) ?_)
  refine vops_build0 tyOk rfl rfl (fun be hbe => ?_)
  repeat (first | refine vops_q tyOk rfl ?_ | refine vops_nil ?_ | refine vw_seq ?_ | refine vw_region (by kernel_rfl) ?_ | refine vw_block ?_)
  refine vw_loopW (fun y f own => ∃ (j : Nat) (p : Option Addr) (c : Nat) (X : Own), j ≤ k ∧ y = k - j ∧ f 4 = .int .i64 j ∧ f 0 = .int .i64 k ∧ f 3 = .slice p j c ∧ NewI 2 (lst j (zigC k)) (.slice p j c) X ∧ own = X) k
    ⟨_, ole_refl, 0, some ⟨be, 0, none⟩, 0, _, by omega, by omega, rfl, rfl, rfl, NewI.empty, rfl⟩ ?_
  rintro y f own ⟨j, p, c, X, hj, rfl, h4, h0, h3, hX, rfl⟩
  rw [upd_of h4, upd_of h0, upd_of h3]
  repeat (first | refine vops_q tyOk rfl ?_ | refine vops_nil ?_ | refine vw_seq ?_ | refine vw_region (by kernel_rfl) ?_ | refine vw_cond rfl ?_)
  refine bs_dec (fun hlt => ?_) (fun hlt => ?_)
  · have hXf : NewF 2 1 j (lst j (zigC k)) (.slice p j c) own := by
      have := NewI.f hX
      rwa [lst_length] at this
    repeat (first | refine vops_q tyOk rfl ?_ | refine vops_nil ?_ | refine vw_seq ?_ | refine vw_region (by kernel_rfl) ?_ | refine vops_p tyOk rfl (by (try simp only [inR]); omega) ?_ | refine vw_cond rfl ?_ | refine vw_skip ?_ | refine vw_block ?_)
    refine bs_dec (fun he => ?_) (fun he => ?_)
    · repeat (first | refine vops_q tyOk rfl ?_ | refine vops_nil ?_ | refine vw_region (by kernel_rfl) ?_ | refine vops_p tyOk rfl (by (try simp only [inR]); omega) ?_ | refine vops_litI [_] tyOk rfl rfl (List.cons_ne_nil _ _) (by rfl) rfl (by omega) (by omega) (fun bt hbt => ?_) | refine vops_append1 (k := 1) tyOk rfl rfl (List.cons_ne_nil _ _) rfl rfl (by decide) rfl hXf (by repeat (first | exact pm_here | exact pm_last | apply pm_next | apply pm_past)) rfl (by repeat (first | exact mem_here | apply mem_next | apply mem_past)) rfl (by omega) (fun p' cap' new' hN' => ?_))
      refine ⟨k - (j + 1), by omega, new', ⟨_, List.Perm.refl _⟩, j + 1, p', cap', new', by omega, rfl, rfl, rfl, rfl, ?_, rfl⟩
      have hz : zigC k j = (j : Int) / 2 := by rw [zigC, if_pos (by omega)]; rfl
      rw [lst_succ, hz]
      exact NewI.snoc hN' (lst_length _ _).symm
    · repeat (first | refine vops_q tyOk rfl ?_ | refine vops_nil ?_ | refine vw_region (by kernel_rfl) ?_ | refine vops_p tyOk rfl (by (try simp only [inR]); omega) ?_ | refine vops_litI [_] tyOk rfl rfl (List.cons_ne_nil _ _) (by rfl) rfl (by omega) (by omega) (fun bt hbt => ?_) | refine vops_append1 (k := 1) tyOk rfl rfl (List.cons_ne_nil _ _) rfl rfl (by decide) rfl hXf (by repeat (first | exact pm_here | exact pm_last | apply pm_next | apply pm_past)) rfl (by repeat (first | exact mem_here | apply mem_next | apply mem_past)) rfl (by omega) (fun p' cap' new' hN' => ?_))
      refine ⟨k - (j + 1), by omega, new', ⟨_, List.Perm.refl _⟩, j + 1, p', cap', new', by omega, rfl, rfl, rfl, rfl, ?_, rfl⟩
      have hz : zigC k j = (k : Int) - 1 - (j : Int) / 2 := by rw [zigC, if_neg (by omega)]; rfl
      rw [lst_succ, hz]
      exact NewI.snoc hN' (lst_length _ _).symm
  · obtain rfl : j = k := by omega
    refine vw_nodup (fun hnd => ?_)
    repeat (first | refine vops_q tyOk rfl ?_ | refine vops_nil ?_ | refine vw_seq ?_ | refine vw_region (by kernel_rfl) ?_ | refine vw_ret ?_ | refine vw_exit ?_)
    exact out1 rfl rfl hnd (fun _ h => h) hX
set_option maxRecDepth 100000 in
theorem c_spec_ZigzagOf (n : Int) (w : World) : Calls Try.prog 51 [.int .i64 n].toArray w (Res w (PairI 2 (zigR n))) := by
  refine calls_of_vw Try.func51 rfl Try.ntmps51 (by simp) ?_
  repeat (first | refine vops_q tyOk rfl ?_ | refine vops_nil ?_ | refine vw_seq ?_ | refine vw_region (by kernel_rfl) ?_ | refine vw_cond rfl ?_ | (apply vops_callp ent124 rfl; (intro w _; exact c_l01In _ _ _ w)))
  refine bs_ndec2 (fun h => ?_) (fun h => ?_)
  · repeat (first | refine vops_q tyOk rfl ?_ | refine vops_nil ?_ | refine vw_seq ?_ | refine vw_region (by kernel_rfl) ?_ | refine vw_ret ?_)
    exact pairI_err rfl rfl rfl (by rw [zigR, if_neg h])
  obtain ⟨k, rfl⟩ : ∃ k : Nat, n = (k : Int) := ⟨n.toNat, by omega⟩
  repeat (first | refine vops_q tyOk rfl ?_ | refine vops_nil ?_ | refine vw_seq ?_ | refine vw_region (by kernel_rfl) ?_ | refine vw_skip ?_ | refine vw_ret ?_ | (apply vops_call ent125 rfl; (intro w' hg; exact c_l09Zigzag k (by omega) w'); (intro _ newN hN; obtain ⟨pN, cN, rfl⟩ := SlAt.form hN)))
  exact pairI_ok rfl rfl rfl hN (by repeat (first | exact sub_hereL | exact sub_refl | apply sub_cons | apply sub_app)) (by rw [zigR, if_pos h, Int.toNat_natCast])
end Go.Proofs.Ytlnohlomanapeaa
