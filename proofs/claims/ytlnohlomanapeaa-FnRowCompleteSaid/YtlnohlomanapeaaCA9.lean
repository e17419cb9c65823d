import Derived.Test.YtlnohlomanapeaaCI
import Derived.Test.YtlnohlomanapeaaVLMatrix
import Derived.Test.YtlnohlomanapeaaVLA
/- A part of the proof: CA9. No conditions of its own. -/
namespace Go.Proofs.Ytlnohlomanapeaa
open Go.VL
attribute [local irreducible] VWr VOps VD Calls

theorem matN_congr {n : Int} {m k : Nat} {g g' : Nat → Nat → Int} (e : ∀ i j, i < m → j < k → g i j = g' i j) : matN n m k g = matN n m k g' := by
  unfold matN; rw [flatN_congr e]
theorem matN_inj {n : Int} {m k : Nat} {g g' : Nat → Nat → Int} (e : matN n m k g = matN n m k g') {i j : Nat} (hi : i < m) (hj : j < k) : g i j = g' i j := by
  have h1 := matN_get (n := n) (g := g) hi hj
  rw [e, matN_get hi hj] at h1
  injection h1 with h1
  injection h1 with _ h1
  exact h1.symm
abbrev mvM (n : Nat) (g : Nat → Nat → Int) : Value := .agg (ints (matN n 14 14 g)).toArray
/-- A balanced matrix, as far as the row i and there the column j. -/
def balP (n i j x y : Nat) : Int := if x < n ∧ y < n ∧ x ≠ y ∧ (x < i ∨ x = i ∧ y < j) then 1 else 0
theorem balP_step {n i j : Nat} (h : i ≠ j) (hi : i < n) (hj : j < n) (x y : Nat) : (if x = i ∧ y = j then 1 else balP n i j x y) = balP n i (j + 1) x y := by
  unfold balP
  by_cases h1 : x = i ∧ y = j
  · obtain ⟨rfl, rfl⟩ := h1
    rw [if_pos ⟨rfl, rfl⟩, if_pos ⟨hi, hj, h, .inr ⟨rfl, by omega⟩⟩]
  · rw [if_neg h1]
    by_cases h2 : x < n ∧ y < n ∧ x ≠ y ∧ (x < i ∨ x = i ∧ y < j)
    · rw [if_pos h2, if_pos ⟨h2.1, h2.2.1, h2.2.2.1, by omega⟩]
    · rw [if_neg h2, if_neg fun h3 => h2 ⟨h3.1, h3.2.1, h3.2.2.1, by omega⟩]
theorem balP_same {n i j : Nat} (h : i = j) (x y : Nat) : balP n i j x y = balP n i (j + 1) x y := by
  subst h
  unfold balP
  by_cases h2 : x < n ∧ y < n ∧ x ≠ y ∧ (x < i ∨ x = i ∧ y < i)
  · rw [if_pos h2, if_pos ⟨h2.1, h2.2.1, h2.2.2.1, by omega⟩]
  · rw [if_neg h2, if_neg fun h3 => h2 ⟨h3.1, h3.2.1, h3.2.2.1, by omega⟩]
theorem balP_row {n i : Nat} (x y : Nat) : balP n i n x y = balP n (i + 1) 0 x y := by
  unfold balP
  by_cases h2 : x < n ∧ y < n ∧ x ≠ y ∧ (x < i ∨ x = i ∧ y < n)
  · rw [if_pos h2, if_pos ⟨h2.1, h2.2.1, h2.2.2.1, by omega⟩]
  · rw [if_neg h2, if_neg fun h3 => h2 ⟨h3.1, h3.2.1, h3.2.2.1, by omega⟩]
theorem balP_zero (n x y : Nat) : balP n 0 0 x y = 0 := if_neg (by omega)

open Classical in
set_option maxHeartbeats 4000000 in
set_option maxRecDepth 100000 in
theorem c_isBalanced (n : Nat) (hn : n ≤ 14) (g : Nat → Nat → Int) (w : World) :
    Calls Try.prog 97 [mvM n g].toArray w (Res w (Is (.bool (decide (matN n 14 14 g = matN n 14 14 (balP n n 0)))))) := by
  refine calls_of_vw Try.func97 rfl Try.ntmps97 (by simp) ?_
  refine vw_seq (vw_region (by kernel_rfl) (vops_box (ints (matN n 14 14 g)) rfl (fun b1 hb1 => ?_)))
  have hl1 : (ints (matN n 14 14 g)).length = 197 := by rw [ints_length, matN_length]
  obtain ⟨M, hM⟩ : ∃ M, M = matN n 14 14 g := ⟨_, rfl⟩
  have hM0 : (ints M)[0 + 0]? = some (.int .i64 n) := by rw [hM]; rfl
  rw [← hM] at hl1 ⊢
  repeat (first | refine vops_q tyOk rfl ?_ | refine vops_nil ?_ | refine vw_seq ?_ | refine vw_region (by kernel_rfl) ?_ | refine vops_loadM tyOk rfl rfl rfl (by repeat (first | exact mem_here | apply mem_next | apply mem_past)) (by exact hM0) ?_ | refine vops_run (fun w => x_build (ints ((n : Int) :: List.replicate 196 0)).toArray rfl (by kernel_rfl) w) ?_)
  refine vops_allocZ (ints (List.replicate 197 0)) tyOk rfl rfl (by simp [ints]) (fun b3 hb3 => ?_)
  repeat (first | refine vops_q tyOk rfl ?_ | refine vops_nil ?_ | refine vw_seq ?_ | refine vw_region (by kernel_rfl) ?_ | refine vops_storeAM tyOk rfl rfl rfl (by simp [ints]) ints_one (by repeat (first | exact upd_here | apply upd_next | apply upd_past)) (by simp [ints]) ?_)
  rw [show (n : Int) :: List.replicate 196 0 = matN n 14 14 (balP n 0 0) from (matN_rep n 14 14).trans (matN_congr fun i j _ _ => (balP_zero n i j).symm)]
  repeat (first | refine vops_q tyOk rfl ?_ | refine vops_nil ?_ | refine vw_block ?_ | refine vops_loadM tyOk rfl rfl rfl (by repeat (first | exact mem_here | apply mem_next | apply mem_past)) (by exact hM0) ?_)
  refine vw_loopW (fun y f own => ∃ i : Nat, i ≤ n ∧ y = n - i ∧ f 11 = .int .i64 i ∧ f 10 = .int .i64 n ∧ f 1 = .pointer (some ⟨b1, 0, none⟩) ∧ f 3 = .pointer (some ⟨b3, 0, none⟩) ∧
      own = [(b3, ⟨ints (matN n 14 14 (balP n i 0)), 93, 197, none⟩), (b1, ⟨ints M, 93, (ints M).length, none⟩)]) n
    ⟨_, ole_refl, 0, by omega, by omega, rfl, rfl, rfl, rfl, rfl⟩ ?_
  rintro y f own ⟨i, hi, rfl, h11, h10, h1, h3, rfl⟩
  rw [upd_of h11, upd_of h10, upd_of h1, upd_of h3]
  repeat (first | refine vops_q tyOk rfl ?_ | refine vops_nil ?_ | refine vw_seq ?_ | refine vw_region (by kernel_rfl) ?_ | refine vw_cond rfl ?_)
  refine bs_dec (fun hlt => ?_) (fun hlt => ?_)
  · have hin : i < n := by omega
    repeat (first | refine vops_q tyOk rfl ?_ | refine vops_nil ?_ | refine vw_seq ?_ | refine vw_region (by kernel_rfl) ?_ | refine vw_skip ?_ | refine vw_block ?_ | refine vops_loadM tyOk rfl rfl rfl (by repeat (first | exact mem_here | apply mem_next | apply mem_past)) (by exact hM0) ?_)
    refine vw_loopW (fun y f own => ∃ j : Nat, j ≤ n ∧ y = n - j ∧ f 16 = .int .i64 j ∧ f 15 = .int .i64 n ∧ f 4 = .int .i64 i ∧ f 11 = .int .i64 i ∧ f 10 = .int .i64 n ∧ f 1 = .pointer (some ⟨b1, 0, none⟩) ∧ f 3 = .pointer (some ⟨b3, 0, none⟩) ∧
        own = [(b3, ⟨ints (matN n 14 14 (balP n i j)), 93, 197, none⟩), (b1, ⟨ints M, 93, (ints M).length, none⟩)]) n
      ⟨_, ole_refl, 0, by omega, by omega, rfl, rfl, rfl, rfl, rfl, rfl, rfl, rfl⟩ ?_
    rintro y f own ⟨j, hj, rfl, h16, h15, h4, h11, h10, h1, h3, rfl⟩
    rw [upd_of h16, upd_of h15, upd_of h4, upd_of h11, upd_of h10, upd_of h1, upd_of h3]
    repeat (first | refine vops_q tyOk rfl ?_ | refine vops_nil ?_ | refine vw_seq ?_ | refine vw_region (by kernel_rfl) ?_ | refine vw_cond rfl ?_)
    refine bs_dec (fun hlt2 => ?_) (fun hlt2 => ?_)
    · have hjn : j < n := by omega
      repeat (first | refine vops_q tyOk rfl ?_ | refine vops_nil ?_ | refine vw_seq ?_ | refine vw_region (by kernel_rfl) ?_ | refine vw_cond rfl ?_ | refine vw_skip ?_ | refine vw_block ?_)
      refine bs_ndec2 (fun hne => ?_) (fun heq => ?_)
      · have hij : i ≠ j := by omega
        have hidx : 0 + 1 + (i : Int).toNat * 14 + (j : Int).toNat = 0 + (1 + i * 14 + j) := by omega
        repeat (first | refine vops_q tyOk rfl ?_ | refine vops_nil ?_ | refine vw_region (by kernel_rfl) ?_ | refine vops_p tyOk rfl (by (try simp only [inR]); omega) ?_ | refine vops_storeIM (o := 1 + i * 14 + j) tyOk rfl rfl (by exact congrArg (fun x => Value.pointer (some ⟨b3, x, none⟩)) hidx) rfl (by repeat (first | exact upd_here | apply upd_next | apply upd_past)) (by rw [matN_length]; omega) ?_)
        refine ⟨n - (j + 1), by omega, _, ole_refl, j + 1, by omega, rfl, rfl, rfl, rfl, rfl, rfl, rfl, rfl, ?_⟩
        rw [matN_set (by omega), matN_congr fun x y _ _ => balP_step hij hin hjn x y]
      · have hij : i = j := by omega
        repeat (first | refine vops_q tyOk rfl ?_ | refine vops_nil ?_ | refine vw_region (by kernel_rfl) ?_ | refine vops_p tyOk rfl (by (try simp only [inR]); omega) ?_ | refine vw_skip ?_)
        refine ⟨n - (j + 1), by omega, _, ole_refl, j + 1, by omega, rfl, rfl, rfl, rfl, rfl, rfl, rfl, rfl, ?_⟩
        rw [matN_congr fun x y _ _ => balP_same hij x y]
    · obtain rfl : j = n := by omega
      repeat (first | refine vops_q tyOk rfl ?_ | refine vops_nil ?_ | refine vw_region (by kernel_rfl) ?_ | refine vops_p tyOk rfl (by (try simp only [inR]); omega) ?_ | refine vw_exit ?_)
      refine ⟨j - (i + 1), by omega, _, ole_refl, i + 1, by omega, rfl, rfl, rfl, rfl, rfl, ?_⟩
      rw [matN_congr fun x y _ _ => balP_row x y]
  · obtain rfl : i = n := by omega
    repeat (first | refine vw_seq ?_ | refine vw_region (by kernel_rfl) ?_ | refine vw_exit ?_ | refine vops_loadNM tyOk rfl rfl rfl (by repeat (first | exact mem_here | apply mem_next | apply mem_past)) (by rw [hl1]) ?_ | refine vops_loadNM tyOk rfl rfl rfl (by repeat (first | exact mem_here | apply mem_next | apply mem_past)) (by rw [ints_length, matN_length]) ?_)
    rw [hM]
    repeat (first | refine vops_q tyOk rfl ?_ | refine vops_nil ?_ | refine vw_ret ?_ | refine vops_eqM (a := (i : Int)) (a' := (i : Int)) (r := flatN 14 14 g) (q := flatN 14 14 (balP i i 0)) (e := 2) (s := 91) tyOk rfl rfl (by kernel_rfl) rfl rfl rfl (flatN_length _ _ _) (flatN_length _ _ _) (by kernel_rfl) ?_)
    exact rv_bool rfl rfl (decide_eq_decide.2 Iff.rfl)
/-- All numbers of different ones are 1, those of equal ones 0. -/
def BalM (n : Nat) (g : Nat → Nat → Int) : Prop := ∀ a b, a < n → b < n → g a b = if a = b then 0 else 1
theorem bal_iff {n : Nat} {g : Nat → Nat → Int} (hn : n ≤ 14) (hz : ∀ a b, n ≤ a ∨ n ≤ b → g a b = 0) : matN n 14 14 g = matN n 14 14 (balP n n 0) ↔ BalM n g := by
  have hb : ∀ a b, balP n n 0 a b = if a < n ∧ b < n ∧ a ≠ b then 1 else 0 := fun a b => by
    unfold balP
    by_cases h : a < n ∧ b < n ∧ a ≠ b
    · rw [if_pos h, if_pos ⟨h.1, h.2.1, h.2.2, .inl h.1⟩]
    · rw [if_neg h, if_neg fun h2 => h ⟨h2.1, h2.2.1, h2.2.2.1⟩]
  constructor
  · intro h a b ha hb'
    have := matN_inj h (i := a) (j := b) (by omega) (by omega)
    rw [hb] at this
    rw [this]
    by_cases e : a = b
    · rw [if_pos e, if_neg fun h => h.2.2 e]
    · rw [if_neg e, if_pos ⟨ha, hb', e⟩]
  · intro h
    refine matN_congr fun a b _ _ => ?_
    rw [hb]
    by_cases h1 : a < n ∧ b < n
    · rw [h a b h1.1 h1.2]
      by_cases e : a = b
      · rw [if_pos e, if_neg fun h => h.2.2 e]
      · rw [if_neg e, if_pos ⟨h1.1, h1.2, e⟩]
    · rw [hz a b (by omega), if_neg fun h => h1 ⟨h.1, h.2.1⟩]
end Go.Proofs.Ytlnohlomanapeaa
