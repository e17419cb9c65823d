import Derived.Test.YtlnohlomanapeaaCA1
import Derived.Test.YtlnohlomanapeaaSA
import Derived.Test.YtlnohlomanapeaaVLSquare
import Derived.Test.YtlnohlomanapeaaVLNb
import Derived.Test.YtlnohlomanapeaaVLA
/- Parts of the proof, one after another. No conditions of their own. -/
/- A part of the proof: CA7. No conditions of its own. -/
namespace Go.Proofs.Ytlnohlomanapeaa
open Go.VL
attribute [local irreducible] VWr VOps VD Calls

set_option maxHeartbeats 1000000 in
set_option maxRecDepth 100000 in
theorem c_maxL (v : Value) (l : List Int) (w : World) (hv : RdI w v l) (hl : l.length ≤ 1048576) (h0 : 0 < l.length) :
    Calls Try.prog 173 [v].toArray w (Res w (fun u new => new = [] ∧ ∃ r : Int, u = .int .i64 r ∧ r ∈ l ∧ ∀ x ∈ l, x ≤ r)) := by
  obtain ⟨b, o, cap, rfl, hcell⟩ := hv.at (i := 0) h0
  have hc0 := hcell 0 h0
  refine calls_of_vw Try.func173 rfl Try.ntmps173 (by simp) ?_
  repeat (first | refine vops_q tyOk rfl ?_ | refine vops_nil ?_ | refine vw_seq ?_ | refine vw_region (by kernel_rfl) ?_ | refine vw_cond rfl ?_)
  refine bs_dec (fun h => ?_) (fun h => ?_)
  · exfalso; omega
  repeat (first | refine vops_q tyOk rfl ?_ | refine vops_nil ?_ | refine vw_seq ?_ | refine vw_region (by kernel_rfl) ?_ | refine vops_p tyOk rfl (by (try simp only [inR]); omega) ?_ | refine vw_skip ?_ | refine vw_block ?_ | refine vops_load tyOk rfl rfl rfl (sees_old hc0 (by simp)) ?_)
  refine vw_loop (fun y f own => ∃ (i : Nat) (m : Int), 1 ≤ i ∧ i ≤ l.length ∧ y = l.length - i ∧ f 4 = .int .i64 i ∧ f 3 = .int .i64 m ∧ f 0 = .slice (some ⟨b, o, none⟩) l.length cap ∧ own = [] ∧ m ∈ l ∧ ∀ j : Nat, j < i → l.getD j 0 ≤ m) (l.length - 1)
    ⟨1, _, by omega, by omega, rfl, rfl, rfl, rfl, rfl, mem_getD h0, fun j hj => by rw [show j = 0 by omega]; exact Int.le_refl _⟩ ?_
  rintro y f own ⟨i, m, hi1, hi, rfl, h4, h3, h0', rfl, hm, hall⟩
  rw [upd_of h4, upd_of h3, upd_of h0']
  repeat (first | refine vops_q tyOk rfl ?_ | refine vops_nil ?_ | refine vw_seq ?_ | refine vw_region (by kernel_rfl) ?_ | refine vw_cond rfl ?_)
  refine bs_dec (fun hlt => ?_) (fun hlt => ?_)
  · have hil : i < l.length := by omega
    have hc := hcell i hil
    repeat (first | refine vops_q tyOk rfl ?_ | refine vops_nil ?_ | refine vw_seq ?_ | refine vw_region (by kernel_rfl) ?_ | refine vops_p tyOk rfl (by (try simp only [inR]); omega) ?_ | refine vw_skip ?_ | refine vw_block ?_ | refine vops_load tyOk rfl rfl rfl (sees_old hc (by simp)) ?_ | refine vops_max rfl rfl ?_)
    have hmem := mem_getD hil
    refine ⟨l.length - (i + 1), by omega, i + 1, _, by omega, by omega, rfl, rfl, rfl, rfl, rfl, ?_, fun j hj => ?_⟩
    · split
      · exact hmem
      · exact hm
    · by_cases hji : j = i
      · subst hji; split <;> omega
      · have := hall j (by omega); split <;> omega
  · obtain rfl : i = l.length := by omega
    repeat (first | refine vops_q tyOk rfl ?_ | refine vops_nil ?_ | refine vw_seq ?_ | refine vw_region (by kernel_rfl) ?_ | refine vw_ret ?_ | refine vw_exit ?_)
    refine out1 rfl rfl (new := []) List.nodup_nil sub_nil ⟨rfl, m, rfl, hm, fun x hx => ?_⟩
    obtain ⟨j, hj⟩ := List.mem_iff_getElem?.1 hx
    have := hall j (List.getElem?_eq_some_iff.1 hj).1
    rwa [List.getD_eq_getElem?_getD, hj] at this
set_option maxHeartbeats 1000000 in
set_option maxRecDepth 100000 in
theorem c_minL (v : Value) (l : List Int) (w : World) (hv : RdI w v l) (hl : l.length ≤ 1048576) (h0 : 0 < l.length) :
    Calls Try.prog 172 [v].toArray w (Res w (fun u new => new = [] ∧ ∃ r : Int, u = .int .i64 r ∧ r ∈ l ∧ ∀ x ∈ l, r ≤ x)) := by
  obtain ⟨b, o, cap, rfl, hcell⟩ := hv.at (i := 0) h0
  have hc0 := hcell 0 h0
  refine calls_of_vw Try.func172 rfl Try.ntmps172 (by simp) ?_
  repeat (first | refine vops_q tyOk rfl ?_ | refine vops_nil ?_ | refine vw_seq ?_ | refine vw_region (by kernel_rfl) ?_ | refine vw_cond rfl ?_)
  refine bs_dec (fun h => ?_) (fun h => ?_)
  · exfalso; omega
  repeat (first | refine vops_q tyOk rfl ?_ | refine vops_nil ?_ | refine vw_seq ?_ | refine vw_region (by kernel_rfl) ?_ | refine vops_p tyOk rfl (by (try simp only [inR]); omega) ?_ | refine vw_skip ?_ | refine vw_block ?_ | refine vops_load tyOk rfl rfl rfl (sees_old hc0 (by simp)) ?_)
  refine vw_loop (fun y f own => ∃ (i : Nat) (m : Int), 1 ≤ i ∧ i ≤ l.length ∧ y = l.length - i ∧ f 4 = .int .i64 i ∧ f 3 = .int .i64 m ∧ f 0 = .slice (some ⟨b, o, none⟩) l.length cap ∧ own = [] ∧ m ∈ l ∧ ∀ j : Nat, j < i → m ≤ l.getD j 0) (l.length - 1)
    ⟨1, _, by omega, by omega, rfl, rfl, rfl, rfl, rfl, mem_getD h0, fun j hj => by rw [show j = 0 by omega]; exact Int.le_refl _⟩ ?_
  rintro y f own ⟨i, m, hi1, hi, rfl, h4, h3, h0', rfl, hm, hall⟩
  rw [upd_of h4, upd_of h3, upd_of h0']
  repeat (first | refine vops_q tyOk rfl ?_ | refine vops_nil ?_ | refine vw_seq ?_ | refine vw_region (by kernel_rfl) ?_ | refine vw_cond rfl ?_)
  refine bs_dec (fun hlt => ?_) (fun hlt => ?_)
  · have hil : i < l.length := by omega
    have hc := hcell i hil
    repeat (first | refine vops_q tyOk rfl ?_ | refine vops_nil ?_ | refine vw_seq ?_ | refine vw_region (by kernel_rfl) ?_ | refine vops_p tyOk rfl (by (try simp only [inR]); omega) ?_ | refine vw_skip ?_ | refine vw_block ?_ | refine vops_load tyOk rfl rfl rfl (sees_old hc (by simp)) ?_ | refine vops_min rfl rfl ?_)
    have hmem := mem_getD hil
    refine ⟨l.length - (i + 1), by omega, i + 1, _, by omega, by omega, rfl, rfl, rfl, rfl, rfl, ?_, fun j hj => ?_⟩
    · split
      · exact hmem
      · exact hm
    · by_cases hji : j = i
      · subst hji; split <;> omega
      · have := hall j (by omega); split <;> omega
  · obtain rfl : i = l.length := by omega
    repeat (first | refine vops_q tyOk rfl ?_ | refine vops_nil ?_ | refine vw_seq ?_ | refine vw_region (by kernel_rfl) ?_ | refine vw_ret ?_ | refine vw_exit ?_)
    refine out1 rfl rfl (new := []) List.nodup_nil sub_nil ⟨rfl, m, rfl, hm, fun x hx => ?_⟩
    obtain ⟨j, hj⟩ := List.mem_iff_getElem?.1 hx
    have := hall j (List.getElem?_eq_some_iff.1 hj).1
    rwa [List.getD_eq_getElem?_getD, hj] at this

/-- A row of n numbers below n. -/
def RowN (n : Int) (l : List Int) : Prop := (l.length : Int) = n ∧ ∀ x ∈ l, 0 ≤ x ∧ x ≤ n - 1
/-- n rows of them. -/
def RowsN (n : Int) (ls : List (List Int)) : Prop := 1 ≤ n ∧ n ≤ 14 ∧ (ls.length : Int) = n ∧ ∀ l ∈ ls, RowN n l
theorem rowsN_all {n : Int} {ls : List (List Int)} (h1 : 1 ≤ n) (h2 : n ≤ 14) (h3 : (ls.length : Int) = n) (h : ∀ (j : Nat) (l : List Int), j < ls.length → ls[j]? = some l → RowN n l) : RowsN n ls :=
  ⟨h1, h2, h3, fun l hl => by
    obtain ⟨j, hj⟩ := List.mem_iff_getElem?.1 hl
    exact h j l (List.getElem?_eq_some_iff.1 hj).1 hj⟩
theorem to_next {α : Type} {p : α → Prop} {ls : List α} {i : Nat} {l : α} (hi : ls[i]? = some l) (h : ∀ (j : Nat) (l' : α), j < i → ls[j]? = some l' → p l') (hl : p l) : ∀ (j : Nat) (l' : α), j < i + 1 → ls[j]? = some l' → p l' := fun j l' hj hj' => by
  by_cases hji : j = i
  · subst hji
    obtain rfl : l = l' := Option.some.inj (hi.symm.trans hj')
    exact hl
  · exact h j l' (by omega) hj'
open Classical in
set_option maxHeartbeats 1000000 in
set_option maxRecDepth 100000 in
theorem c_areRowsOf (n : Int) (v : Value) (ls : List (List Int)) (w : World) (hv : RdII w v ls) (_hl : ls.length ≤ 1048576) (hll : ∀ l ∈ ls, l.length ≤ 1048576) :
    Calls Try.prog 119 [.int .i64 n, v].toArray w (Res w (Is (.bool (decide (RowsN n ls))))) := by
  obtain ⟨a, cap, rfl⟩ := hv.len
  refine calls_of_vw Try.func119 rfl Try.ntmps119 (by simp) ?_
  by_cases h : 1 ≤ n ∧ n ≤ 14 ∧ (ls.length : Int) = n
  rotate_left
  · repeat' (first | refine vops_q tyOk rfl ?_ | refine vops_nil ?_ | refine vw_seq ?_ | refine vw_region (by kernel_rfl) ?_ | refine vops_guardF rfl rfl ?_ | with_reducible refine bs_true ?_ | with_reducible refine bs_false ?_ | refine vw_cond rfl ?_ | refine vw_ret ?_ | (with_reducible refine bs_ndec (fun _ => ?_) (fun _ => ?_)) <;> try (exfalso; omega) | (apply vops_callp ent123 rfl; (intro w _; exact c_isLength _ w)))
    all_goals first
      | exact rv_bool rfl rfl (decide_eq_false fun hh => h ⟨hh.1, hh.2.1, hh.2.2.1⟩).symm
      | (exfalso; exact h ⟨by omega, by omega, by omega⟩)
  obtain ⟨h1, h14, hn⟩ := h
  repeat' (first | refine vops_q tyOk rfl ?_ | refine vops_nil ?_ | refine vw_seq ?_ | refine vw_region (by kernel_rfl) ?_ | refine vops_guardF rfl rfl ?_ | with_reducible refine bs_false ?_ | refine vw_cond rfl ?_ | refine vw_skip ?_ | refine vw_block ?_ | (with_reducible refine bs_ndec (fun _ => ?_) (fun _ => ?_)) <;> try (exfalso; omega) | (apply vops_callp ent123 rfl; (intro w _; exact c_isLength _ w)))
  all_goals first | (exfalso; omega) | skip
  refine vw_loop (fun y f own => ∃ i : Nat, i ≤ ls.length ∧ y = ls.length - i ∧ f 18 = .int .i64 i ∧ f 17 = .int .i64 ls.length ∧ f 16 = .slice a ls.length cap ∧ f 0 = .int .i64 n ∧ own = [] ∧ ∀ (j : Nat) (l : List Int), j < i → ls[j]? = some l → RowN n l) ls.length
    ⟨0, by omega, by omega, rfl, rfl, rfl, rfl, rfl, fun j l hj => by omega⟩ ?_
  rintro y f own ⟨i, hi, rfl, h18, h17, h16, h0, rfl, hall⟩
  rw [upd_of h18, upd_of h17, upd_of h16, upd_of h0]
  repeat (first | refine vops_q tyOk rfl ?_ | refine vops_nil ?_ | refine vw_seq ?_ | refine vw_region (by kernel_rfl) ?_ | refine vw_cond rfl ?_)
  refine bs_dec (fun hlt => ?_) (fun hlt => ?_)
  · obtain ⟨l, hli⟩ : ∃ l, ls[i]? = some l := ⟨_, List.getElem?_eq_getElem (by omega)⟩
    have hmem := List.mem_of_getElem? hli
    have hl1 := hll l hmem
    obtain ⟨b', o, cap', u, he, hcu, hu⟩ := hv.at hli
    cases he
    obtain ⟨a2, cap2, rfl⟩ := hu.len
    repeat' (first | refine vops_q tyOk rfl ?_ | refine vops_nil ?_ | refine vw_seq ?_ | refine vw_region (by kernel_rfl) ?_ | refine vops_guardF rfl rfl ?_ | with_reducible refine bs_true ?_ | with_reducible refine bs_false ?_ | refine vops_p tyOk rfl (by (try simp only [inR]); omega) ?_ | refine vw_cond rfl ?_ | refine vw_skip ?_ | refine vw_block ?_ | refine vw_ret ?_ | (with_reducible refine bs_dec (fun _ => ?_) (fun _ => ?_)) <;> try (exfalso; omega) | (with_reducible refine bs_ndec (fun _ => ?_) (fun _ => ?_)) <;> try (exfalso; omega) | refine vops_load tyOk rfl rfl rfl (sees_old hcu (by simp)) ?_ | (apply vops_call ent172 rfl; (intro w' hg; exact c_minL _ l w' (hu.same hg.fr) hl1 (by omega)); (rintro _ newN ⟨rfl, r, rfl, hr1, hr2⟩)) | (apply vops_call ent173 rfl; (intro w' hg; exact c_maxL _ l w' (hu.same hg.fr) hl1 (by omega)); (rintro _ newN ⟨rfl, q, rfl, hq1, hq2⟩)))
    all_goals first
      | exact rv_bool rfl rfl (decide_eq_false fun hh => by have := (hh.2.2.2 l hmem).1; omega).symm
      | exact rv_bool rfl rfl (decide_eq_false fun hh => by have := (hh.2.2.2 l hmem).2 r hr1; omega).symm
      | exact rv_bool rfl rfl (decide_eq_false fun hh => by have := (hh.2.2.2 l hmem).2 q hq1; omega).symm
      | exact ⟨ls.length - (i + 1), by omega, i + 1, by omega, rfl, rfl, rfl, rfl, rfl, rfl, to_next hli hall ⟨by omega, fun x hx => by have := hr2 x hx; have := hq2 x hx; omega⟩⟩
  · obtain rfl : i = ls.length := by omega
    repeat (first | refine vops_q tyOk rfl ?_ | refine vops_nil ?_ | refine vw_seq ?_ | refine vw_region (by kernel_rfl) ?_ | refine vw_ret ?_ | refine vw_exit ?_)
    exact rv_bool rfl rfl (decide_eq_true (rowsN_all h1 h14 hn hall)).symm

open Classical in
set_option maxHeartbeats 1000000 in
set_option maxRecDepth 100000 in
theorem c_l09Rows (n : Int) (v : Value) (ls : List (List Int)) (w : World) (hv : RdII w v ls) (_hl : ls.length ≤ 1048576) (hll : ∀ l ∈ ls, l.length ≤ 1048576) :
    Calls Try.prog 127 [.int .i64 n, v].toArray w (Res w (Is (.int .i64 (if RowsN n ls then 0 else 2)))) := by
  obtain ⟨a, cap, rfl⟩ := hv.len
  refine calls_of_vw Try.func127 rfl Try.ntmps127 (by simp) ?_
  by_cases h : 1 ≤ n ∧ n ≤ 14 ∧ (ls.length : Int) = n
  rotate_left
  · repeat' (first | refine vops_q tyOk rfl ?_ | refine vops_nil ?_ | refine vw_seq ?_ | refine vw_region (by kernel_rfl) ?_ | refine vops_guardF rfl rfl ?_ | with_reducible refine bs_true ?_ | with_reducible refine bs_false ?_ | refine vw_cond rfl ?_ | refine vw_ret ?_ | (with_reducible refine bs_ndec (fun _ => ?_) (fun _ => ?_)) <;> try (exfalso; omega) | (apply vops_callp ent124 rfl; (intro w _; exact c_l01In _ _ _ w)))
    all_goals first
      | exact rv_int rfl rfl (if_neg fun hh => h ⟨hh.1, hh.2.1, hh.2.2.1⟩).symm
      | (exfalso; exact h ⟨by omega, by omega, by omega⟩)
  obtain ⟨h1, h14, hn⟩ := h
  repeat' (first | refine vops_q tyOk rfl ?_ | refine vops_nil ?_ | refine vw_seq ?_ | refine vw_region (by kernel_rfl) ?_ | refine vops_guardF rfl rfl ?_ | with_reducible refine bs_false ?_ | refine vw_cond rfl ?_ | refine vw_skip ?_ | refine vw_block ?_ | (with_reducible refine bs_ndec (fun _ => ?_) (fun _ => ?_)) <;> try (exfalso; omega) | (apply vops_callp ent124 rfl; (intro w _; exact c_l01In _ _ _ w)))
  all_goals first | (exfalso; omega) | skip
  refine vw_loop (fun y f own => ∃ i : Nat, i ≤ ls.length ∧ y = ls.length - i ∧ f 5 = .int .i64 i ∧ f 1 = .slice a ls.length cap ∧ f 0 = .int .i64 n ∧ own = [] ∧ ∀ (j : Nat) (l : List Int), j < i → ls[j]? = some l → RowN n l) ls.length
    ⟨0, by omega, by omega, rfl, rfl, rfl, rfl, fun j l hj => by omega⟩ ?_
  rintro y f own ⟨i, hi, rfl, h5, h1', h0, rfl, hall⟩
  rw [upd_of h5, upd_of h1', upd_of h0]
  repeat (first | refine vops_q tyOk rfl ?_ | refine vops_nil ?_ | refine vw_seq ?_ | refine vw_region (by kernel_rfl) ?_ | refine vw_cond rfl ?_)
  refine bs_dec (fun hlt => ?_) (fun hlt => ?_)
  · obtain ⟨l, hli⟩ : ∃ l, ls[i]? = some l := ⟨_, List.getElem?_eq_getElem (by omega)⟩
    have hmem := List.mem_of_getElem? hli
    have hl1 := hll l hmem
    obtain ⟨b', o, cap', u, he, hcu, hu⟩ := hv.at hli
    cases he
    obtain ⟨a2, cap2, rfl⟩ := hu.len
    repeat (first | refine vops_q tyOk rfl ?_ | refine vops_nil ?_ | refine vw_seq ?_ | refine vw_region (by kernel_rfl) ?_ | refine vops_p tyOk rfl (by (try simp only [inR]); omega) ?_ | refine vw_cond rfl ?_ | refine vw_skip ?_ | refine vw_block ?_ | refine vops_load tyOk rfl rfl rfl (sees_old hcu (by simp)) ?_)
    refine bs_ndec2 (fun h7 => ?_) (fun h7 => ?_)
    · repeat (first | refine vops_q tyOk rfl ?_ | refine vops_nil ?_ | refine vw_seq ?_ | refine vw_region (by kernel_rfl) ?_ | refine vw_ret ?_)
      exact rv_int rfl rfl (if_neg fun hh => h7 (hh.2.2.2 l hmem).1).symm
    repeat (first | refine vops_q tyOk rfl ?_ | refine vops_nil ?_ | refine vw_seq ?_ | refine vw_region (by kernel_rfl) ?_ | refine vw_skip ?_ | refine vw_block ?_)
    refine vw_loop (fun y f own => ∃ k : Nat, k ≤ l.length ∧ y = l.length - k ∧ f 6 = .int .i64 k ∧ f 5 = .int .i64 i ∧ f 1 = .slice (some ⟨b', o, none⟩) ls.length cap ∧ f 0 = .int .i64 n ∧ own = [] ∧ ∀ j : Nat, j < k → 0 ≤ l.getD j 0 ∧ l.getD j 0 ≤ n - 1) l.length
      ⟨0, by omega, by omega, rfl, rfl, rfl, rfl, rfl, fun j hj => by omega⟩ ?_
    rintro y f own ⟨k, hk, rfl, h6, h5, h1', h0, rfl, hrow⟩
    rw [upd_of h6, upd_of h5, upd_of h1', upd_of h0]
    repeat (first | refine vops_q tyOk rfl ?_ | refine vops_nil ?_ | refine vw_seq ?_ | refine vw_region (by kernel_rfl) ?_ | refine vops_p tyOk rfl (by (try simp only [inR]); omega) ?_ | refine vw_cond rfl ?_ | refine vops_load tyOk rfl rfl rfl (sees_old hcu (by simp)) ?_)
    refine bs_dec (fun hlt2 => ?_) (fun hlt2 => ?_)
    · have hkl : k < l.length := by omega
      obtain ⟨b3, o3, cap3, he3, hcell⟩ := hu.at (i := k) hkl
      cases he3
      have hc := hcell k hkl
      repeat (first | refine vops_q tyOk rfl ?_ | refine vops_nil ?_ | refine vw_seq ?_ | refine vw_region (by kernel_rfl) ?_ | refine vops_p tyOk rfl (by (try simp only [inR]); omega) ?_ | refine vw_cond rfl ?_ | refine vw_skip ?_ | refine vw_block ?_ | refine vops_load tyOk rfl rfl rfl (sees_old hcu (by simp)) ?_ | refine vops_load tyOk rfl rfl rfl (sees_old hc (by simp)) ?_ | (apply vops_callp ent124 rfl; (intro w _; exact c_l01In _ _ _ w)))
      refine bs_ndec2 (fun h8 => ?_) (fun h8 => ?_)
      · repeat (first | refine vops_q tyOk rfl ?_ | refine vops_nil ?_ | refine vw_seq ?_ | refine vw_region (by kernel_rfl) ?_ | refine vw_ret ?_)
        exact rv_int rfl rfl (if_neg fun hh => h8 ((hh.2.2.2 l hmem).2 _ (mem_getD hkl))).symm
      · repeat (first | refine vops_q tyOk rfl ?_ | refine vops_nil ?_ | refine vw_region (by kernel_rfl) ?_ | refine vops_p tyOk rfl (by (try simp only [inR]); omega) ?_ | refine vw_skip ?_)
        refine ⟨l.length - (k + 1), by omega, k + 1, by omega, rfl, rfl, rfl, rfl, rfl, rfl, fun j hj => ?_⟩
        by_cases hji : j = k
        · subst hji; exact h8
        · exact hrow j (by omega)
    · obtain rfl : k = l.length := by omega
      repeat (first | refine vops_q tyOk rfl ?_ | refine vops_nil ?_ | refine vw_region (by kernel_rfl) ?_ | refine vops_p tyOk rfl (by (try simp only [inR]); omega) ?_ | refine vw_exit ?_)
      refine ⟨ls.length - (i + 1), by omega, i + 1, by omega, rfl, rfl, rfl, rfl, rfl, to_next hli hall ⟨h7, fun x hx => ?_⟩⟩
      obtain ⟨j, hj⟩ := List.mem_iff_getElem?.1 hx
      have := hrow j (List.getElem?_eq_some_iff.1 hj).1
      rwa [List.getD_eq_getElem?_getD, hj] at this
  · obtain rfl : i = ls.length := by omega
    repeat (first | refine vops_q tyOk rfl ?_ | refine vops_nil ?_ | refine vw_seq ?_ | refine vw_region (by kernel_rfl) ?_ | refine vw_ret ?_ | refine vw_exit ?_)
    exact rv_int rfl rfl (if_pos (rowsN_all h1 h14 hn hall)).symm
end Go.Proofs.Ytlnohlomanapeaa

/- A part of the proof: CA8. No conditions of its own. -/
namespace Go.Proofs.Ytlnohlomanapeaa
open Go.VL
attribute [local irreducible] VWr VOps VD Calls

/-- The numbers at the place k. -/
def colOf (ls : List (List Int)) (k : Nat) : List Int := ls.map fun l => l.getD k 0
theorem colOf_length (ls : List (List Int)) (k : Nat) : (colOf ls k).length = ls.length := by simp [colOf]
theorem colOf_take {ls : List (List Int)} {k i : Nat} {l : List Int} (h : ls[i]? = some l) : (colOf ls k).take (i + 1) = (colOf ls k).take i ++ [l.getD k 0] := by
  have : (colOf ls k)[i]? = some (l.getD k 0) := by rw [colOf, List.getElem?_map, h]; rfl
  rw [List.take_add_one, this]; rfl
/-- A square. -/
def SqOk (ls : List (List Int)) : Prop := ∀ (k : Nat) (l : List Int), ls[k]? = some l → IsPerm ls.length l ∧ IsPerm ls.length (colOf ls k)
theorem sqOk_all {ls : List (List Int)} (h : ∀ (j : Nat) (l : List Int), j < ls.length → ls[j]? = some l → IsPerm ls.length l ∧ IsPerm ls.length (colOf ls j)) : SqOk ls := fun k l hk => h k l (List.getElem?_eq_some_iff.1 hk).1 hk

set_option maxHeartbeats 1000000 in
set_option maxRecDepth 100000 in
theorem c_columnOf (v : Value) (ls : List (List Int)) (k : Nat) (hk : ∀ l ∈ ls, k < l.length) (hl : ls.length ≤ 1000) (w : World) (hv : RdII w v ls) :
    Calls Try.prog 174 [v, .int .i64 k].toArray w (Res w (NewI 2 (colOf ls k))) := by
  obtain ⟨a, cap, rfl⟩ := hv.len
  refine calls_of_vw Try.func174 rfl Try.ntmps174 (by simp) ?_
  repeat (first | refine vops_q tyOk rfl ?_ | refine vops_nil ?_ | refine vw_seq ?_ | refine vw_region (by kernel_rfl) ?_ | refine vw_block ?_)
  refine vw_loopW (fun y f own => ∃ (i : Nat) (p : Option Addr) (c : Nat) (X : Own), i ≤ ls.length ∧ y = ls.length - i ∧ f 10 = .int .i64 i ∧ f 9 = .int .i64 ls.length ∧ f 8 = .slice a ls.length cap ∧ f 1 = .int .i64 k ∧ f 5 = .slice p i c ∧ NewI 2 ((colOf ls k).take i) (.slice p i c) X ∧ own = X) ls.length
    ⟨_, ole_refl, 0, none, 0, [], by omega, by omega, rfl, rfl, rfl, rfl, rfl, NewI.nil, rfl⟩ ?_
  rintro y f own ⟨i, p, c, X, hi, rfl, h10, h9, h8, h1, h5, hX, rfl⟩
  rw [upd_of h10, upd_of h9, upd_of h8, upd_of h1, upd_of h5]
  have hti : ((colOf ls k).take i).length = i := by rw [List.length_take, colOf_length]; omega
  repeat (first | refine vops_q tyOk rfl ?_ | refine vops_nil ?_ | refine vw_seq ?_ | refine vw_region (by kernel_rfl) ?_ | refine vw_cond rfl ?_)
  refine bs_dec (fun hlt => ?_) (fun hlt => ?_)
  · obtain ⟨l, hli⟩ : ∃ l, ls[i]? = some l := ⟨_, List.getElem?_eq_getElem (by omega)⟩
    have hmem := List.mem_of_getElem? hli
    have hkl := hk l hmem
    obtain ⟨b', o, cap', u, he, hcu, hu⟩ := hv.at hli
    cases he
    obtain ⟨b3, o3, cap3, rfl, hcell⟩ := hu.at (i := k) hkl
    have hc := hcell k hkl
    have hXf : NewF 2 1 i ((colOf ls k).take i) (.slice p i c) own := by
      have := NewI.f hX
      rwa [hti] at this
    repeat (first | refine vops_q tyOk rfl ?_ | refine vops_nil ?_ | refine vw_seq ?_ | refine vw_region (by kernel_rfl) ?_ | refine vops_p tyOk rfl (by (try simp only [inR]); omega) ?_ | refine vw_skip ?_ | refine vw_block ?_ | refine vops_load tyOk rfl rfl rfl (sees_old hcu (by simp)) ?_ | refine vops_load tyOk rfl rfl rfl (sees_old hc (by simp)) ?_ | refine vops_litI [_] tyOk rfl rfl (List.cons_ne_nil _ _) (by rfl) rfl (by omega) (by omega) (fun bt hbt => ?_) | refine vops_append1 (k := 1) tyOk rfl rfl (List.cons_ne_nil _ _) rfl rfl (by decide) rfl hXf (by repeat (first | exact pm_here | exact pm_last | apply pm_next | apply pm_past)) rfl (by repeat (first | exact mem_here | apply mem_next | apply mem_past)) rfl (by omega) (fun p' cap' new' hN' => ?_))
    refine ⟨ls.length - (i + 1), by omega, new', ⟨_, List.Perm.refl _⟩, i + 1, p', cap', new', by omega, rfl, rfl, rfl, rfl, rfl, rfl, ?_, rfl⟩
    rw [colOf_take hli]
    exact NewI.snoc hN' hti.symm
  · obtain rfl : i = ls.length := by omega
    rw [List.take_of_length_le (by rw [colOf_length]; omega)] at hX
    refine vw_nodup (fun hnd => ?_)
    repeat (first | refine vops_q tyOk rfl ?_ | refine vops_nil ?_ | refine vw_seq ?_ | refine vw_region (by kernel_rfl) ?_ | refine vw_ret ?_ | refine vw_exit ?_)
    exact out1 rfl rfl hnd (fun _ h => h) hX

open Classical in
set_option maxHeartbeats 1000000 in
set_option maxRecDepth 100000 in
theorem c_haveEachOnce (v : Value) (ls : List (List Int)) (hR : RowsN ls.length ls) (w : World) (hv : RdII w v ls) :
    Calls Try.prog 120 [.int .i64 ls.length, v].toArray w (Res w (Is (.bool (decide (SqOk ls))))) := by
  obtain ⟨a, cap, rfl⟩ := hv.len
  have h1 := hR.1
  have h14 := hR.2.1
  refine calls_of_vw Try.func120 rfl Try.ntmps120 (by simp) ?_
  repeat (first | refine vops_q tyOk rfl ?_ | refine vops_nil ?_ | refine vw_seq ?_ | refine vw_region (by kernel_rfl) ?_ | refine vw_block ?_)
  refine vw_loopW (fun y f own => ∃ i : Nat, i ≤ ls.length ∧ y = ls.length - i ∧ f 9 = .int .i64 i ∧ f 8 = .int .i64 ls.length ∧ f 7 = .slice a ls.length cap ∧ f 0 = .int .i64 ls.length ∧ f 1 = .slice a ls.length cap ∧ own = [] ∧ ∀ (j : Nat) (l : List Int), j < i → ls[j]? = some l → IsPerm ls.length l ∧ IsPerm ls.length (colOf ls j)) ls.length
    ⟨_, ole_refl, 0, by omega, by omega, rfl, rfl, rfl, rfl, rfl, rfl, fun j l hj => by omega⟩ ?_
  rintro y f own ⟨i, hi, rfl, h9, h8, h7, h0, h1', rfl, hall⟩
  rw [upd_of h9, upd_of h8, upd_of h7, upd_of h0, upd_of h1']
  repeat (first | refine vops_q tyOk rfl ?_ | refine vops_nil ?_ | refine vw_seq ?_ | refine vw_region (by kernel_rfl) ?_ | refine vw_cond rfl ?_)
  refine bs_dec (fun hlt => ?_) (fun hlt => ?_)
  · obtain ⟨l, hli⟩ : ∃ l, ls[i]? = some l := ⟨_, List.getElem?_eq_getElem (by omega)⟩
    have hmem := List.mem_of_getElem? hli
    have hl1 := (hR.2.2.2 l hmem).1
    obtain ⟨b', o, cap', u, he, hcu, hu⟩ := hv.at hli
    cases he
    obtain ⟨a2, cap2, rfl⟩ := hu.len
    have hcl := colOf_length ls i
    have hkk : ∀ l' ∈ ls, i < l'.length := fun l' hl' => by have := (hR.2.2.2 l' hl').1; omega
    repeat' (first | refine vops_q tyOk rfl ?_ | refine vops_nil ?_ | refine vw_seq ?_ | refine vw_region (by kernel_rfl) ?_ | refine vops_guardF rfl rfl ?_ | with_reducible refine bs_true ?_ | with_reducible refine bs_false ?_ | refine vops_p tyOk rfl (by (try simp only [inR]); omega) ?_ | refine vw_cond rfl ?_ | refine vw_skip ?_ | refine vw_block ?_ | refine vw_ret ?_ | (with_reducible refine bs_ndec (fun _ => ?_) (fun _ => ?_)) <;> try (exfalso; omega) | refine vops_load tyOk rfl rfl rfl (sees_old hcu (by simp)) ?_ | (apply vops_callp ent95 rfl; (intro w' hg; exact c_isPermutation _ l _ w' (hu.same hg.fr) (by omega) (by omega) (by omega))) | (apply vops_callp ent95 rfl; (intro w' hg; exact c_isPermutation _ (colOf ls i) _ w' (NewI.see (by assumption) (by repeat (first | exact sub_hereL | exact sub_refl | apply sub_cons | apply sub_app)) _ hg) (by omega) (by omega) (by omega))) | (apply vops_call ent174 rfl; (intro w' hg; exact c_columnOf _ ls i hkk (by omega) w' (hv.same hg.fr)); (intro _ newN hN; obtain ⟨_, _, rfl⟩ := SlAt.form hN)))
    all_goals first
      | exact rv_bool rfl rfl (decide_eq_false fun hh => absurd (hh i l hli).1 (by assumption)).symm
      | exact rv_bool rfl rfl (decide_eq_false fun hh => absurd (hh i l hli).2 (by assumption)).symm
      | exact ⟨ls.length - (i + 1), by omega, [], ole_nil, i + 1, by omega, rfl, rfl, rfl, rfl, rfl, rfl, rfl, fun j l' hj hj' => by
          by_cases hji : j = i
          · subst hji
            obtain rfl : l = l' := Option.some.inj (hli.symm.trans hj')
            exact ⟨by assumption, by assumption⟩
          · exact hall j l' (by omega) hj'⟩
  · obtain rfl : i = ls.length := by omega
    repeat (first | refine vops_q tyOk rfl ?_ | refine vops_nil ?_ | refine vw_seq ?_ | refine vw_region (by kernel_rfl) ?_ | refine vw_ret ?_ | refine vw_exit ?_)
    exact rv_bool rfl rfl (decide_eq_true (sqOk_all hall)).symm

open Classical in
set_option maxHeartbeats 1000000 in
set_option maxRecDepth 100000 in
theorem c_l09Square (v : Value) (ls : List (List Int)) (hR : RowsN ls.length ls) (w : World) (hv : RdII w v ls) :
    Calls Try.prog 128 [.int .i64 ls.length, v].toArray w (Res w (Is (.bool (decide (SqOk ls))))) := by
  obtain ⟨a, cap, rfl⟩ := hv.len
  have h1 := hR.1
  have h14 := hR.2.1
  refine calls_of_vw Try.func128 rfl Try.ntmps128 (by simp) ?_
  repeat (first | refine vops_q tyOk rfl ?_ | refine vops_nil ?_ | refine vw_seq ?_ | refine vw_region (by kernel_rfl) ?_ | refine vw_block ?_)
  refine vw_loopW (fun y f own => ∃ i : Nat, i ≤ ls.length ∧ y = ls.length - i ∧ f 5 = .int .i64 i ∧ f 0 = .int .i64 ls.length ∧ f 1 = .slice a ls.length cap ∧ own = [] ∧ ∀ (j : Nat) (l : List Int), j < i → ls[j]? = some l → IsPerm ls.length l ∧ IsPerm ls.length (colOf ls j)) ls.length
    ⟨_, ole_refl, 0, by omega, by omega, rfl, rfl, rfl, rfl, fun j l hj => by omega⟩ ?_
  rintro y f own ⟨i, hi, rfl, h5, h0, h1', rfl, hall⟩
  rw [upd_of h5, upd_of h0, upd_of h1']
  repeat (first | refine vops_q tyOk rfl ?_ | refine vops_nil ?_ | refine vw_seq ?_ | refine vw_region (by kernel_rfl) ?_ | refine vw_cond rfl ?_)
  refine bs_dec (fun hlt => ?_) (fun hlt => ?_)
  · obtain ⟨l, hli⟩ : ∃ l, ls[i]? = some l := ⟨_, List.getElem?_eq_getElem (by omega)⟩
    have hmem := List.mem_of_getElem? hli
    have hl1 := (hR.2.2.2 l hmem).1
    have hcl := colOf_length ls i
    repeat (first | refine vw_seq ?_ | refine vw_region (by kernel_rfl) ?_ | refine vw_skip ?_ | refine vw_block ?_)
    refine vops_build0 tyOk rfl rfl (fun b6 hb6 => ?_)
    repeat (first | refine vops_q tyOk rfl ?_ | refine vops_nil ?_ | refine vw_seq ?_ | refine vw_region (by kernel_rfl) ?_ | refine vw_block ?_)
    refine vw_loopW (fun y f own => ∃ (k : Nat) (p : Option Addr) (c : Nat) (X : Own), k ≤ ls.length ∧ y = ls.length - k ∧ f 7 = .int .i64 k ∧ f 6 = .slice p k c ∧ f 5 = .int .i64 i ∧ f 0 = .int .i64 ls.length ∧ f 1 = .slice a ls.length cap ∧ NewI 2 ((colOf ls i).take k) (.slice p k c) X ∧ own = X) ls.length
      ⟨_, ole_refl, 0, some ⟨b6, 0, none⟩, 0, _, by omega, by omega, rfl, rfl, rfl, rfl, rfl, NewI.empty, rfl⟩ ?_
    rintro y f own ⟨k, p, c, X, hk, rfl, h7, h6, h5, h0, h1', hX, rfl⟩
    rw [upd_of h7, upd_of h6, upd_of h5, upd_of h0, upd_of h1']
    have hti : ((colOf ls i).take k).length = k := by rw [List.length_take, colOf_length]; omega
    repeat (first | refine vops_q tyOk rfl ?_ | refine vops_nil ?_ | refine vw_seq ?_ | refine vw_region (by kernel_rfl) ?_ | refine vw_cond rfl ?_)
    refine bs_dec (fun hlt2 => ?_) (fun hlt2 => ?_)
    · obtain ⟨q, hqi⟩ : ∃ q, ls[k]? = some q := ⟨_, List.getElem?_eq_getElem (by omega)⟩
      have hql := (hR.2.2.2 q (List.mem_of_getElem? hqi)).1
      obtain ⟨b', o, cap', u, he, hcu, hu⟩ := hv.at hqi
      cases he
      obtain ⟨b3, o3, cap3, rfl, hcell⟩ := hu.at (i := i) (by omega)
      have hc := hcell i (by omega)
      have hXf : NewF 2 1 k ((colOf ls i).take k) (.slice p k c) own := by
        have := NewI.f hX
        rwa [hti] at this
      repeat (first | refine vops_q tyOk rfl ?_ | refine vops_nil ?_ | refine vw_seq ?_ | refine vw_region (by kernel_rfl) ?_ | refine vops_p tyOk rfl (by (try simp only [inR]); omega) ?_ | refine vw_skip ?_ | refine vw_block ?_ | refine vops_load tyOk rfl rfl rfl (sees_old hcu (by simp)) ?_ | refine vops_load tyOk rfl rfl rfl (sees_old hc (by simp)) ?_ | refine vops_litI [_] tyOk rfl rfl (List.cons_ne_nil _ _) (by rfl) rfl (by omega) (by omega) (fun bt hbt => ?_) | refine vops_append1 (k := 1) tyOk rfl rfl (List.cons_ne_nil _ _) rfl rfl (by decide) rfl hXf (by repeat (first | exact pm_here | exact pm_last | apply pm_next | apply pm_past)) rfl (by repeat (first | exact mem_here | apply mem_next | apply mem_past)) rfl (by omega) (fun p' cap' new' hN' => ?_))
      refine ⟨ls.length - (k + 1), by omega, new', ⟨_, List.Perm.refl _⟩, k + 1, p', cap', new', by omega, rfl, rfl, rfl, rfl, rfl, rfl, ?_, rfl⟩
      rw [colOf_take hqi]
      exact NewI.snoc hN' hti.symm
    · obtain rfl : k = ls.length := by omega
      rw [List.take_of_length_le (by rw [colOf_length]; omega)] at hX
      obtain ⟨b', o, cap', u, he, hcu, hu⟩ := hv.at hli
      cases he
      obtain ⟨a2, cap2, rfl⟩ := hu.len
      repeat' (first | refine vops_q tyOk rfl ?_ | refine vops_nil ?_ | refine vw_seq ?_ | refine vw_region (by kernel_rfl) ?_ | refine vops_guardF rfl rfl ?_ | with_reducible refine bs_true ?_ | with_reducible refine bs_false ?_ | refine vops_p tyOk rfl (by (try simp only [inR]); omega) ?_ | refine vw_cond rfl ?_ | refine vw_skip ?_ | refine vw_ret ?_ | refine vw_exit ?_ | (with_reducible refine bs_ndec (fun _ => ?_) (fun _ => ?_)) <;> try (exfalso; omega) | refine vops_load tyOk rfl rfl rfl (sees_old hcu (by simp)) ?_ | (apply vops_callp ent166 rfl; (intro w' hg; exact c_l01Order _ l _ w' (hu.same hg.fr) (by omega) (by omega) (by omega))) | (apply vops_callp ent166 rfl; (intro w' hg; exact c_l01Order _ (colOf ls i) _ w' (NewI.see (e := 2) (by first | assumption | (rw [hcl]; assumption)) (by repeat (first | exact sub_hereL | exact sub_refl | apply sub_cons | apply sub_app)) _ hg) (by omega) (by omega) (by omega))))
      all_goals first
        | exact rv_bool rfl rfl (decide_eq_false fun hh => absurd (hh i l hli).1 (by assumption)).symm
        | exact rv_bool rfl rfl (decide_eq_false fun hh => absurd (hh i l hli).2 (by assumption)).symm
        | exact ⟨ls.length - (i + 1), by omega, [], ole_nil, i + 1, by omega, rfl, rfl, rfl, rfl, rfl, fun j l' hj hj' => by
            by_cases hji : j = i
            · subst hji
              obtain rfl : l = l' := Option.some.inj (hli.symm.trans hj')
              exact ⟨by assumption, by assumption⟩
            · exact hall j l' (by omega) hj'⟩
  · obtain rfl : i = ls.length := by omega
    repeat (first | refine vops_q tyOk rfl ?_ | refine vops_nil ?_ | refine vw_seq ?_ | refine vw_region (by kernel_rfl) ?_ | refine vw_ret ?_ | refine vw_exit ?_)
    exact rv_bool rfl rfl (decide_eq_true (sqOk_all hall)).symm

open Classical in
noncomputable def sqOfR (n : Int) (ls : List (List Int)) : Bool × Int := if RowsN n ls then (decide (SqOk ls), 0) else (false, 2)
open Classical in
set_option maxHeartbeats 1000000 in
set_option maxRecDepth 100000 in
theorem c_impl_IsSquareOf (n : Int) (v : Value) (ls : List (List Int)) (w : World) (hv : RdII w v ls) (hl : ls.length ≤ 1048576) (hll : ∀ l ∈ ls, l.length ≤ 1048576) :
    Calls Try.prog 47 [.int .i64 n, v].toArray w (Res w (Is (.tuple #[.bool (sqOfR n ls).1, .int .i64 (sqOfR n ls).2]))) := by
  obtain ⟨a, cap, rfl⟩ := hv.len
  refine calls_of_vw Try.func47 rfl Try.ntmps47 (by simp) ?_
  repeat (first | refine vops_q tyOk rfl ?_ | refine vops_nil ?_ | refine vw_seq ?_ | refine vw_region (by kernel_rfl) ?_ | refine vw_cond rfl ?_ | (apply vops_callp ent119 rfl; (intro w' hg; exact c_areRowsOf _ _ ls w' (hv.same hg.fr) hl hll)))
  refine bs_ndec2 (fun h => ?_) (fun h => ?_)
  · repeat (first | refine vops_q tyOk rfl ?_ | refine vops_nil ?_ | refine vw_seq ?_ | refine vw_region (by kernel_rfl) ?_ | refine vw_ret ?_)
    exact out_bn rfl rfl rfl rfl (by rw [sqOfR, if_neg h])
  obtain rfl : n = (ls.length : Int) := h.2.2.1.symm
  repeat (first | refine vops_q tyOk rfl ?_ | refine vops_nil ?_ | refine vw_seq ?_ | refine vw_region (by kernel_rfl) ?_ | refine vw_skip ?_ | refine vw_ret ?_ | (apply vops_callp ent120 rfl; (intro w' hg; exact c_haveEachOnce _ ls h w' (hv.same hg.fr))))
  exact out_bn rfl rfl rfl rfl (by rw [sqOfR, if_pos h])
open Classical in
set_option maxHeartbeats 1000000 in
set_option maxRecDepth 100000 in
theorem c_spec_IsSquareOf (n : Int) (v : Value) (ls : List (List Int)) (w : World) (hv : RdII w v ls) (hl : ls.length ≤ 1048576) (hll : ∀ l ∈ ls, l.length ≤ 1048576) :
    Calls Try.prog 54 [.int .i64 n, v].toArray w (Res w (Is (.tuple #[.bool (sqOfR n ls).1, .int .i64 (sqOfR n ls).2]))) := by
  obtain ⟨a, cap, rfl⟩ := hv.len
  refine calls_of_vw Try.func54 rfl Try.ntmps54 (by simp) ?_
  by_cases h : RowsN n ls
  · obtain rfl : n = (ls.length : Int) := h.2.2.1.symm
    repeat (first | refine vops_q tyOk rfl ?_ | refine vops_nil ?_ | refine vw_seq ?_ | refine vw_region (by kernel_rfl) ?_ | refine vw_cond rfl ?_ | (apply vops_callp ent127 rfl; (intro w' hg; exact c_l09Rows _ _ ls w' (hv.same hg.fr) hl hll)))
    rw [if_pos h]
    skip
    refine bs_ndec2 (fun hh => absurd rfl hh) (fun _ => ?_)
    repeat (first | refine vops_q tyOk rfl ?_ | refine vops_nil ?_ | refine vw_seq ?_ | refine vw_region (by kernel_rfl) ?_ | refine vw_skip ?_ | refine vw_ret ?_ | (apply vops_callp ent128 rfl; (intro w' hg; exact c_l09Square _ ls h w' (hv.same hg.fr))))
    exact out_bn rfl rfl rfl rfl (by rw [sqOfR, if_pos h])
  · repeat (first | refine vops_q tyOk rfl ?_ | refine vops_nil ?_ | refine vw_seq ?_ | refine vw_region (by kernel_rfl) ?_ | refine vw_cond rfl ?_ | (apply vops_callp ent127 rfl; (intro w' hg; exact c_l09Rows _ _ ls w' (hv.same hg.fr) hl hll)))
    rw [if_neg h]
    skip
    refine bs_ndec2 (fun _ => ?_) (fun hh => by omega)
    repeat (first | refine vops_q tyOk rfl ?_ | refine vops_nil ?_ | refine vw_seq ?_ | refine vw_region (by kernel_rfl) ?_ | refine vw_ret ?_)
    exact out_bn rfl rfl rfl rfl (by rw [sqOfR, if_neg h])
end Go.Proofs.Ytlnohlomanapeaa

