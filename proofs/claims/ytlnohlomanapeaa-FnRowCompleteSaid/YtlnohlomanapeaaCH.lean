import Derived.Test.YtlnohlomanapeaaCA2
import Derived.Test.YtlnohlomanapeaaCI
import Derived.Test.YtlnohlomanapeaaCG
import Derived.Test.YtlnohlomanapeaaVLA
import Derived.Test.YtlnohlomanapeaaVLSum
import Derived.Test.YtlnohlomanapeaaVLBytes
/- Parts of the proof, one after another. No conditions of their own. -/
/- A part of the proof: CM1. No conditions of its own. -/
namespace Go.Proofs.Ytlnohlomanapeaa
open Go.VL

theorem modw {a x n : Int} (ha : 0 ≤ a) (ha' : a < n) (hx : 0 ≤ x) (hx' : x < n) : (a + x) % n = if a + x < n then a + x else a + x - n := by
  split
  · exact Int.emod_eq_of_lt (by omega) (by assumption)
  · have e : a + x = (a + x - n) + n := by omega
    rw [e, Int.add_emod_right, Int.emod_eq_of_lt (by omega) (by omega)]; omega
theorem modw_inj {a x y n : Int} (ha : 0 ≤ a) (ha' : a < n) (hx : 0 ≤ x) (hx' : x < n) (hy : 0 ≤ y) (hy' : y < n) (h : (a + x) % n = (a + y) % n) : x = y := by
  rw [modw ha ha' hx hx', modw ha ha' hy hy'] at h
  split at h <;> split at h <;> omega
theorem lst_nodup {n : Nat} {h : Nat → Int} (hi : ∀ i j, i < n → j < n → h i = h j → i = j) : (lst n h).Nodup := by
  unfold lst
  refine List.pairwise_map.2 (List.Pairwise.imp_of_mem (fun {a b} ha hb hne he => hne (hi a b (List.mem_range.1 ha) (List.mem_range.1 hb) he)) List.nodup_range)
theorem whole_get {l : List Int} (h : IsWhole l) {k : Nat} (hk : k < l.length) : 0 ≤ l.getD k 0 ∧ l.getD k 0 < l.length := h.2.2.2.1 _ (mem_getD (l := l) (i := k) hk)
theorem whole_inj {l : List Int} (h : IsWhole l) {i j : Nat} (hi : i < l.length) (hj : j < l.length) (e : l.getD i 0 = l.getD j 0) : i = j := by
  rw [List.getD_eq_getElem?_getD, List.getD_eq_getElem?_getD, List.getElem?_eq_getElem hi, List.getElem?_eq_getElem hj] at e
  exact (List.getElem_inj h.2.2.2.2).1 e
/-- The square of a list of numbers. -/
def sqT (l : List Int) : List (List Int) := tabN l.length l.length (sqC l)
theorem sqT_length (l : List Int) : (sqT l).length = l.length := tabN_length _ _ _
theorem sqT_row {l : List Int} {i : Nat} {r : List Int} (h : (sqT l)[i]? = some r) : i < l.length ∧ r = lst l.length (sqC l i) := by
  have hi := (List.getElem?_eq_some_iff.1 h).1
  rw [sqT_length] at hi
  rw [sqT, tabN_get hi] at h
  exact ⟨hi, (Option.some.inj h).symm⟩
theorem sqC_range {l : List Int} (h : IsWhole l) (i k : Nat) : 0 ≤ sqC l i k ∧ sqC l i k < l.length :=
  ⟨Int.emod_nonneg _ (by have := h.1; omega), Int.emod_lt_of_pos _ (by have := h.1; omega)⟩
theorem lst_mem {n : Nat} {h : Nat → Int} {x : Int} (hx : x ∈ lst n h) : ∃ k, k < n ∧ x = h k := by
  obtain ⟨k, hk, rfl⟩ := List.mem_map.1 hx
  exact ⟨k, List.mem_range.1 hk, rfl⟩
theorem sqT_rows {l : List Int} (h : IsWhole l) : RowsN l.length (sqT l) :=
  ⟨by have := h.1; omega, by have := h.2.1; omega, by rw [sqT_length], fun r hr => by
    obtain ⟨i, hi⟩ := List.mem_iff_getElem?.1 hr
    obtain ⟨_, rfl⟩ := sqT_row hi
    refine ⟨by rw [lst_length], fun x hx => ?_⟩
    obtain ⟨k, _, rfl⟩ := lst_mem hx
    have := sqC_range h i k
    omega⟩
theorem sqT_ok {l : List Int} (h : IsWhole l) : SqOk (sqT l) := fun i r hi => by
  obtain ⟨hil, rfl⟩ := sqT_row hi
  have hcol : colOf (sqT l) i = lst l.length fun j => sqC l j i := by
    apply List.ext_getElem (by rw [colOf_length, sqT_length, lst_length])
    intro j h1 h2
    have hj : j < l.length := by rw [lst_length] at h2; exact h2
    have e1 : (colOf (sqT l) i)[j]? = some (sqC l j i) := by
      rw [colOf, List.getElem?_map, sqT, tabN_get hj]
      show some ((lst l.length (sqC l j)).getD i 0) = _
      rw [List.getD_eq_getElem?_getD, lst_get hil]; rfl
    have e2 : (lst l.length fun j => sqC l j i)[j]? = some (sqC l j i) := lst_get hj
    rw [List.getElem?_eq_getElem h1] at e1
    rw [List.getElem?_eq_getElem h2] at e2
    rw [Option.some.inj e1, Option.some.inj e2]
  rw [sqT_length, hcol]
  refine ⟨⟨by rw [lst_length], fun x hx => ?_, lst_nodup fun a b ha hb he => ?_⟩, ⟨by rw [lst_length], fun x hx => ?_, lst_nodup fun a b ha hb he => ?_⟩⟩
  · obtain ⟨k, _, rfl⟩ := lst_mem hx; exact sqC_range h i k
  · have h1 := whole_get h ha
    have h2 := whole_get h hb
    exact whole_inj h ha hb (modw_inj (by omega) (by omega) h1.1 h1.2 h2.1 h2.2 he)
  · obtain ⟨k, _, rfl⟩ := lst_mem hx; exact sqC_range h k i
  · have h1 := whole_get h hil
    have he' : (l.getD i 0 + (a : Int)) % (l.length : Int) = (l.getD i 0 + (b : Int)) % (l.length : Int) := by
      rw [Int.add_comm (l.getD i 0), Int.add_comm (l.getD i 0)]; exact he
    have := modw_inj h1.1 h1.2 (by omega) (by omega) (by omega) (by omega) he'
    omega
/-- A zigzag of an even number of numbers has different steps. -/
theorem zig_steps : ∀ n ∈ List.range 15, n % 2 = 0 → Steps (lst n (zigC n)) := by
  have h : ((List.range 15).all fun n => decide (n % 2 = 0 → (stepsOf (lst n (zigC n)) ((lst n (zigC n)).length - 1)).Nodup)) = true := by kernel_rfl
  simp only [List.all_eq_true, decide_eq_true_eq] at h
  exact h
end Go.Proofs.Ytlnohlomanapeaa

/- A part of the proof: CM2. No conditions of its own. -/
namespace Go.Proofs.Ytlnohlomanapeaa
open Go.VL

theorem sum_swap {f : Nat → Nat → Int} (k : Nat) : ∀ m, sumTo (fun i => sumTo (f i) k) m = sumTo (fun t => sumTo (fun i => f i t) m) k
  | 0 => (sumTo_zero fun _ _ => rfl).symm
  | m + 1 => by
    rw [sumTo, sum_swap k m, ← sumTo_add]
    exact sumTo_congr fun t _ => rfl
theorem nbC_sum (r : List Int) (x y : Nat) : ∀ t, nbC r t x y = sumTo (fun t => if r.getD t 0 = (x : Int) ∧ r.getD (t + 1) 0 = (y : Int) then 1 else 0) t
  | 0 => rfl
  | t + 1 => by rw [nbC, nbC_sum r x y t, sumTo]
theorem besN_sum (ls : List (List Int)) (x y : Nat) : ∀ i, besN ls i x y = sumTo (fun i => nbC (ls.getD i []) (ls.length - 1) x y) i
  | 0 => rfl
  | i + 1 => by rw [besN, besN_sum ls x y i, sumTo]
theorem sum_le1 {p : Nat → Prop} [DecidablePred p] : ∀ {k : Nat}, (∀ s t, s < k → t < k → p s → p t → s = t) → sumTo (fun t => if p t then 1 else 0) k ≤ 1
  | 0, _ => by simp [sumTo]
  | k + 1, h => by
    rw [sumTo]
    by_cases hk : p k
    · rw [if_pos hk, sumTo_zero fun t ht => if_neg fun hp => by have := h t k (by omega) (by omega) hp hk; omega]; omega
    · rw [if_neg hk]
      have := sum_le1 (p := p) (k := k) fun s t hs ht => h s t (by omega) (by omega)
      omega
theorem sum_ge1 {p : Nat → Prop} [DecidablePred p] {k s : Nat} (hs : s < k) (h : p s) : 1 ≤ sumTo (fun t => if p t then 1 else 0) k := by
  induction k with
  | zero => omega
  | succ k ih =>
    rw [sumTo]
    by_cases hsk : s = k
    · subst hsk
      have : 0 ≤ sumTo (fun t => if p t then (1 : Int) else 0) s := sumTo_nonneg fun t _ => by split <;> omega
      rw [if_pos h]; omega
    · have := ih (by omega)
      split <;> omega
theorem sum_ge2 {p : Nat → Prop} [DecidablePred p] {k s t : Nat} (hst : s < t) (ht : t < k) (h : p s) (h' : p t) : 2 ≤ sumTo (fun t => if p t then 1 else 0) k := by
  induction k with
  | zero => omega
  | succ k ih =>
    rw [sumTo]
    by_cases htk : t = k
    · subst htk
      have := sum_ge1 (p := p) hst h
      rw [if_pos h']; omega
    · have := ih (by omega)
      split <;> omega
/-- The step behind the place t. -/
def stp (l : List Int) (t : Nat) : Int := (l.getD (t + 1) 0 - l.getD t 0 + l.length) % l.length
theorem stp_range {l : List Int} (h : IsWhole l) (t : Nat) : 0 ≤ stp l t ∧ stp l t < l.length :=
  ⟨Int.emod_nonneg _ (by have := h.1; omega), Int.emod_lt_of_pos _ (by have := h.1; omega)⟩
theorem stp_next {l : List Int} (_h : IsWhole l) {i t : Nat} (_hi : i < l.length) (_ht : t + 1 < l.length) : sqC l i (t + 1) = (sqC l i t + stp l t) % l.length := by
  unfold sqC stp
  rw [← Int.add_emod]
  have e : (i : Int) + l.getD t 0 + (l.getD (t + 1) 0 - l.getD t 0 + l.length) = ((i : Int) + l.getD (t + 1) 0) + l.length := by omega
  rw [e, Int.add_emod_right]
/-- How often b stands behind a in the square of a list. -/
theorem bes_sq {l : List Int} (h : IsWhole l) {a b : Nat} (ha : a < l.length) (_hb : b < l.length) :
    besN (sqT l) (sqT l).length a b = sumTo (fun t => if ((a : Int) + stp l t) % l.length = (b : Int) then 1 else 0) (l.length - 1) := by
  rw [besN_sum]
  have e1 : sumTo (fun i => nbC ((sqT l).getD i []) ((sqT l).length - 1) a b) (sqT l).length = sumTo (fun i => sumTo (fun t => if sqC l i t = (a : Int) ∧ sqC l i (t + 1) = (b : Int) then (1 : Int) else 0) (l.length - 1)) l.length := by
    rw [sqT_length]
    refine sumTo_congr fun i hi => ?_
    rw [nbC_sum]
    refine sumTo_congr fun t ht => ?_
    have hr : (sqT l).getD i [] = lst l.length (sqC l i) := by rw [List.getD_eq_getElem?_getD, sqT, tabN_get hi]; rfl
    rw [hr, lst_getD (by omega), lst_getD (by omega)]
  rw [e1, sum_swap]
  refine sumTo_congr fun t ht => ?_
  obtain ⟨i0, hi0, hi0e⟩ : ∃ i0, i0 < l.length ∧ sqC l i0 t = (a : Int) := by
    have hg := whole_get h (k := t) (by omega)
    by_cases hc : l.getD t 0 ≤ (a : Int)
    · refine ⟨((a : Int) - l.getD t 0).toNat, by omega, ?_⟩
      unfold sqC
      rw [show ((((a : Int) - l.getD t 0).toNat : Nat) : Int) + l.getD t 0 = (a : Int) by omega]
      exact Int.emod_eq_of_lt (by omega) (by omega)
    · refine ⟨((a : Int) - l.getD t 0 + l.length).toNat, by omega, ?_⟩
      unfold sqC
      rw [show ((((a : Int) - l.getD t 0 + l.length).toNat : Nat) : Int) + l.getD t 0 = (a : Int) + l.length by omega, Int.add_emod_right]
      exact Int.emod_eq_of_lt (by omega) (by omega)
  have huni : ∀ i, i < l.length → sqC l i t = (a : Int) → i = i0 := fun i hi he => by
    have h1 := whole_get h (k := t) (by omega)
    have he' : (l.getD t 0 + (i : Int)) % (l.length : Int) = (l.getD t 0 + (i0 : Int)) % (l.length : Int) := by
      rw [Int.add_comm (l.getD t 0), Int.add_comm (l.getD t 0)]; exact he.trans hi0e.symm
    have := modw_inj h1.1 h1.2 (by omega) (by omega) (by omega) (by omega) he'
    omega
  have hnx := stp_next h hi0 (t := t) (by omega)
  rw [hi0e] at hnx
  refine sumTo_one hi0 ?_ fun i hi hne => if_neg fun hh => hne (huni i hi hh.1)
  by_cases hb' : ((a : Int) + stp l t) % l.length = (b : Int)
  · rw [if_pos hb', if_pos ⟨hi0e, hnx.trans hb'⟩]
  · rw [if_neg hb', if_neg fun hh => hb' (hnx.symm.trans hh.2)]
theorem steps_inj {l : List Int} : Steps l ↔ ∀ s t, s < l.length - 1 → t < l.length - 1 → stp l s = stp l t → s = t := by
  unfold Steps
  have hl := stepsOf_length l (l.length - 1)
  have hg : ∀ k (hk : k < (stepsOf l (l.length - 1)).length), (stepsOf l (l.length - 1))[k] = stp l k := fun k hk => by
    have := stepsOf_get (t := l) (m := l.length - 1) (k := k) (by omega)
    rw [List.getD_eq_getElem?_getD, List.getElem?_eq_getElem hk] at this
    exact this
  constructor
  · intro hn s t hs ht e
    have h1 : s < (stepsOf l (l.length - 1)).length := by omega
    have h2 : t < (stepsOf l (l.length - 1)).length := by omega
    exact (List.getElem_inj (h₀ := h1) (h₁ := h2) hn).1 (by rw [hg, hg]; exact e)
  · intro hi
    have : stepsOf l (l.length - 1) = lst (l.length - 1) (stp l) := rfl
    rw [this]
    exact lst_nodup hi
/-- The square of a list is row complete if and only if its steps are different. -/
theorem bal_steps {l : List Int} (h : IsWhole l) : BalM (sqT l).length (besN (sqT l) (sqT l).length) ↔ Steps l := by
  rw [steps_inj]
  have hn := sqT_length l
  have h1 := h.1
  constructor
  · intro hB s t hs ht e
    apply Classical.byContradiction
    intro hne
    have hr := stp_range h s
    have h2 : ∀ p q, p < q → q < l.length - 1 → stp l p = stp l s → stp l q = stp l s → False := fun p q hpq hq hp hq' => by
      have hB' := hB 0 (stp l s).toNat (by omega) (by omega)
      rw [bes_sq h (by omega) (by omega)] at hB'
      have hz : ∀ r, stp l r = stp l s → (((0 : Nat) : Int) + stp l r) % l.length = (((stp l s).toNat : Nat) : Int) := fun r hr' => by
        rw [hr', show ((0 : Nat) : Int) + stp l s = stp l s by omega, Int.emod_eq_of_lt hr.1 hr.2]; omega
      have := sum_ge2 (p := fun t => (((0 : Nat) : Int) + stp l t) % l.length = (((stp l s).toNat : Nat) : Int)) hpq hq (hz p hp) (hz q hq')
      split at hB' <;> omega
    rcases Nat.lt_or_gt_of_ne hne with hlt | hlt
    · exact h2 s t hlt ht rfl e.symm
    · exact h2 t s hlt hs e.symm rfl
  · intro hi
    refine rowC_of_le (by rw [hn]; exact sqT_rows h) (sqT_ok h) fun a b ha hb => ?_
    rw [bes_sq h (by omega) (by omega)]
    refine sum_le1 fun s t hs ht hs' ht' => hi s t hs ht ?_
    have r1 := stp_range h s
    have r2 := stp_range h t
    exact modw_inj (a := (a : Int)) (by omega) (by omega) r1.1 r1.2 r2.1 r2.2 (hs'.trans ht'.symm)
end Go.Proofs.Ytlnohlomanapeaa

/- A part of the proof: RC1. No conditions of its own. -/
namespace Go.Proofs.Ytlnohlomanapeaa
open Go.VL
attribute [local irreducible] VWr VOps VD Calls

/-- Where a row lies. -/
theorem rdRowC {w : World} {v : Value} {ls : List (List Int)} (hv : RdII w v ls) {i : Nat} (hi : i < ls.length) :
    ∃ b o cap u cap2, v = .slice (some ⟨b, o, none⟩) ls.length cap ∧ w.cell? ⟨b, o + i, none⟩ = some (.slice u (ls.getD i []).length cap2) ∧ RdI w (.slice u (ls.getD i []).length cap2) (ls.getD i []) := by
  have hl : ls[i]? = some (ls.getD i []) := by rw [List.getD_eq_getElem?_getD, List.getElem?_eq_getElem hi]; rfl
  obtain ⟨b, o, cap, u, he, hc, hu⟩ := hv.at hl
  obtain ⟨a2, cap2, rfl⟩ := hu.len
  exact ⟨b, o, cap, a2, cap2, he, hc, hu⟩

set_option maxHeartbeats 1000000 in
set_option maxRecDepth 100000 in
theorem c_likeC (v u : Value) (l : List Int) (w : World) (hv : RdI w v l) (hu : RdI w u l) (hl : l.length ≤ 1048576) : Calls Try.prog 25 [v, u].toArray w (Res w (Is (.bool true))) := by
  obtain ⟨a, cap, rfl⟩ := hv.len
  obtain ⟨a2, cap2, rfl⟩ := hu.len
  refine calls_of_vw Try.func25 rfl Try.ntmps25 (by simp) ?_
  repeat (first | refine vops_q tyOk rfl ?_ | refine vops_nil ?_ | refine vw_seq ?_ | refine vw_region (by kernel_rfl) ?_ | refine vops_guardT rfl rfl ?_ | refine vops_guardF rfl rfl ?_ | refine vops_guardU rfl rfl ?_ | with_reducible refine bs_nbeq rfl ?_ | with_reducible refine bs_true ?_ | with_reducible refine bs_false ?_ | with_reducible refine bs_ntrue ?_ | with_reducible refine bs_nfalse ?_ | refine vops_p tyOk rfl (by (try simp only [inR]); omega) ?_ | refine vw_cond rfl ?_ | refine vw_skip ?_ | refine vw_block ?_ | refine vw_ret ?_ | refine vw_exit ?_)
  refine bs_ndec2 (fun h => absurd rfl h) (fun _ => ?_)
  repeat (first | refine vops_q tyOk rfl ?_ | refine vops_nil ?_ | refine vw_seq ?_ | refine vw_region (by kernel_rfl) ?_ | refine vops_guardT rfl rfl ?_ | refine vops_guardF rfl rfl ?_ | refine vops_guardU rfl rfl ?_ | with_reducible refine bs_nbeq rfl ?_ | with_reducible refine bs_true ?_ | with_reducible refine bs_false ?_ | with_reducible refine bs_ntrue ?_ | with_reducible refine bs_nfalse ?_ | refine vops_p tyOk rfl (by (try simp only [inR]); omega) ?_ | refine vw_cond rfl ?_ | refine vw_skip ?_ | refine vw_block ?_ | refine vw_ret ?_ | refine vw_exit ?_)
  refine vw_loop (fun y f own => ∃ i : Nat, i ≤ l.length ∧ y = l.length - i ∧ f 5 = .int .i64 i ∧ f 0 = .slice a l.length cap ∧ f 1 = .slice a2 l.length cap2 ∧ own = []) l.length
    ⟨0, by omega, by omega, rfl, rfl, rfl, rfl⟩ ?_
  rintro y f own ⟨i, hi, rfl, h5, h0, h1, rfl⟩
  rw [upd_of h5, upd_of h0, upd_of h1]
  repeat (first | refine vops_q tyOk rfl ?_ | refine vops_nil ?_ | refine vw_seq ?_ | refine vw_region (by kernel_rfl) ?_ | refine vops_guardT rfl rfl ?_ | refine vops_guardF rfl rfl ?_ | refine vops_guardU rfl rfl ?_ | with_reducible refine bs_nbeq rfl ?_ | with_reducible refine bs_true ?_ | with_reducible refine bs_false ?_ | with_reducible refine bs_ntrue ?_ | with_reducible refine bs_nfalse ?_ | refine vops_p tyOk rfl (by (try simp only [inR]); omega) ?_ | refine vw_cond rfl ?_ | refine vw_skip ?_ | refine vw_block ?_ | refine vw_ret ?_ | refine vw_exit ?_)
  refine bs_dec (fun hlt => ?_) (fun hlt => ?_)
  · have hil : i < l.length := by omega
    obtain ⟨b, o, c, he, hcell⟩ := hv.at hil
    cases he
    obtain ⟨b2, o2, c2, he, hcell2⟩ := hu.at hil
    cases he
    have hc := hcell i hil
    have hc2 := hcell2 i hil
    repeat (first | refine vops_q tyOk rfl ?_ | refine vops_nil ?_ | refine vw_seq ?_ | refine vw_region (by kernel_rfl) ?_ | refine vops_guardT rfl rfl ?_ | refine vops_guardF rfl rfl ?_ | refine vops_guardU rfl rfl ?_ | with_reducible refine bs_nbeq rfl ?_ | with_reducible refine bs_true ?_ | with_reducible refine bs_false ?_ | with_reducible refine bs_ntrue ?_ | with_reducible refine bs_nfalse ?_ | refine vops_p tyOk rfl (by (try simp only [inR]); omega) ?_ | refine vw_cond rfl ?_ | refine vw_skip ?_ | refine vw_block ?_ | refine vw_ret ?_ | refine vw_exit ?_)
    refine vw_draw [0, 1, 2, 3, 4, 5, 6, 7, 8] (by kernel_rfl) (by kernel_rfl) (by kernel_rfl) rfl ?_
    repeat' (first | refine vd_q tyOk rfl (by first | trivial | rfl) rfl (by kernel_rfl) (by kernel_rfl) ?_ | refine vd_p tyOk rfl (by first | trivial | rfl) rfl (by kernel_rfl) (by kernel_rfl) (by (try simp only [inR]); omega) ?_ | refine vd_skipT rfl rfl (by kernel_rfl) (by kernel_rfl) ?_ | refine vd_skipF rfl rfl (by kernel_rfl) (by kernel_rfl) ?_ | refine vd_skipU rfl rfl (by kernel_rfl) (by kernel_rfl) ?_ | refine vops_nil ?_ | refine vd_nil (by kernel_rfl) ?_ | refine ⟨fun _ _ _ h => h, ?_⟩ | refine ⟨fun _ _ _ h => List.mem_cons_of_mem _ h, ?_⟩ | refine ⟨fun _ _ _ h => List.mem_append_right _ h, ?_⟩ | refine vops_q tyOk rfl ?_ | refine vd_load tyOk rfl (by first | trivial | rfl) rfl rfl rfl (by kernel_rfl) (by kernel_rfl) (by kernel_rfl) (sees_old hc (by simp)) (by repeat (first | exact sub_hereL | exact sub_refl | apply sub_cons | apply sub_app)) ?_ | refine vd_load tyOk rfl (by first | trivial | rfl) rfl rfl rfl (by kernel_rfl) (by kernel_rfl) (by kernel_rfl) (sees_old hc2 (by simp)) (by repeat (first | exact sub_hereL | exact sub_refl | apply sub_cons | apply sub_app)) ?_ | refine vd_one rfl (by kernel_rfl) (by kernel_rfl) rfl ?_ | refine vd_oneG rfl (by kernel_rfl) (by kernel_rfl) rfl ?_ | (refine vd_gsplit rfl rfl rfl ?_; (fail_if_success (with_reducible (first | refine bs_true ?_ | refine bs_false ?_))); with_reducible refine bs_dec (fun _ => ?_) (fun _ => ?_)) <;> try (exfalso; omega) | (refine vd_gsplit rfl rfl rfl ?_; (fail_if_success (with_reducible (first | refine bs_true ?_ | refine bs_false ?_))); with_reducible refine bs_ndec (fun _ => ?_) (fun _ => ?_)) <;> try (exfalso; omega) | (refine vd_gsplit rfl rfl rfl ?_; (fail_if_success (with_reducible (first | refine bs_true ?_ | refine bs_false ?_))); with_reducible refine bs_nany (fun _ => ?_) (fun _ => ?_)) <;> try (exfalso; omega) | (refine vd_gsplit rfl rfl rfl ?_; (fail_if_success (with_reducible (first | refine bs_true ?_ | refine bs_false ?_))); with_reducible refine bs_any (fun _ => ?_) (fun _ => ?_)) <;> try (exfalso; omega))
    repeat (first | refine vops_q tyOk rfl ?_ | refine vops_nil ?_ | refine vw_seq ?_ | refine vw_region (by kernel_rfl) ?_ | refine vops_guardT rfl rfl ?_ | refine vops_guardF rfl rfl ?_ | refine vops_guardU rfl rfl ?_ | with_reducible refine bs_nbeq rfl ?_ | with_reducible refine bs_true ?_ | with_reducible refine bs_false ?_ | with_reducible refine bs_ntrue ?_ | with_reducible refine bs_nfalse ?_ | refine vops_p tyOk rfl (by (try simp only [inR]); omega) ?_ | refine vw_cond rfl ?_ | refine vw_skip ?_ | refine vw_block ?_ | refine vw_ret ?_ | refine vw_exit ?_)
    refine bs_ndec2 (fun h => absurd rfl h) (fun _ => ?_)
    repeat (first | refine vops_q tyOk rfl ?_ | refine vops_nil ?_ | refine vw_seq ?_ | refine vw_region (by kernel_rfl) ?_ | refine vops_guardT rfl rfl ?_ | refine vops_guardF rfl rfl ?_ | refine vops_guardU rfl rfl ?_ | with_reducible refine bs_nbeq rfl ?_ | with_reducible refine bs_true ?_ | with_reducible refine bs_false ?_ | with_reducible refine bs_ntrue ?_ | with_reducible refine bs_nfalse ?_ | refine vops_p tyOk rfl (by (try simp only [inR]); omega) ?_ | refine vw_cond rfl ?_ | refine vw_skip ?_ | refine vw_block ?_ | refine vw_ret ?_ | refine vw_exit ?_)
    exact ⟨l.length - (i + 1), by omega, i + 1, by omega, rfl, rfl, rfl, rfl, rfl⟩
  · repeat (first | refine vops_q tyOk rfl ?_ | refine vops_nil ?_ | refine vw_seq ?_ | refine vw_region (by kernel_rfl) ?_ | refine vops_guardT rfl rfl ?_ | refine vops_guardF rfl rfl ?_ | refine vops_guardU rfl rfl ?_ | with_reducible refine bs_nbeq rfl ?_ | with_reducible refine bs_true ?_ | with_reducible refine bs_false ?_ | with_reducible refine bs_ntrue ?_ | with_reducible refine bs_nfalse ?_ | refine vops_p tyOk rfl (by (try simp only [inR]); omega) ?_ | refine vw_cond rfl ?_ | refine vw_skip ?_ | refine vw_block ?_ | refine vw_ret ?_ | refine vw_exit ?_)
    exact rv_bool rfl rfl rfl
set_option maxHeartbeats 1000000 in
set_option maxRecDepth 100000 in
theorem c_rows5 (v u : Value) (ls : List (List Int)) (w : World) (hv : RdII w v ls) (hu : RdII w u ls) (hl : ls.length ≤ 1048576) (hll : ∀ l ∈ ls, l.length ≤ 1048576) : Calls Try.prog 32 [v, u].toArray w (Res w (Is (.bool true))) := by
  obtain ⟨a, cap, rfl⟩ := hv.len
  obtain ⟨a2, cap2, rfl⟩ := hu.len
  refine calls_of_vw Try.func32 rfl Try.ntmps32 (by simp) ?_
  repeat (first | refine vops_q tyOk rfl ?_ | refine vops_nil ?_ | refine vw_seq ?_ | refine vw_region (by kernel_rfl) ?_ | refine vops_guardT rfl rfl ?_ | refine vops_guardF rfl rfl ?_ | refine vops_guardU rfl rfl ?_ | with_reducible refine bs_nbeq rfl ?_ | with_reducible refine bs_true ?_ | with_reducible refine bs_false ?_ | with_reducible refine bs_ntrue ?_ | with_reducible refine bs_nfalse ?_ | refine vops_p tyOk rfl (by (try simp only [inR]); omega) ?_ | refine vw_cond rfl ?_ | refine vw_skip ?_ | refine vw_block ?_ | refine vw_ret ?_ | refine vw_exit ?_)
  refine bs_ndec2 (fun h => absurd rfl h) (fun _ => ?_)
  repeat (first | refine vops_q tyOk rfl ?_ | refine vops_nil ?_ | refine vw_seq ?_ | refine vw_region (by kernel_rfl) ?_ | refine vops_guardT rfl rfl ?_ | refine vops_guardF rfl rfl ?_ | refine vops_guardU rfl rfl ?_ | with_reducible refine bs_nbeq rfl ?_ | with_reducible refine bs_true ?_ | with_reducible refine bs_false ?_ | with_reducible refine bs_ntrue ?_ | with_reducible refine bs_nfalse ?_ | refine vops_p tyOk rfl (by (try simp only [inR]); omega) ?_ | refine vw_cond rfl ?_ | refine vw_skip ?_ | refine vw_block ?_ | refine vw_ret ?_ | refine vw_exit ?_)
  refine vw_loop (fun y f own => ∃ i : Nat, i ≤ ls.length ∧ y = ls.length - i ∧ f 5 = .int .i64 i ∧ f 0 = .slice a ls.length cap ∧ f 1 = .slice a2 ls.length cap2 ∧ own = []) ls.length
    ⟨0, by omega, by omega, rfl, rfl, rfl, rfl⟩ ?_
  rintro y f own ⟨i, hi, rfl, h5, h0, h1, rfl⟩
  rw [upd_of h5, upd_of h0, upd_of h1]
  repeat (first | refine vops_q tyOk rfl ?_ | refine vops_nil ?_ | refine vw_seq ?_ | refine vw_region (by kernel_rfl) ?_ | refine vops_guardT rfl rfl ?_ | refine vops_guardF rfl rfl ?_ | refine vops_guardU rfl rfl ?_ | with_reducible refine bs_nbeq rfl ?_ | with_reducible refine bs_true ?_ | with_reducible refine bs_false ?_ | with_reducible refine bs_ntrue ?_ | with_reducible refine bs_nfalse ?_ | refine vops_p tyOk rfl (by (try simp only [inR]); omega) ?_ | refine vw_cond rfl ?_ | refine vw_skip ?_ | refine vw_block ?_ | refine vw_ret ?_ | refine vw_exit ?_)
  refine bs_dec (fun hlt => ?_) (fun hlt => ?_)
  · have hil : i < ls.length := by omega
    obtain ⟨b, o, c, x, cx, he, hc, hx⟩ := rdRowC hv hil
    cases he
    obtain ⟨b2, o2, c2, x2, cx2, he, hc2, hx2⟩ := rdRowC hu hil
    cases he
    have hlm : (ls.getD i []).length ≤ 1048576 := hll _ (by rw [List.getD_eq_getElem?_getD, List.getElem?_eq_getElem hil]; exact List.getElem_mem _)
    generalize ls.getD i [] = r at *
    repeat (first | refine vops_q tyOk rfl ?_ | refine vops_nil ?_ | refine vw_seq ?_ | refine vw_region (by kernel_rfl) ?_ | refine vops_guardT rfl rfl ?_ | refine vops_guardF rfl rfl ?_ | refine vops_guardU rfl rfl ?_ | with_reducible refine bs_nbeq rfl ?_ | with_reducible refine bs_true ?_ | with_reducible refine bs_false ?_ | with_reducible refine bs_ntrue ?_ | with_reducible refine bs_nfalse ?_ | refine vops_p tyOk rfl (by (try simp only [inR]); omega) ?_ | refine vw_cond rfl ?_ | refine vw_skip ?_ | refine vw_block ?_ | refine vw_ret ?_ | refine vw_exit ?_)
    refine vw_draw [0, 1, 2, 3, 4, 5, 6, 7, 8, 9] (by kernel_rfl) (by kernel_rfl) (by kernel_rfl) rfl ?_
    repeat' (first | refine vd_q tyOk rfl (by first | trivial | rfl) rfl (by kernel_rfl) (by kernel_rfl) ?_ | refine vd_p tyOk rfl (by first | trivial | rfl) rfl (by kernel_rfl) (by kernel_rfl) (by (try simp only [inR]); omega) ?_ | refine vd_skipT rfl rfl (by kernel_rfl) (by kernel_rfl) ?_ | refine vd_skipF rfl rfl (by kernel_rfl) (by kernel_rfl) ?_ | refine vd_skipU rfl rfl (by kernel_rfl) (by kernel_rfl) ?_ | refine vops_nil ?_ | refine vd_nil (by kernel_rfl) ?_ | refine ⟨fun _ _ _ h => h, ?_⟩ | refine ⟨fun _ _ _ h => List.mem_cons_of_mem _ h, ?_⟩ | refine ⟨fun _ _ _ h => List.mem_append_right _ h, ?_⟩ | refine vops_q tyOk rfl ?_ | refine vd_load tyOk rfl (by first | trivial | rfl) rfl rfl rfl (by kernel_rfl) (by kernel_rfl) (by kernel_rfl) (sees_old hc (by simp)) (by repeat (first | exact sub_hereL | exact sub_refl | apply sub_cons | apply sub_app)) ?_ | refine vd_load tyOk rfl (by first | trivial | rfl) rfl rfl rfl (by kernel_rfl) (by kernel_rfl) (by kernel_rfl) (sees_old hc2 (by simp)) (by repeat (first | exact sub_hereL | exact sub_refl | apply sub_cons | apply sub_app)) ?_ | (apply vops_callp ent25 rfl; (intro w' hg; exact c_likeC _ _ r w' (hx.same hg.fr) (hx2.same hg.fr) hlm)) | refine vd_one rfl (by kernel_rfl) (by kernel_rfl) rfl ?_ | refine vd_oneG rfl (by kernel_rfl) (by kernel_rfl) rfl ?_ | (refine vd_gsplit rfl rfl rfl ?_; (fail_if_success (with_reducible (first | refine bs_true ?_ | refine bs_false ?_))); with_reducible refine bs_dec (fun _ => ?_) (fun _ => ?_)) <;> try (exfalso; omega) | (refine vd_gsplit rfl rfl rfl ?_; (fail_if_success (with_reducible (first | refine bs_true ?_ | refine bs_false ?_))); with_reducible refine bs_ndec (fun _ => ?_) (fun _ => ?_)) <;> try (exfalso; omega) | (refine vd_gsplit rfl rfl rfl ?_; (fail_if_success (with_reducible (first | refine bs_true ?_ | refine bs_false ?_))); with_reducible refine bs_nany (fun _ => ?_) (fun _ => ?_)) <;> try (exfalso; omega) | (refine vd_gsplit rfl rfl rfl ?_; (fail_if_success (with_reducible (first | refine bs_true ?_ | refine bs_false ?_))); with_reducible refine bs_any (fun _ => ?_) (fun _ => ?_)) <;> try (exfalso; omega))
    repeat (first | refine vops_q tyOk rfl ?_ | refine vops_nil ?_ | refine vw_seq ?_ | refine vw_region (by kernel_rfl) ?_ | refine vops_guardT rfl rfl ?_ | refine vops_guardF rfl rfl ?_ | refine vops_guardU rfl rfl ?_ | with_reducible refine bs_nbeq rfl ?_ | with_reducible refine bs_true ?_ | with_reducible refine bs_false ?_ | with_reducible refine bs_ntrue ?_ | with_reducible refine bs_nfalse ?_ | refine vops_p tyOk rfl (by (try simp only [inR]); omega) ?_ | refine vw_cond rfl ?_ | refine vw_skip ?_ | refine vw_block ?_ | refine vw_ret ?_ | refine vw_exit ?_)
    exact ⟨ls.length - (i + 1), by omega, i + 1, by omega, rfl, rfl, rfl, rfl, rfl⟩
  · repeat (first | refine vops_q tyOk rfl ?_ | refine vops_nil ?_ | refine vw_seq ?_ | refine vw_region (by kernel_rfl) ?_ | refine vops_guardT rfl rfl ?_ | refine vops_guardF rfl rfl ?_ | refine vops_guardU rfl rfl ?_ | with_reducible refine bs_nbeq rfl ?_ | with_reducible refine bs_true ?_ | with_reducible refine bs_false ?_ | with_reducible refine bs_ntrue ?_ | with_reducible refine bs_nfalse ?_ | refine vops_p tyOk rfl (by (try simp only [inR]); omega) ?_ | refine vw_cond rfl ?_ | refine vw_skip ?_ | refine vw_block ?_ | refine vw_ret ?_ | refine vw_exit ?_)
    exact rv_bool rfl rfl rfl
theorem llC {P : Program} {fn : Nat} {args : Array Value} {w : World} {eo ei : Nat} {r : List (List Int) × Int} {ls : List (List Int)} {c : Int} (h : Calls P fn args w (Res w (PairLL eo ei r))) (hr : r = (ls, c)) :
    Calls P fn args w (Res w (fun v new => ∃ p cap, v = .tuple #[.slice p ls.length cap, .int .i64 c] ∧ NewLL eo ei ls (.slice p ls.length cap) new)) := by
  subst hr; exact h
theorem iiC {P : Program} {fn : Nat} {args : Array Value} {w : World} {e : Nat} {r : List Int × Int} {l : List Int} {c : Int} (h : Calls P fn args w (Res w (PairI e r))) (hr : r = (l, c)) :
    Calls P fn args w (Res w (fun v new => ∃ p cap, v = .tuple #[.slice p l.length cap, .int .i64 c] ∧ NewI e l (.slice p l.length cap) new)) := by
  subst hr; exact h
theorem bcC {P : Program} {fn : Nat} {args : Array Value} {w : World} {r : Bool × Int} {b : Bool} {c : Int} (h : Calls P fn args w (Res w (Is (.tuple #[.bool r.1, .int .i64 r.2])))) (hr : r = (b, c)) :
    Calls P fn args w (Res w (Is (.tuple #[.bool b, .int .i64 c]))) := by
  subst hr; exact h
theorem icC {P : Program} {fn : Nat} {args : Array Value} {w : World} {r : Int × Int} {b : Int} {c : Int} (h : Calls P fn args w (Res w (Is (.tuple #[.int .i64 r.1, .int .i64 r.2])))) (hr : r = (b, c)) :
    Calls P fn args w (Res w (Is (.tuple #[.int .i64 b, .int .i64 c]))) := by
  subst hr; exact h
theorem c_bigC (a : Option Addr) (n cap : Nat) (w : World) : Calls Try.prog 19 [.slice a n cap].toArray w (Res w (Is (.bool (decide (4096 < (n : Int)))))) := by
  refine calls_of_vw Try.func19 rfl Try.ntmps19 (by simp) ?_
  repeat (first | refine vops_q tyOk rfl ?_ | refine vops_nil ?_ | refine vw_seq ?_ | refine vw_region (by kernel_rfl) ?_ | refine vops_guardT rfl rfl ?_ | refine vops_guardF rfl rfl ?_ | refine vops_guardU rfl rfl ?_ | with_reducible refine bs_nbeq rfl ?_ | with_reducible refine bs_true ?_ | with_reducible refine bs_false ?_ | with_reducible refine bs_ntrue ?_ | with_reducible refine bs_nfalse ?_ | refine vops_p tyOk rfl (by (try simp only [inR]); omega) ?_ | refine vw_cond rfl ?_ | refine vw_skip ?_ | refine vw_block ?_ | refine vw_ret ?_ | refine vw_exit ?_)
  exact rv_bool rfl rfl rfl
end Go.Proofs.Ytlnohlomanapeaa

