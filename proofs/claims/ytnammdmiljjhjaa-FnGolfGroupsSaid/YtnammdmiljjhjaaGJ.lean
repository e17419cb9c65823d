import Derived.Test.YtnammdmiljjhjaaGF
import Derived.Test.YtnammdmiljjhjaaX11
import Derived.Test.YtnammdmiljjhjaaGC
import Derived.Test.YtnammdmiljjhjaaVLA
import Derived.Test.YtnammdmiljjhjaaGI
import Derived.Test.YtnammdmiljjhjaaGB
import Derived.Test.YtnammdmiljjhjaaUL
/- Parts of the proof, one after another. No conditions of their own. -/
/- A part of the proof: X22. No conditions of its own. -/
namespace Go.Proofs.Ytnammdmiljjhjaa
open Go.VL
attribute [local irreducible] VWr VOps VD Calls

theorem c_bigG (a : Option Addr) (n cap : Nat) (w : World) : Calls Try.prog 15 [.slice a n cap].toArray w (Res w (Is (.bool (decide (4096 < (n : Int)))))) := by
  refine calls_of_vw Try.func15 rfl Try.ntmps15 (by simp) ?_
  repeat (first | refine vops_q tyOk rfl ?_ | refine vops_nil ?_ | refine vw_seq ?_ | refine vw_region (by kernel_rfl) ?_ | refine vops_guardT rfl rfl ?_ | refine vops_guardF rfl rfl ?_ | refine vops_guardU rfl rfl ?_ | with_reducible refine bs_nbeq rfl ?_ | with_reducible refine bs_true ?_ | with_reducible refine bs_false ?_ | with_reducible refine bs_ntrue ?_ | with_reducible refine bs_nfalse ?_ | refine vops_p tyOk rfl (by (try simp only [inR]); omega) ?_ | refine vw_cond rfl ?_ | refine vw_skip ?_ | refine vw_block ?_ | refine vw_ret ?_ | refine vw_exit ?_)
  exact rv_bool rfl rfl rfl

set_option maxHeartbeats 1000000 in
set_option maxRecDepth 100000 in
theorem c_hasInt (v : Value) (l : List Int) (x : Int) (w : World) (hv : RdI w v l) (hl : l.length ≤ 1048576) : Calls Try.prog 30 [v, .int .i64 x].toArray w (Res w (Is (.bool (decide (x ∈ l))))) := by
  obtain ⟨a, cap, rfl⟩ := hv.len
  refine calls_of_vw Try.func30 rfl Try.ntmps30 (by simp) ?_
  repeat (first | refine vops_q tyOk rfl ?_ | refine vops_nil ?_ | refine vw_seq ?_ | refine vw_region (by kernel_rfl) ?_ | refine vops_guardT rfl rfl ?_ | refine vops_guardF rfl rfl ?_ | refine vops_guardU rfl rfl ?_ | with_reducible refine bs_nbeq rfl ?_ | with_reducible refine bs_true ?_ | with_reducible refine bs_false ?_ | with_reducible refine bs_ntrue ?_ | with_reducible refine bs_nfalse ?_ | refine vops_p tyOk rfl (by (try simp only [inR]); omega) ?_ | refine vw_cond rfl ?_ | refine vw_skip ?_ | refine vw_block ?_ | refine vw_ret ?_ | refine vw_exit ?_)
  refine vw_loop (fun y f own => ∃ i : Nat, i ≤ l.length ∧ y = l.length - i ∧ x ∉ l.take i ∧ f 5 = .int .i64 i ∧ f 1 = .int .i64 x ∧ f 0 = .slice a l.length cap ∧ own = []) l.length
    ⟨0, by omega, by omega, by simp, rfl, rfl, rfl, rfl⟩ ?_
  rintro y f own ⟨i, hi, rfl, hno, h5, h1, h0, rfl⟩
  rw [upd_of h5, upd_of h1, upd_of h0]
  repeat (first | refine vops_q tyOk rfl ?_ | refine vops_nil ?_ | refine vw_seq ?_ | refine vw_region (by kernel_rfl) ?_ | refine vops_guardT rfl rfl ?_ | refine vops_guardF rfl rfl ?_ | refine vops_guardU rfl rfl ?_ | with_reducible refine bs_nbeq rfl ?_ | with_reducible refine bs_true ?_ | with_reducible refine bs_false ?_ | with_reducible refine bs_ntrue ?_ | with_reducible refine bs_nfalse ?_ | refine vops_p tyOk rfl (by (try simp only [inR]); omega) ?_ | refine vw_cond rfl ?_ | refine vw_skip ?_ | refine vw_block ?_ | refine vw_ret ?_ | refine vw_exit ?_)
  refine bs_dec (fun hlt => ?_) (fun hlt => ?_)
  · have hil : i < l.length := by omega
    obtain ⟨b', o, cap', he, hcell⟩ := hv.at (i := i) hil
    cases he
    have hc := hcell i hil
    have hts := take_snoc hil
    have hmem := mem_getD hil
    generalize l.getD i 0 = z at *
    repeat (first | refine vops_q tyOk rfl ?_ | refine vops_nil ?_ | refine vw_seq ?_ | refine vw_region (by kernel_rfl) ?_ | refine vops_guardT rfl rfl ?_ | refine vops_guardF rfl rfl ?_ | refine vops_guardU rfl rfl ?_ | with_reducible refine bs_nbeq rfl ?_ | with_reducible refine bs_true ?_ | with_reducible refine bs_false ?_ | with_reducible refine bs_ntrue ?_ | with_reducible refine bs_nfalse ?_ | refine vops_p tyOk rfl (by (try simp only [inR]); omega) ?_ | refine vw_cond rfl ?_ | refine vw_skip ?_ | refine vw_block ?_ | refine vw_ret ?_ | refine vw_exit ?_ | refine vops_load tyOk rfl rfl rfl (sees_old hc (by simp)) ?_)
    refine bs_dec (fun hz => ?_) (fun hz => ?_)
    · repeat (first | refine vops_q tyOk rfl ?_ | refine vops_nil ?_ | refine vw_seq ?_ | refine vw_region (by kernel_rfl) ?_ | refine vops_guardT rfl rfl ?_ | refine vops_guardF rfl rfl ?_ | refine vops_guardU rfl rfl ?_ | with_reducible refine bs_nbeq rfl ?_ | with_reducible refine bs_true ?_ | with_reducible refine bs_false ?_ | with_reducible refine bs_ntrue ?_ | with_reducible refine bs_nfalse ?_ | refine vops_p tyOk rfl (by (try simp only [inR]); omega) ?_ | refine vw_cond rfl ?_ | refine vw_skip ?_ | refine vw_block ?_ | refine vw_ret ?_ | refine vw_exit ?_)
      exact rv_bool rfl rfl (decide_eq_true (hz ▸ hmem)).symm
    · repeat (first | refine vops_q tyOk rfl ?_ | refine vops_nil ?_ | refine vw_seq ?_ | refine vw_region (by kernel_rfl) ?_ | refine vops_guardT rfl rfl ?_ | refine vops_guardF rfl rfl ?_ | refine vops_guardU rfl rfl ?_ | with_reducible refine bs_nbeq rfl ?_ | with_reducible refine bs_true ?_ | with_reducible refine bs_false ?_ | with_reducible refine bs_ntrue ?_ | with_reducible refine bs_nfalse ?_ | refine vops_p tyOk rfl (by (try simp only [inR]); omega) ?_ | refine vw_cond rfl ?_ | refine vw_skip ?_ | refine vw_block ?_ | refine vw_ret ?_ | refine vw_exit ?_)
      refine ⟨l.length - (i + 1), by omega, i + 1, by omega, rfl, ?_, rfl, rfl, rfl, rfl⟩
      rw [hts, List.mem_append, List.mem_singleton]
      rintro (h | h)
      · exact hno h
      · exact hz h.symm
  · obtain rfl : i = l.length := by omega
    rw [List.take_length] at hno
    repeat (first | refine vops_q tyOk rfl ?_ | refine vops_nil ?_ | refine vw_seq ?_ | refine vw_region (by kernel_rfl) ?_ | refine vops_guardT rfl rfl ?_ | refine vops_guardF rfl rfl ?_ | refine vops_guardU rfl rfl ?_ | with_reducible refine bs_nbeq rfl ?_ | with_reducible refine bs_true ?_ | with_reducible refine bs_false ?_ | with_reducible refine bs_ntrue ?_ | with_reducible refine bs_nfalse ?_ | refine vops_p tyOk rfl (by (try simp only [inR]); omega) ?_ | refine vw_cond rfl ?_ | refine vw_skip ?_ | refine vw_block ?_ | refine vw_ret ?_ | refine vw_exit ?_)
    exact rv_bool rfl rfl (decide_eq_false hno).symm

def sumG : List Int → Int
  | [] => 0
  | x :: l => x + sumG l
theorem sumG_snoc (x : Int) : ∀ l : List Int, sumG (l ++ [x]) = sumG l + x
  | [] => by simp [sumG]
  | y :: l => by simp only [List.cons_append, sumG, sumG_snoc x l]; omega
theorem sumG_in {B : Int} : ∀ {l : List Int}, (∀ x ∈ l, 0 ≤ x ∧ x ≤ B) → 0 ≤ sumG l ∧ sumG l ≤ l.length * B
  | [], _ => by simp [sumG]
  | x :: l, h => by
    have h1 := h x List.mem_cons_self
    have h2 := sumG_in (l := l) fun y hy => h y (List.mem_cons_of_mem _ hy)
    simp only [sumG, List.length_cons, Int.natCast_add, Int.add_mul]; omega
set_option maxRecDepth 100000 in
theorem c_sumG (v : Value) (l : List Int) (B : Int) (w : World) (hv : RdI w v l) (hl : l.length ≤ 1000) (hB : B ≤ 1000) (hall : ∀ x ∈ l, 0 ≤ x ∧ x ≤ B) : Calls Try.prog 29 [v].toArray w (Res w (Is (.int .i64 (sumG l)))) := by
  obtain ⟨a, cap, rfl⟩ := hv.len
  refine calls_of_vw Try.func29 rfl Try.ntmps29 (by simp) ?_
  repeat (first | refine vops_q tyOk rfl ?_ | refine vops_nil ?_ | refine vw_seq ?_ | refine vw_region (by kernel_rfl) ?_ | refine vops_guardT rfl rfl ?_ | refine vops_guardF rfl rfl ?_ | refine vops_guardU rfl rfl ?_ | with_reducible refine bs_nbeq rfl ?_ | with_reducible refine bs_true ?_ | with_reducible refine bs_false ?_ | with_reducible refine bs_ntrue ?_ | with_reducible refine bs_nfalse ?_ | refine vops_p tyOk rfl (by (try simp only [inR]); omega) ?_ | refine vw_cond rfl ?_ | refine vw_skip ?_ | refine vw_block ?_ | refine vw_ret ?_ | refine vw_exit ?_)
  refine vw_loop (fun m f own => ∃ i : Nat, i ≤ l.length ∧ m = l.length - i ∧ f 4 = .int .i64 i ∧ f 3 = .int .i64 (sumG (l.take i)) ∧ f 0 = .slice a l.length cap ∧ own = []) l.length
    ⟨0, by omega, by omega, rfl, rfl, rfl, rfl⟩ ?_
  rintro m f own ⟨i, hi, rfl, h4, h3, h0, rfl⟩
  rw [upd_of h4, upd_of h3, upd_of h0]
  repeat (first | refine vops_q tyOk rfl ?_ | refine vops_nil ?_ | refine vw_seq ?_ | refine vw_region (by kernel_rfl) ?_ | refine vops_guardT rfl rfl ?_ | refine vops_guardF rfl rfl ?_ | refine vops_guardU rfl rfl ?_ | with_reducible refine bs_nbeq rfl ?_ | with_reducible refine bs_true ?_ | with_reducible refine bs_false ?_ | with_reducible refine bs_ntrue ?_ | with_reducible refine bs_nfalse ?_ | refine vops_p tyOk rfl (by (try simp only [inR]); omega) ?_ | refine vw_cond rfl ?_ | refine vw_skip ?_ | refine vw_block ?_ | refine vw_ret ?_ | refine vw_exit ?_)
  refine bs_dec (fun hlt => ?_) (fun hlt => ?_)
  · have hil : i < l.length := by omega
    obtain ⟨b', o, cap', he, hcell⟩ := hv.at (i := i) hil
    cases he
    have hc := hcell i hil
    have hx := hall _ (mem_getD hil)
    have hs := sumG_in (B := B) (l := l.take i) fun x hx => hall x (List.mem_of_mem_take hx)
    have hb : ((l.take i).length : Int) * B ≤ 1000 * 1000 := by
      have h1 : (l.take i).length ≤ 1000 := by rw [List.length_take]; omega
      have h2 : 0 ≤ B := by omega
      exact Int.le_trans (Int.mul_le_mul_of_nonneg_right (show ((l.take i).length : Int) ≤ 1000 by omega) h2) (by omega)
    repeat (first | refine vops_q tyOk rfl ?_ | refine vops_nil ?_ | refine vw_seq ?_ | refine vw_region (by kernel_rfl) ?_ | refine vops_guardT rfl rfl ?_ | refine vops_guardF rfl rfl ?_ | refine vops_guardU rfl rfl ?_ | with_reducible refine bs_nbeq rfl ?_ | with_reducible refine bs_true ?_ | with_reducible refine bs_false ?_ | with_reducible refine bs_ntrue ?_ | with_reducible refine bs_nfalse ?_ | refine vops_p tyOk rfl (by (try simp only [inR]); omega) ?_ | refine vw_cond rfl ?_ | refine vw_skip ?_ | refine vw_block ?_ | refine vw_ret ?_ | refine vw_exit ?_ | refine vops_load tyOk rfl rfl rfl (sees_old hc (by simp)) ?_)
    refine ⟨l.length - (i + 1), by omega, i + 1, by omega, rfl, rfl, ?_, rfl, rfl⟩
    rw [take_snoc hil, sumG_snoc]; rfl
  · obtain rfl : i = l.length := by omega
    repeat (first | refine vops_q tyOk rfl ?_ | refine vops_nil ?_ | refine vw_seq ?_ | refine vw_region (by kernel_rfl) ?_ | refine vops_guardT rfl rfl ?_ | refine vops_guardF rfl rfl ?_ | refine vops_guardU rfl rfl ?_ | with_reducible refine bs_nbeq rfl ?_ | with_reducible refine bs_true ?_ | with_reducible refine bs_false ?_ | with_reducible refine bs_ntrue ?_ | with_reducible refine bs_nfalse ?_ | refine vops_p tyOk rfl (by (try simp only [inR]); omega) ?_ | refine vw_cond rfl ?_ | refine vw_skip ?_ | refine vw_block ?_ | refine vw_ret ?_ | refine vw_exit ?_)
    exact rv_int rfl rfl (by rw [List.take_length])
theorem sumG_add (f g : Nat → Int) : ∀ l : List Nat, sumG (l.map fun y => f y + g y) = sumG (l.map f) + sumG (l.map g)
  | [] => rfl
  | y :: l => by simp only [List.map_cons, sumG, sumG_add f g l]; omega
theorem sumG_ind (p : Nat → Prop) [DecidablePred p] : ∀ l : List Nat, sumG (l.map fun y => if p y then 1 else 0) = ((l.filter fun y => decide (p y)).length : Int)
  | [] => rfl
  | y :: l => by
    rw [List.map_cons, sumG, sumG_ind p l, List.filter_cons]
    by_cases h : p y
    · rw [if_pos h, if_pos (decide_eq_true h), List.length_cons]; push_cast; omega
    · rw [if_neg h, if_neg (by simpa using h)]; omega
theorem sumG_zero : ∀ l : List Nat, sumG (l.map fun _ => (0 : Int)) = 0
  | [] => rfl
  | _ :: l => by rw [List.map_cons, sumG, sumG_zero l]; rfl
/-- How many are in the group of x. -/
theorem group_count {k d m : Nat} {r : List Int} (h : IsPerm k r) (hd : 0 < d) (hm : d * m = k) {x : Nat} (hx : x < k) : (((List.range k).filter fun y => decide (SameG d r x y)).length : Int) = (d : Int) - 1 := by
  have hp1 := pos_lt h hx
  have hi : posI r x / d < m := Nat.div_lt_of_lt_mul (by omega)
  have hrl : r.length = d * m := by have := h.1; omega
  obtain ⟨A, hA⟩ : ∃ A, A = (List.range k).filter fun y => decide (posI r y / d = posI r x / d) := ⟨_, rfl⟩
  have hAn : A.Nodup := by rw [hA]; exact List.nodup_range.filter _
  have hAx : x ∈ A := by rw [hA]; exact List.mem_filter.2 ⟨List.mem_range.2 hx, decide_eq_true rfl⟩
  have hL : (Gs d r (posI r x / d)).Nodup := by
    unfold Gs
    rw [(sortL_perm _).nodup_iff]
    exact h.2.2.sublist ((List.take_sublist _ _).trans (List.drop_sublist _ _))
  have hP : (A.map fun (y : Nat) => (y : Int)).Perm (Gs d r (posI r x / d)) := by
    refine (List.perm_ext_iff_of_nodup (List.pairwise_map.2 (hAn.imp fun hne e => hne (by omega))) hL).2 fun z => ?_
    constructor
    · intro hz
      obtain ⟨y, hy, rfl⟩ := List.mem_map.1 hz
      rw [hA] at hy
      obtain ⟨h1, h2⟩ := List.mem_filter.1 hy
      exact (mem_Gs h hd hm hi (List.mem_range.1 h1)).2 (of_decide_eq_true h2)
    · intro hz
      have h1 := Gs_nat h hz
      have h2 : z.toNat < k := by omega
      have h3 : ((z.toNat : Nat) : Int) = z := Int.toNat_of_nonneg h1.1
      rw [← h3] at hz
      have h4 := (mem_Gs h hd hm hi h2).1 hz
      rw [← h3]
      exact List.mem_map.2 ⟨z.toNat, by rw [hA]; exact List.mem_filter.2 ⟨List.mem_range.2 h2, decide_eq_true h4⟩, rfl⟩
  have hAl : A.length = d := by
    have := hP.length_eq
    rw [List.length_map, Gs_length hrl hi] at this
    exact this
  have hE : ((List.range k).filter fun y => decide (SameG d r x y)).Perm (A.erase x) := by
    refine (List.perm_ext_iff_of_nodup (List.nodup_range.filter _) (hAn.erase x)).2 fun y => ?_
    rw [hAn.mem_erase_iff, hA, List.mem_filter, List.mem_filter, decide_eq_true_eq, decide_eq_true_eq]
    constructor
    · rintro ⟨h1, h2, h3⟩; exact ⟨h2.symm, h1, h3.symm⟩
    · rintro ⟨h2, h1, h3⟩; exact ⟨h1, h2.symm, h3.symm⟩
  rw [hE.length_eq, List.length_erase_of_mem hAx, hAl]
  omega
/-- What a row of the table sums up to. -/
theorem met_sum {k d m : Nat} (hd : 0 < d) (hm : d * m = k) {x : Nat} (hx : x < k) : ∀ {ls : List (List Int)}, (∀ r ∈ ls, IsPerm k r) → sumG ((List.range k).map fun y => (metN d ls x y : Int)) = ((d : Int) - 1) * (ls.length : Int)
  | [], _ => by
    show sumG ((List.range k).map fun _ => (0 : Int)) = _
    rw [sumG_zero]; simp
  | r :: ls, h => by
    have ih := met_sum hd hm hx (ls := ls) fun q hq => h q (List.mem_cons_of_mem _ hq)
    have e : ∀ y, (metN d (r :: ls) x y : Int) = (if SameG d r x y then 1 else 0) + (metN d ls x y : Int) := fun y => by
      unfold metN
      rw [List.filter_cons]
      by_cases c : SameG d r x y
      · rw [if_pos (decide_eq_true c), if_pos c, List.length_cons]; push_cast; omega
      · rw [if_neg (by simpa using c), if_neg c]; omega
    rw [List.map_congr_left fun y _ => e y, sumG_add, ih, sumG_ind, group_count (h r List.mem_cons_self) hd hm hx, List.length_cons]
    push_cast
    rw [Int.mul_add, Int.mul_one]; omega
theorem notTo_mem {F : Nat → Nat → Int} {a : Nat} {b : Nat} : ∀ {k : Nat}, (b : Int) ∈ notTo F a k ↔ b < k ∧ b ≠ a ∧ F a b = 0
  | 0 => ⟨fun h => (by cases h), fun h => by omega⟩
  | k + 1 => by
    by_cases c : k ≠ a ∧ F a k = 0
    · rw [notTo_yes c, List.mem_append, List.mem_singleton, notTo_mem (k := k)]
      constructor
      · rintro (⟨h1, h2⟩ | h)
        · exact ⟨by omega, h2⟩
        · obtain rfl : b = k := by omega
          exact ⟨by omega, c⟩
      · rintro ⟨h1, h2⟩
        by_cases e : b = k
        · exact .inr (by omega)
        · exact .inl ⟨by omega, h2⟩
    · rw [notTo_no c, notTo_mem (k := k)]
      constructor
      · rintro ⟨h1, h2⟩; exact ⟨by omega, h2⟩
      · rintro ⟨h1, h2⟩
        refine ⟨?_, h2⟩
        by_cases e : b = k
        · subst e; exact absurd h2 c
        · omega
theorem flat_sumG : ∀ es : List (List Int), es.flatten.length = sumLen es
  | [] => rfl
  | r :: es => by rw [List.flatten_cons, List.length_append, sumLen, flat_sumG es]
theorem tidy_length {n g m : Nat} {r : List Int} (h : IsPerm n r) (hg : 0 < g) (hm : g * m = n) : (tdTo g r n).flatten.length = n := by
  have hrl : r.length = g * m := by have := h.1; omega
  obtain ⟨l, hl⟩ : ∃ l, l = (List.range m).mergeSort fun i j => decide ((Gs g r i).getD 0 0 ≤ (Gs g r j).getD 0 0) := ⟨_, rfl⟩
  have hp : l.Perm (List.range m) := by rw [hl]; exact List.mergeSort_perm _ _
  have hs : l.Pairwise fun i j => (Gs g r i).getD 0 0 ≤ (Gs g r j).getD 0 0 := by
    have := List.pairwise_mergeSort (le := fun i j => decide ((Gs g r i).getD 0 0 ≤ (Gs g r j).getD 0 0)) (fun a b c h1 h2 => by simp only [decide_eq_true_eq] at *; omega) (fun a b => by simp only [Bool.or_eq_true, decide_eq_true_eq]; omega) (List.range m)
    rw [← hl] at this
    exact this.imp fun h => of_decide_eq_true h
  have hn : l.Nodup := hp.nodup_iff.2 List.nodup_range
  have hlm : ∀ i ∈ l, i < m := fun i hi => List.mem_range.1 (hp.mem_iff.1 hi)
  have hst : l.Pairwise fun i j => (Gs g r i).getD 0 0 < (Gs g r j).getD 0 0 := (hs.and hn).imp_of_mem fun {i j} hi hj hij => by
    obtain ⟨a1, _, e1, p1, _⟩ := Gs_head h hg hm (hlm i hi)
    obtain ⟨a2, _, e2, p2, _⟩ := Gs_head h hg hm (hlm j hj)
    have h1 := hij.1
    rw [e1, e2] at h1 ⊢
    by_cases e : a1 = a2
    · subst e
      exact absurd (p1.symm.trans p2) hij.2
    · omega
  rw [← tidy_eq h hg hm hp hst, flat_sumG, sumLen_const (k := g) fun q hq => by
    obtain ⟨i, hi, rfl⟩ := List.mem_map.1 hq
    exact Gs_length hrl (hlm i hi), List.length_map, hp.length_eq, List.length_range, Nat.mul_comm]
  exact hm
/-- Who is in the group of x. -/
theorem grp_mem {n g m : Nat} {r : List Int} (h : IsPerm n r) (hg : 0 < g) (hm : g * m = n) {x : Nat} (hx : x < n) {z : Int} (hz : z ∈ sortL (grpAt g r x)) : ∃ y : Nat, y < n ∧ z = (y : Int) ∧ posI r y / g = posI r x / g := by
  have hp1 := pos_lt h hx
  have hi : posI r x / g < m := Nat.div_lt_of_lt_mul (by omega)
  rw [grp_of_pos] at hz
  have h1 := Gs_nat h hz
  have h3 : ((z.toNat : Nat) : Int) = z := Int.toNat_of_nonneg h1.1
  rw [← h3] at hz
  exact ⟨z.toNat, by omega, h3.symm, (mem_Gs h hg hm hi (by omega)).1 hz⟩
theorem grp_self {n g m : Nat} {r : List Int} (h : IsPerm n r) (hg : 0 < g) (hm : g * m = n) {x : Nat} (hx : x < n) : (x : Int) ∈ sortL (grpAt g r x) := by
  have hp1 := pos_lt h hx
  rw [grp_of_pos]
  exact (mem_Gs h hg hm (Nat.div_lt_of_lt_mul (by omega)) hx).2 rfl
theorem met_pos {g : Nat} {ls : List (List Int)} {r : List Int} (hr : r ∈ ls) {x y : Nat} (h : SameG g r x y) : metN g ls x y ≠ 0 := by
  unfold metN
  intro e
  rw [List.length_eq_zero_iff, List.filter_eq_nil_iff] at e
  exact e r hr (decide_eq_true h)
end Go.Proofs.Ytnammdmiljjhjaa

/- A part of the proof: X23. No conditions of its own. -/
namespace Go.Proofs.Ytnammdmiljjhjaa
open Go.VL
attribute [local irreducible] VWr VOps VD Calls

theorem llX {P : Program} {fn : Nat} {args : Array Value} {w : World} {eo ei : Nat} {r : List (List Int) × Int} {ls : List (List Int)} {c : Int} (h : Calls P fn args w (Res w (PairLL eo ei r))) (hr : r = (ls, c)) :
    Calls P fn args w (Res w (fun v new => ∃ p cap, v = .tuple #[.slice p ls.length cap, .int .i64 c] ∧ NewLL eo ei ls (.slice p ls.length cap) new)) := by
  subst hr; exact h
theorem iiX {P : Program} {fn : Nat} {args : Array Value} {w : World} {e : Nat} {r : List Int × Int} {l : List Int} {c : Int} (h : Calls P fn args w (Res w (PairI e r))) (hr : r = (l, c)) :
    Calls P fn args w (Res w (fun v new => ∃ p cap, v = .tuple #[.slice p l.length cap, .int .i64 c] ∧ NewI e l (.slice p l.length cap) new)) := by
  subst hr; exact h

open Classical in
set_option maxHeartbeats 8000000 in
set_option maxRecDepth 100000 in
theorem c_FnGolfGroups (a : Option Addr) (cap : Nat) (cs : List Nat) (hcs : ∀ c ∈ cs, c < 256) (_hlm : cs.length ≤ maxLen) (w : World) (hB : RdB w a cs) :
    Calls Try.prog 3 [.slice a cs.length cap].toArray w (Res w (Is (.bool true))) := by
  refine calls_of_vw Try.func3 rfl Try.ntmps3 (by simp) ?_
  repeat (first | refine vops_q tyOk rfl ?_ | refine vops_nil ?_ | refine vw_seq ?_ | refine vw_region (by kernel_rfl) ?_ | refine vw_cond rfl ?_ | (apply vops_callp ent15 rfl; (intro w _; exact c_bigG _ _ _ w)))
  refine bs_dec (fun hbig => ?_) (fun hbig => ?_)
  · repeat (first | refine vops_q tyOk rfl ?_ | refine vops_nil ?_ | refine vw_seq ?_ | refine vw_region (by kernel_rfl) ?_ | refine vw_ret ?_)
    exact rv_bool rfl rfl rfl
  have hlc : cs.length ≤ 1048576 := by omega
  repeat (first | refine vops_q tyOk rfl ?_ | refine vw_seq ?_ | refine vw_region (by kernel_rfl) ?_ | refine vw_skip ?_)
  apply vops_call ent16 rfl
  · intro w' hg; exact c_DrawGroupOf a cs cap w' (hB.same hg.fr) hcs hlc
  rintro _ newM ⟨m, g, z, x, ls, p, c, hm0, hm1, hg0, hg1, hll, hrl, rfl, hM⟩
  have hl1 : ls.length ≤ 1048576 := by omega
  have hl2 : ∀ l ∈ ls, l.length ≤ 1048576 := fun l hl => by have := hrl l hl; omega
  obtain ⟨G, gc, hG⟩ : ∃ G gc, groupR m g ls z x = (G, gc) := ⟨_, _, rfl⟩
  obtain ⟨T, tc, hT⟩ : ∃ T tc, meetR m g ls = (T, tc) := ⟨_, _, rfl⟩
  obtain ⟨N, nc, hN⟩ : ∃ N nc, notMetR m g ls x = (N, nc) := ⟨_, _, rfl⟩
  obtain ⟨D, dc, hD⟩ : ∃ D dc, tidyR m g ls z = (D, dc) := ⟨_, _, rfl⟩
  have hGl := groupR_len m g ls z x
  have hTl := meetR_ok m g ls
  have hNl := notMetR_len m g ls x
  have hDl := tidyR_len m g ls z
  rw [hG] at hGl
  rw [hT] at hTl
  rw [hN] at hNl
  rw [hD] at hDl
  repeat (first | refine vops_q tyOk rfl ?_ | refine vops_nil ?_ | refine vw_seq ?_ | refine vw_region (by kernel_rfl) ?_ | refine vops_allocZ [.int .i64 0, .int .i64 0, .slice none 0 0] tyOk rfl rfl (by simp) (fun b3 hb3 => ?_) | ((show VOps _ _ _ _ (⟨some _, Go.Op.load _ _, _, _, _, none⟩ :: _) _ _); refine vops_loadNM tyOk rfl rfl rfl (by repeat (first | exact mem_here | apply mem_next | apply mem_past)) (by first | rfl | (rw [ints_length]; first | assumption | omega | (rw [ints_length]; first | assumption | omega | simp [*])) | simp [*]) ?_) | ((show VOps _ _ _ _ (⟨none, Go.Op.store _ _ _, _, _, _, none⟩ :: _) _ _); refine vops_storeAM tyOk rfl rfl rfl (by first | rfl | (rw [ints_length]; first | assumption | omega | (rw [ints_length]; first | assumption | omega | simp [*])) | simp [*]) (by first | exact ints_one | simp [Value.oneCell']) (by repeat (first | exact upd_here | apply upd_next | apply upd_past)) (by first | rfl | (rw [ints_length]; first | assumption | omega | (rw [ints_length]; first | assumption | omega | simp [*])) | simp [*]) ?_))
  apply vops_call ent17 rfl
  · intro w' hg; exact iiX (c_impl_GroupOf m g z x _ ls w' (hM.rdCC (by repeat (first | exact sub_hereL | exact sub_refl | apply sub_cons | apply sub_app)) hg) hl1 hl2) hG
  rintro _ newG1 ⟨p6, c6, rfl, hG1⟩
  repeat (first | refine vops_q tyOk rfl ?_ | refine vops_nil ?_ | refine vw_seq ?_ | refine vw_region (by kernel_rfl) ?_ | ((show VOps _ _ _ _ (⟨some _, Go.Op.load _ _, _, _, _, none⟩ :: _) _ _); refine vops_loadNM tyOk rfl rfl rfl (by repeat (first | exact mem_here | apply mem_next | apply mem_past)) (by first | rfl | (rw [ints_length]; first | assumption | omega | (rw [ints_length]; first | assumption | omega | simp [*])) | simp [*]) ?_))
  apply vops_call ent18 rfl
  · intro w' hg; exact iiX (c_spec_GroupOf m g z x _ ls w' (hM.rdCC (by repeat (first | exact sub_hereL | exact sub_refl | apply sub_cons | apply sub_app)) hg) hl1 hl2) hG
  rintro _ newG2 ⟨p8, c8, rfl, hG2⟩
  repeat (first | refine vops_q tyOk rfl ?_ | refine vops_nil ?_ | refine vw_seq ?_ | refine vw_region (by kernel_rfl) ?_ | refine vops_guardF rfl rfl ?_)
  refine bs_ndec2 (fun h => absurd rfl h) (fun _ => ?_)
  repeat (first | refine vops_q tyOk rfl ?_ | refine vops_guardF rfl rfl ?_ | with_reducible refine bs_false ?_)
  apply vops_callp ent19 rfl
  · intro w' hg; exact c_like _ _ G w' (hG1.rdG (by repeat (first | exact sub_hereL | exact sub_refl | apply sub_cons | apply sub_app)) hg) (hG2.rdG (by repeat (first | exact sub_hereL | exact sub_refl | apply sub_cons | apply sub_app)) hg) hGl
  repeat (first | refine vops_q tyOk rfl ?_ | refine vops_nil ?_ | refine vw_seq ?_ | refine vw_region (by kernel_rfl) ?_ | refine vops_guardF rfl rfl ?_ | with_reducible refine bs_false ?_ | with_reducible refine bs_ntrue ?_ | refine vw_cond rfl ?_ | refine vw_skip ?_ | ((show VOps _ _ _ _ (⟨some _, Go.Op.load _ _, _, _, _, none⟩ :: _) _ _); refine vops_loadNM tyOk rfl rfl rfl (by repeat (first | exact mem_here | apply mem_next | apply mem_past)) (by first | rfl | (rw [ints_length]; first | assumption | omega | (rw [ints_length]; first | assumption | omega | simp [*])) | simp [*]) ?_))
  apply vops_call ent20 rfl
  · intro w' hg; exact llX (c_impl_GolfMeetings m g _ ls w' (hM.rdCC (by repeat (first | exact sub_hereL | exact sub_refl | apply sub_cons | apply sub_app)) hg) hl1 hl2) hT
  rintro _ newT1 ⟨p10, c10, rfl, hT1⟩
  repeat (first | refine vops_q tyOk rfl ?_ | refine vops_nil ?_ | refine vw_seq ?_ | refine vw_region (by kernel_rfl) ?_ | ((show VOps _ _ _ _ (⟨some _, Go.Op.load _ _, _, _, _, none⟩ :: _) _ _); refine vops_loadNM tyOk rfl rfl rfl (by repeat (first | exact mem_here | apply mem_next | apply mem_past)) (by first | rfl | (rw [ints_length]; first | assumption | omega | (rw [ints_length]; first | assumption | omega | simp [*])) | simp [*]) ?_))
  apply vops_call ent21 rfl
  · intro w' hg; exact llX (c_spec_GolfMeetings m g _ ls w' (hM.rdCC (by repeat (first | exact sub_hereL | exact sub_refl | apply sub_cons | apply sub_app)) hg).rd hl1 hl2) hT
  rintro _ newT2 ⟨p12, c12, rfl, hT2⟩
  repeat (first | refine vops_q tyOk rfl ?_ | refine vops_nil ?_ | refine vw_seq ?_ | refine vw_region (by kernel_rfl) ?_ | refine vops_guardF rfl rfl ?_)
  refine bs_ndec2 (fun h => absurd rfl h) (fun _ => ?_)
  repeat (first | refine vops_q tyOk rfl ?_ | refine vops_guardF rfl rfl ?_ | with_reducible refine bs_false ?_)
  apply vops_callp ent22 rfl
  · intro w' hg; exact c_rows9 _ _ T w' (hT1.rdG (by repeat (first | exact sub_hereL | exact sub_refl | apply sub_cons | apply sub_app)) hg) (hT2.rdG (by repeat (first | exact sub_hereL | exact sub_refl | apply sub_cons | apply sub_app)) hg) hTl.1 hTl.2.1
  repeat (first | refine vops_q tyOk rfl ?_ | refine vops_nil ?_ | refine vw_seq ?_ | refine vw_region (by kernel_rfl) ?_ | refine vops_guardF rfl rfl ?_ | with_reducible refine bs_false ?_ | with_reducible refine bs_ntrue ?_ | refine vw_cond rfl ?_ | refine vw_skip ?_ | ((show VOps _ _ _ _ (⟨some _, Go.Op.load _ _, _, _, _, none⟩ :: _) _ _); refine vops_loadNM tyOk rfl rfl rfl (by repeat (first | exact mem_here | apply mem_next | apply mem_past)) (by first | rfl | (rw [ints_length]; first | assumption | omega | (rw [ints_length]; first | assumption | omega | simp [*])) | simp [*]) ?_))
  apply vops_call ent23 rfl
  · intro w' hg; exact iiX (c_impl_NotMet m g x _ ls w' (hM.rdCC (by repeat (first | exact sub_hereL | exact sub_refl | apply sub_cons | apply sub_app)) hg) hl1 hl2) hN
  rintro _ newN1 ⟨p14, c14, rfl, hN1⟩
  repeat (first | refine vops_q tyOk rfl ?_ | refine vops_nil ?_ | refine vw_seq ?_ | refine vw_region (by kernel_rfl) ?_ | ((show VOps _ _ _ _ (⟨some _, Go.Op.load _ _, _, _, _, none⟩ :: _) _ _); refine vops_loadNM tyOk rfl rfl rfl (by repeat (first | exact mem_here | apply mem_next | apply mem_past)) (by first | rfl | (rw [ints_length]; first | assumption | omega | (rw [ints_length]; first | assumption | omega | simp [*])) | simp [*]) ?_))
  apply vops_call ent24 rfl
  · intro w' hg; exact iiX (c_spec_NotMet m g x _ ls w' (hM.rdCC (by repeat (first | exact sub_hereL | exact sub_refl | apply sub_cons | apply sub_app)) hg).rd hl1 hl2) hN
  rintro _ newN2 ⟨p16, c16, rfl, hN2⟩
  repeat (first | refine vops_q tyOk rfl ?_ | refine vops_nil ?_ | refine vw_seq ?_ | refine vw_region (by kernel_rfl) ?_ | refine vops_guardF rfl rfl ?_)
  refine bs_ndec2 (fun h => absurd rfl h) (fun _ => ?_)
  repeat (first | refine vops_q tyOk rfl ?_ | refine vops_guardF rfl rfl ?_ | with_reducible refine bs_false ?_)
  apply vops_callp ent19 rfl
  · intro w' hg; exact c_like _ _ N w' (hN1.rdG (by repeat (first | exact sub_hereL | exact sub_refl | apply sub_cons | apply sub_app)) hg) (hN2.rdG (by repeat (first | exact sub_hereL | exact sub_refl | apply sub_cons | apply sub_app)) hg) hNl
  repeat (first | refine vops_q tyOk rfl ?_ | refine vops_nil ?_ | refine vw_seq ?_ | refine vw_region (by kernel_rfl) ?_ | refine vops_guardF rfl rfl ?_ | with_reducible refine bs_false ?_ | with_reducible refine bs_ntrue ?_ | refine vw_cond rfl ?_ | refine vw_skip ?_ | ((show VOps _ _ _ _ (⟨some _, Go.Op.load _ _, _, _, _, none⟩ :: _) _ _); refine vops_loadNM tyOk rfl rfl rfl (by repeat (first | exact mem_here | apply mem_next | apply mem_past)) (by first | rfl | (rw [ints_length]; first | assumption | omega | (rw [ints_length]; first | assumption | omega | simp [*])) | simp [*]) ?_))
  apply vops_call ent25 rfl
  · intro w' hg; exact iiX (c_impl_TidyRound m g z _ ls w' (hM.rdCC (by repeat (first | exact sub_hereL | exact sub_refl | apply sub_cons | apply sub_app)) hg) hl1 hl2) hD
  rintro _ newD1 ⟨p18, c18, rfl, hD1⟩
  repeat (first | refine vops_q tyOk rfl ?_ | refine vops_nil ?_ | refine vw_seq ?_ | refine vw_region (by kernel_rfl) ?_ | ((show VOps _ _ _ _ (⟨some _, Go.Op.load _ _, _, _, _, none⟩ :: _) _ _); refine vops_loadNM tyOk rfl rfl rfl (by repeat (first | exact mem_here | apply mem_next | apply mem_past)) (by first | rfl | (rw [ints_length]; first | assumption | omega | (rw [ints_length]; first | assumption | omega | simp [*])) | simp [*]) ?_))
  apply vops_call ent26 rfl
  · intro w' hg; exact iiX (c_spec_TidyRound m g z _ ls w' (hM.rdCC (by repeat (first | exact sub_hereL | exact sub_refl | apply sub_cons | apply sub_app)) hg) hl1 hl2) hD
  rintro _ newD2 ⟨p20, c20, rfl, hD2⟩
  repeat (first | refine vops_q tyOk rfl ?_ | refine vops_nil ?_ | refine vw_seq ?_ | refine vw_region (by kernel_rfl) ?_ | refine vops_guardF rfl rfl ?_)
  refine bs_ndec2 (fun h => absurd rfl h) (fun _ => ?_)
  repeat (first | refine vops_q tyOk rfl ?_ | refine vops_guardF rfl rfl ?_ | with_reducible refine bs_false ?_)
  apply vops_callp ent19 rfl
  · intro w' hg; exact c_like _ _ D w' (hD1.rdG (by repeat (first | exact sub_hereL | exact sub_refl | apply sub_cons | apply sub_app)) hg) (hD2.rdG (by repeat (first | exact sub_hereL | exact sub_refl | apply sub_cons | apply sub_app)) hg) hDl
  repeat (first | refine vops_q tyOk rfl ?_ | refine vops_nil ?_ | refine vw_seq ?_ | refine vops_guardF rfl rfl ?_ | with_reducible refine bs_false ?_ | with_reducible refine bs_ntrue ?_ | refine vw_cond rfl ?_ | refine vw_skip ?_)
  refine vw_draw [0, 2, 1, 3, 4] (by kernel_rfl) (by kernel_rfl) (by kernel_rfl) rfl ?_
  repeat' (first | refine vd_q tyOk rfl (by first | trivial | rfl) rfl (by kernel_rfl) (by kernel_rfl) ?_ | refine vops_nil ?_ | refine vd_nil (by kernel_rfl) ?_ | refine ⟨fun _ _ _ h => h, ?_⟩ | refine vd_loadNM tyOk rfl (by first | trivial | rfl) rfl rfl rfl (by repeat (first | exact mem_here | apply mem_next | apply mem_past)) (by first | rfl | (rw [ints_length]; first | assumption | omega | (rw [ints_length]; first | assumption | omega | simp [*])) | simp [*]) (by kernel_rfl) (by kernel_rfl) (by kernel_rfl) (by repeat (first | exact sub_hereL | exact sub_refl | apply sub_cons | apply sub_app)) ?_ | (apply vops_callp ent27 rfl; (intro w' hg; exact c_IsGolf m g _ ls w' (hM.rdCC (by repeat (first | exact sub_hereL | exact sub_refl | apply sub_cons | apply sub_app)) hg).rd hl1 hl2)) | (apply vops_callp ent28 rfl; (intro w' hg; exact c_spec_IsGolf m g _ ls w' (hM.rdCC (by repeat (first | exact sub_hereL | exact sub_refl | apply sub_cons | apply sub_app)) hg).rd hl1 hl2)) | refine vd_one rfl (by kernel_rfl) (by kernel_rfl) rfl ?_)
  refine vw_le (own' := newD1 ++ (newN1 ++ (newT1 ++ (newG1 ++ (newM ++ [(b3, ⟨[.int .i64 m, .int .i64 g, .slice p ls.length c], 26, 3, none⟩)]))))) (by repeat (first | exact ole_nil | exact ole_refl | (apply ole_cons; (repeat (first | exact pm1_here | apply pm1_next | apply pm1_past))) | (apply ole_app; (repeat (first | exact pm_here | exact pm_last | apply pm_next | apply pm_past))))) ?_
  clear hG2 hT2 hN2 hD2 hD1 hDl hGl hTl
  repeat (first | refine vops_q tyOk rfl ?_ | refine vops_nil ?_ | refine vw_seq ?_ | refine vw_region (by kernel_rfl) ?_ | with_reducible refine bs_nbeq rfl ?_ | refine vw_cond rfl ?_ | refine vw_skip ?_)
  by_cases hE : IsGf m g ls
  rotate_left
  · rw [meetR, if_neg hE] at hT
    rw [groupR, if_neg hE] at hG
    rw [notMetR, if_neg hE] at hN
    cases hT; cases hG; cases hN
    refine bs_ndec2 (fun _ => ?_) (fun h => absurd h (by omega))
    repeat (first | refine vops_q tyOk rfl ?_ | refine vw_seq ?_ | refine vw_region (by kernel_rfl) ?_ | refine vops_guardT rfl rfl ?_)
    refine bs_dec (fun _ => ?_) (fun h => absurd rfl h)
    repeat (first | refine vops_q tyOk rfl ?_ | refine vops_guardT rfl rfl ?_ | with_reducible refine bs_true ?_)
    refine bs_dec (fun _ => ?_) (fun h => absurd rfl h)
    repeat (first | refine vops_q tyOk rfl ?_ | refine vops_nil ?_ | refine vops_guardT rfl rfl ?_ | with_reducible refine bs_true ?_ | refine vw_ret ?_)
    exact rv_bool rfl rfl rfl
  obtain ⟨k, d, rfl, rfl⟩ := hE.nat
  have hk2 : 2 ≤ k := by have := hE.1; omega
  have hk25 : k ≤ 25 := by have := hE.2.1; omega
  have hd2 : 2 ≤ d := by have := hE.2.2.1; omega
  have hdk : d ≤ k := by have := hE.gle; omega
  have hl12 : ls.length ≤ 12 := hE.2.2.2.2.1
  have hpr : ∀ r ∈ ls, IsPerm k r := hE.2.2.2.2.2
  obtain ⟨q, hq, hq0⟩ := gf_parts hE
  rw [meetR, if_pos hE, Int.toNat_natCast, Int.toNat_natCast] at hT
  rw [groupR, if_pos hE, Int.toNat_natCast] at hG
  rw [notMetR, if_pos hE, Int.toNat_natCast, Int.toNat_natCast] at hN
  rw [tidyR, if_pos hE, Int.toNat_natCast, Int.toNat_natCast] at hD
  cases hT
  refine bs_ndec2 (fun h => absurd rfl h) (fun _ => ?_)
  repeat (first | refine vops_q tyOk rfl ?_ | refine vops_nil ?_ | refine vw_seq ?_ | refine vw_region (by kernel_rfl) ?_ | refine vw_skip ?_ | refine vw_block ?_)
  obtain ⟨vsT, nsT, outT, hRT, hVT, rfl⟩ := hT1
  rw [show (metT k d ls).length = k from tabOf_length _ _] at hVT ⊢
  obtain ⟨boT, rfl, rfl⟩ := outer_blk hVT (by omega)
  obtain ⟨W0, hW0⟩ : ∃ W0 : Own, W0 = newD1 ++ (newN1 ++ ([(boT, ⟨vsT, 29, c10 * 1, none⟩)] ++ nsT.flatten ++ (newG1 ++ (newM ++ [(b3, ⟨[.int .i64 k, .int .i64 d, .slice p ls.length c], 26, 3, none⟩)])))) := ⟨_, rfl⟩
  have m3 : (b3, (⟨[.int .i64 k, .int .i64 d, .slice p ls.length c], 26, 3, none⟩ : Blk)) ∈ W0 := by rw [hW0]; simp
  have mT : (boT, (⟨vsT, 29, c10 * 1, none⟩ : Blk)) ∈ W0 := by rw [hW0]; simp
  have hsT : Go.VL.Sub nsT.flatten W0 := fun q hq => by rw [hW0]; simp only [List.mem_append]; exact .inr (.inr (.inl (.inr hq)))
  have hsN : Go.VL.Sub newN1 W0 := fun q hq => by rw [hW0]; simp only [List.mem_append]; exact .inr (.inl hq)
  have hsG : Go.VL.Sub newG1 W0 := fun q hq => by rw [hW0]; simp only [List.mem_append]; exact .inr (.inr (.inr (.inl hq)))
  rw [← hW0]
  clear hW0
  have hmet : ∀ x y, (metN d ls x y : Int) ≤ 12 := fun x y => by have := metN_le d ls x y; omega
  have hpd : 0 ≤ ((d : Int) - 1) * (ls.length : Int) ∧ ((d : Int) - 1) * (ls.length : Int) ≤ 24 * 12 := ⟨Int.mul_nonneg (by omega) (by omega), Int.mul_le_mul (by omega) (by omega) (by omega) (by omega)⟩
  refine vw_loopW (fun y f own => ∃ i : Nat, i ≤ k ∧ y = k - i ∧ f 22 = .int .i64 i ∧ f 3 = .pointer (some ⟨b3, 0, none⟩) ∧ f 5 = .int .i64 x ∧ f 6 = .slice p6 G.length c6 ∧ f 7 = .int .i64 gc ∧ f 10 = .slice (some ⟨boT, 0, none⟩) k c10 ∧ f 14 = .slice p14 N.length c14 ∧ f 15 = .int .i64 nc ∧ f 18 = .slice p18 D.length c18 ∧ f 19 = .int .i64 dc ∧ W0 = own) k
    ⟨W0, ole_refl, 0, by omega, by omega, rfl, rfl, rfl, rfl, rfl, rfl, rfl, rfl, rfl, rfl, rfl⟩ ?_
  rintro y f own ⟨i, hi, rfl, hk, g0, g1, g2, g3, g4, g5, g6, g7, g8, rfl⟩
  rw [upd_of hk, upd_of g0, upd_of g1, upd_of g2, upd_of g3, upd_of g4, upd_of g5, upd_of g6, upd_of g7, upd_of g8]
  repeat (first | refine vops_q tyOk rfl ?_ | refine vops_nil ?_ | refine vw_seq ?_ | refine vw_region (by kernel_rfl) ?_ | refine vw_cond rfl ?_)
  refine bs_dec (fun hlt => ?_) (fun hlt => ?_)
  · have hik : i < k := by omega
    obtain ⟨br, cr, ns1, ns2, hv1, hns⟩ := tab_cell hRT hik
    have m1 := hsT _ (by rw [hns]; exact mem_flat List.mem_cons_self)
    have hva := vals_get hv1 (show 0 + (i : Int).toNat = i by omega)
    have hsum : sumG ((List.range k).map fun b => (metN d ls i b : Int)) = ((d : Int) - 1) * (ls.length : Int) := met_sum (by omega) hq hik hpr
    have hcd : (ints ((List.range k).map fun b => (metN d ls i b : Int)))[0 + (i : Int).toNat]? = some (.int .i64 0) := by
      rw [show 0 + (i : Int).toNat = i by omega, ints_get (by rw [row_length]; omega), row_get hik, metN_self]; rfl
    repeat (first | refine vw_seq ?_ | refine vw_skip ?_ | refine vw_block ?_)
    refine vw_draw [0, 1, 2, 3, 5, 6, 7, 8, 9, 10, 11, 4, 12, 13, 14, 15, 16, 17, 18, 19, 20, 21, 22] (by kernel_rfl) (by kernel_rfl) (by kernel_rfl) rfl ?_
    repeat' (first | refine vd_q tyOk rfl (by first | trivial | rfl) rfl (by kernel_rfl) (by kernel_rfl) ?_ | refine vd_p tyOk rfl (by first | trivial | rfl) rfl (by kernel_rfl) (by kernel_rfl) (by (try simp only [inR]); omega) ?_ | refine vops_nil ?_ | refine vd_nil (by kernel_rfl) ?_ | refine ⟨fun _ _ _ h => h, ?_⟩ | refine vd_load tyOk rfl (by first | trivial | rfl) rfl rfl rfl (by kernel_rfl) (by kernel_rfl) (by kernel_rfl) (sees_mem mT (by exact hva)) sub_refl ?_ | refine vd_load tyOk rfl (by first | trivial | rfl) rfl rfl rfl (by kernel_rfl) (by kernel_rfl) (by kernel_rfl) (sees_mem m1 (by exact hcd)) sub_refl ?_ | refine vd_load tyOk rfl (by first | trivial | rfl) rfl rfl rfl (by kernel_rfl) (by kernel_rfl) (by kernel_rfl) (sees_mem m3 (by exact rfl)) sub_refl ?_ | (apply vops_callp ent29 rfl; (intro w' hg; exact c_sumG _ ((List.range k).map fun b => (metN d ls i b : Int)) 12 w' (rdI_lit m1 hg (by rw [row_length])) (by rw [row_length]; omega) (by omega) (fun x hx => by obtain ⟨y, _, rfl⟩ := List.mem_map.1 hx; have := hmet i y; omega)); rw [hsum]) | refine vd_one rfl (by kernel_rfl) (by kernel_rfl) rfl ?_ | (refine vd_gsplit rfl rfl rfl ?_; (fail_if_success (with_reducible (first | refine bs_true ?_ | refine bs_false ?_))); with_reducible refine bs_ndec (fun _ => ?_) (fun _ => ?_)) <;> try (exfalso; omega))
    repeat (first | refine vw_cond rfl ?_)
    refine bs_ndec2 (fun h => absurd rfl h) (fun _ => ?_)
    repeat (first | refine vops_q tyOk rfl ?_ | refine vops_nil ?_ | refine vw_seq ?_ | refine vw_region (by kernel_rfl) ?_ | refine vw_skip ?_ | refine vw_block ?_)
    refine vw_loopW (fun y f own => ∃ j : Nat, j ≤ i ∧ y = i - j ∧ f 23 = .int .i64 j ∧ f 22 = .int .i64 i ∧ f 3 = .pointer (some ⟨b3, 0, none⟩) ∧ f 5 = .int .i64 x ∧ f 6 = .slice p6 G.length c6 ∧ f 7 = .int .i64 gc ∧ f 10 = .slice (some ⟨boT, 0, none⟩) k c10 ∧ f 14 = .slice p14 N.length c14 ∧ f 15 = .int .i64 nc ∧ f 18 = .slice p18 D.length c18 ∧ f 19 = .int .i64 dc ∧ W0 = own) i
      ⟨_, ole_refl, 0, by omega, by omega, rfl, rfl, rfl, rfl, rfl, rfl, rfl, rfl, rfl, rfl, rfl, rfl⟩ ?_
    rintro y f own ⟨j, hj, rfl, hq2, hk, g0, g1, g2, g3, g4, g5, g6, g7, g8, rfl⟩
    rw [upd_of hq2, upd_of hk, upd_of g0, upd_of g1, upd_of g2, upd_of g3, upd_of g4, upd_of g5, upd_of g6, upd_of g7, upd_of g8]
    repeat (first | refine vops_q tyOk rfl ?_ | refine vops_nil ?_ | refine vw_seq ?_ | refine vw_region (by kernel_rfl) ?_ | refine vw_cond rfl ?_)
    refine bs_dec (fun hlt2 => ?_) (fun hlt2 => ?_)
    · have hjn : j < k := by omega
      obtain ⟨br3, cr3, ns3, ns4, hv3, hns3⟩ := tab_cell hRT hjn
      have m5 := hsT _ (by rw [hns3]; exact mem_flat List.mem_cons_self)
      have hva3 := vals_get hv3 (show 0 + (j : Int).toNat = j by omega)
      have hc1 : (ints ((List.range k).map fun b => (metN d ls i b : Int)))[0 + (j : Int).toNat]? = some (.int .i64 (metN d ls i j : Int)) := by
        rw [show 0 + (j : Int).toNat = j by omega, ints_get (by rw [row_length]; omega), row_get hjn]
      have hc2 : (ints ((List.range k).map fun b => (metN d ls j b : Int)))[0 + (i : Int).toNat]? = some (.int .i64 (metN d ls i j : Int)) := by
        rw [show 0 + (i : Int).toNat = i by omega, ints_get (by rw [row_length]; omega), row_get hik, metN_symm]
      repeat (first | refine vw_seq ?_ | refine vw_skip ?_ | refine vw_block ?_)
      refine vw_draw [0, 1, 2, 3, 4, 5, 6, 7, 8, 9, 10, 11, 12, 13, 14] (by kernel_rfl) (by kernel_rfl) (by kernel_rfl) rfl ?_
      repeat' (first | refine vd_q tyOk rfl (by first | trivial | rfl) rfl (by kernel_rfl) (by kernel_rfl) ?_ | refine vd_p tyOk rfl (by first | trivial | rfl) rfl (by kernel_rfl) (by kernel_rfl) (by (try simp only [inR]); omega) ?_ | refine vd_nil (by kernel_rfl) ?_ | refine vd_load tyOk rfl (by first | trivial | rfl) rfl rfl rfl (by kernel_rfl) (by kernel_rfl) (by kernel_rfl) (sees_mem mT (by exact hva)) sub_refl ?_ | refine vd_load tyOk rfl (by first | trivial | rfl) rfl rfl rfl (by kernel_rfl) (by kernel_rfl) (by kernel_rfl) (sees_mem mT (by exact hva3)) sub_refl ?_ | refine vd_load tyOk rfl (by first | trivial | rfl) rfl rfl rfl (by kernel_rfl) (by kernel_rfl) (by kernel_rfl) (sees_mem m1 (by exact hc1)) sub_refl ?_ | refine vd_load tyOk rfl (by first | trivial | rfl) rfl rfl rfl (by kernel_rfl) (by kernel_rfl) (by kernel_rfl) (sees_mem m5 (by exact hc2)) sub_refl ?_)
      repeat (first | refine vw_cond rfl ?_)
      refine bs_ndec2 (fun h => absurd rfl h) (fun _ => ?_)
      repeat (first | refine vops_q tyOk rfl ?_ | refine vops_nil ?_ | refine vw_region (by kernel_rfl) ?_ | refine vops_p tyOk rfl (by (try simp only [inR]); omega) ?_ | refine vw_skip ?_)
      exact ⟨i - (j + 1), by omega, _, ole_refl, j + 1, by omega, rfl, rfl, rfl, rfl, rfl, rfl, rfl, rfl, rfl, rfl, rfl, rfl, rfl⟩
    · repeat (first | refine vops_q tyOk rfl ?_ | refine vops_nil ?_ | refine vw_region (by kernel_rfl) ?_ | refine vops_p tyOk rfl (by (try simp only [inR]); omega) ?_ | refine vw_exit ?_)
      exact ⟨k - (i + 1), by omega, _, ole_refl, i + 1, by omega, rfl, rfl, rfl, rfl, rfl, rfl, rfl, rfl, rfl, rfl, rfl, rfl⟩
  repeat (first | refine vops_q tyOk rfl ?_ | refine vops_nil ?_ | refine vw_seq ?_ | refine vw_region (by kernel_rfl) ?_ | refine vw_cond rfl ?_ | refine vw_exit ?_)
  by_cases hx : 0 ≤ x ∧ x < k
  rotate_left
  · rw [if_neg hx] at hN
    rw [if_neg fun h => hx h.2] at hG
    cases hN; cases hG
    refine bs_dec (fun h => absurd h (by omega)) (fun _ => ?_)
    repeat (first | refine vops_q tyOk rfl ?_ | refine vops_nil ?_ | refine vw_seq ?_ | refine vw_region (by kernel_rfl) ?_ | refine vw_cond rfl ?_ | refine vw_skip ?_)
    refine bs_ndec2 (fun _ => ?_) (fun h => absurd h (by omega))
    repeat (first | refine vops_q tyOk rfl ?_ | refine vops_nil ?_ | refine vw_seq ?_ | refine vw_region (by kernel_rfl) ?_ | refine vw_ret ?_)
    exact rv_bool rfl rfl rfl
  obtain ⟨xa, rfl⟩ : ∃ xa : Nat, x = (xa : Int) := ⟨x.toNat, by omega⟩
  have hxk : xa < k := by omega
  rw [if_pos hx, Int.toNat_natCast] at hN
  cases hN
  obtain ⟨brA, crA, nsA, nsB, hvA, hnsA⟩ := tab_cell hRT hxk
  have mA := hsT _ (by rw [hnsA]; exact mem_flat List.mem_cons_self)
  have hvaA := vals_get hvA (show 0 + (xa : Int).toNat = xa by omega)
  have hNm : ∀ b : Nat, (b : Int) ∈ notTo (fun x y => (metN d ls x y : Int)) xa k ↔ b < k ∧ b ≠ xa ∧ (metN d ls xa b : Int) = 0 := fun b => notTo_mem
  generalize notTo (fun x y => (metN d ls x y : Int)) xa k = N at *
  refine bs_dec (fun _ => ?_) (fun h => absurd rfl h)
  repeat (first | refine vops_q tyOk rfl ?_ | refine vops_nil ?_ | refine vw_seq ?_ | refine vw_region (by kernel_rfl) ?_ | refine vw_block ?_)
  refine vw_loopW (fun y f own => ∃ j : Nat, j ≤ k ∧ y = k - j ∧ f 24 = .int .i64 j ∧ f 3 = .pointer (some ⟨b3, 0, none⟩) ∧ f 5 = .int .i64 xa ∧ f 6 = .slice p6 G.length c6 ∧ f 7 = .int .i64 gc ∧ f 10 = .slice (some ⟨boT, 0, none⟩) k c10 ∧ f 14 = .slice p14 N.length c14 ∧ f 15 = .int .i64 0 ∧ f 18 = .slice p18 D.length c18 ∧ f 19 = .int .i64 dc ∧ W0 = own) k
    ⟨W0, ole_refl, 0, by omega, by omega, rfl, rfl, rfl, rfl, rfl, rfl, rfl, rfl, rfl, rfl, rfl⟩ ?_
  rintro y f own ⟨j, hj, rfl, hk, g0, g1, g2, g3, g4, g5, g6, g7, g8, rfl⟩
  rw [upd_of hk, upd_of g0, upd_of g1, upd_of g2, upd_of g3, upd_of g4, upd_of g5, upd_of g6, upd_of g7, upd_of g8]
  repeat (first | refine vops_q tyOk rfl ?_ | refine vops_nil ?_ | refine vw_seq ?_ | refine vw_region (by kernel_rfl) ?_ | refine vw_cond rfl ?_ | refine vops_loadM tyOk rfl rfl rfl m3 (by exact rfl) ?_)
  refine bs_dec (fun hlt => ?_) (fun hlt => ?_)
  · have hjk : j < k := by omega
    have hc1 : (ints ((List.range k).map fun b => (metN d ls xa b : Int)))[0 + (j : Int).toNat]? = some (.int .i64 (metN d ls xa j : Int)) := by
      rw [show 0 + (j : Int).toNat = j by omega, ints_get (by rw [row_length]; omega), row_get hjk]
    by_cases hje : j = xa
    · have hh : decide ((j : Int) ∈ N) = false := decide_eq_false fun h => ((hNm j).1 h).2.1 hje
      repeat (first | refine vops_q tyOk rfl ?_ | refine vw_seq ?_ | refine vw_region (by kernel_rfl) ?_ | refine vops_guardT rfl rfl ?_ | refine vw_skip ?_ | refine vw_block ?_ | (apply vops_callp ent30 rfl; (intro w' hg; exact c_hasInt _ N (j : Int) w' (hN1.rdG hsN hg) hNl); rw [hh]))
      refine bs_ndec2 (fun h => absurd (by omega) h) (fun _ => ?_)
      repeat (first | refine vops_q tyOk rfl ?_ | refine vops_nil ?_ | refine vw_region (by kernel_rfl) ?_ | refine vops_guardT rfl rfl ?_ | with_reducible refine bs_nbeq rfl ?_ | with_reducible refine bs_false ?_ | refine vops_p tyOk rfl (by (try simp only [inR]); omega) ?_ | refine vw_cond rfl ?_ | refine vw_skip ?_)
      exact ⟨k - (j + 1), by omega, _, ole_refl, j + 1, by omega, rfl, rfl, rfl, rfl, rfl, rfl, rfl, rfl, rfl, rfl, rfl, rfl⟩
    · have hh : decide ((j : Int) ∈ N) = decide ((metN d ls xa j : Int) = 0) := decide_eq_decide.2 ⟨fun h => ((hNm j).1 h).2.2, fun h => (hNm j).2 ⟨hjk, hje, h⟩⟩
      repeat (first | refine vops_q tyOk rfl ?_ | refine vw_seq ?_ | refine vw_region (by kernel_rfl) ?_ | refine vops_guardT rfl rfl ?_ | refine vw_skip ?_ | refine vw_block ?_ | (apply vops_callp ent30 rfl; (intro w' hg; exact c_hasInt _ N (j : Int) w' (hN1.rdG hsN hg) hNl); rw [hh]))
      refine bs_ndec2 (fun _ => ?_) (fun h => absurd h (by omega))
      repeat (first | refine vops_q tyOk rfl ?_ | refine vops_nil ?_ | refine vw_region (by kernel_rfl) ?_ | refine vops_guardT rfl rfl ?_ | with_reducible refine bs_nbeq rfl ?_ | with_reducible refine bs_true ?_ | refine vops_p tyOk rfl (by (try simp only [inR]); omega) ?_ | refine vw_cond rfl ?_ | refine vw_skip ?_ | refine vops_loadM tyOk rfl rfl rfl mT (by exact hvaA) ?_ | refine vops_loadM tyOk rfl rfl rfl mA (by exact hc1) ?_)
      exact ⟨k - (j + 1), by omega, _, ole_refl, j + 1, by omega, rfl, rfl, rfl, rfl, rfl, rfl, rfl, rfl, rfl, rfl, rfl, rfl⟩
  repeat (first | refine vops_q tyOk rfl ?_ | refine vops_nil ?_ | refine vw_seq ?_ | refine vw_region (by kernel_rfl) ?_ | refine vw_cond rfl ?_ | refine vw_exit ?_)
  by_cases hz : 0 ≤ z ∧ z < ls.length
  rotate_left
  · rw [if_neg fun h => hz h.1] at hG
    cases hG
    refine bs_ndec2 (fun _ => ?_) (fun h => absurd h (by omega))
    repeat (first | refine vops_q tyOk rfl ?_ | refine vops_nil ?_ | refine vw_seq ?_ | refine vw_region (by kernel_rfl) ?_ | refine vw_ret ?_)
    exact rv_bool rfl rfl rfl
  obtain ⟨zn, rfl⟩ : ∃ zn : Nat, z = (zn : Int) := ⟨z.toNat, by omega⟩
  have hzl : zn < ls.length := by omega
  have hrow : ls[zn]? = some (ls.getD zn []) := by rw [List.getD_eq_getElem?_getD, List.getElem?_eq_getElem hzl]; rfl
  have hrm := List.mem_of_getElem? hrow
  rw [if_pos ⟨hz, hx⟩, Int.toNat_natCast, Int.toNat_natCast] at hG
  rw [if_pos hz, Int.toNat_natCast] at hD
  generalize ls.getD zn [] = row at *
  have hrp := hpr row hrm
  have hGl : (sortL (grpAt d row xa)).length = d := by rw [sortL_length]; exact grpAt_length hrp (gf_dvd hE) hxk
  have hDl := tidy_length hrp (show 0 < d by omega) hq
  have hself := grp_self hrp (show 0 < d by omega) hq hxk
  have hgm : ∀ y ∈ sortL (grpAt d row xa), y ∉ N := fun y hy hn => by
    obtain ⟨b, hbk, rfl, hpb⟩ := grp_mem hrp (show 0 < d by omega) hq hxk hy
    obtain ⟨_, h2, h3⟩ := (hNm b).1 hn
    exact met_pos hrm (show SameG d row xa b from ⟨fun e => h2 e.symm, hpb.symm⟩) (by omega)
  cases hG; cases hD
  generalize sortL (grpAt d row xa) = G at *
  generalize (tdTo d row k).flatten = D at *
  rw [hGl, hDl]
  rw [hGl] at hG1
  obtain ⟨bG, rfl, rfl, _, _, _⟩ := NewF.blk (show NewF 2 1 d G _ _ from by have h := NewI.f (show NewI 2 G (.slice p6 G.length c6) newG1 from by rw [hGl]; exact hG1); rwa [hGl] at h) (by omega)
  have mG := hsG _ List.mem_cons_self
  have hdG : decide ((xa : Int) ∈ G) = true := decide_eq_true hself
  refine bs_ndec2 (fun h => absurd rfl h) (fun _ => ?_)
  repeat (first | refine vops_q tyOk rfl ?_ | refine vw_seq ?_ | refine vw_region (by kernel_rfl) ?_ | refine vops_guardF rfl rfl ?_ | refine vw_skip ?_ | refine vops_loadM tyOk rfl rfl rfl m3 (by exact rfl) ?_)
  refine bs_ndec2 (fun h => absurd rfl h) (fun _ => ?_)
  repeat (first | refine vops_q tyOk rfl ?_ | refine vops_guardF rfl rfl ?_ | with_reducible refine bs_false ?_ | with_reducible refine bs_ntrue ?_ | (apply vops_callp ent30 rfl; (intro w' hg; exact c_hasInt _ G (xa : Int) w' (rdI_lit mG hg hGl.symm) (by omega)); rw [hdG]))
  refine bs_ndec2 (fun h => absurd rfl h) (fun _ => ?_)
  repeat (first | refine vops_q tyOk rfl ?_ | refine vops_nil ?_ | refine vops_guardF rfl rfl ?_ | with_reducible refine bs_false ?_ | refine vw_cond rfl ?_ | refine vops_loadM tyOk rfl rfl rfl m3 (by exact rfl) ?_)
  refine bs_ndec2 (fun h => absurd rfl h) (fun _ => ?_)
  repeat (first | refine vops_q tyOk rfl ?_ | refine vops_nil ?_ | refine vw_seq ?_ | refine vw_region (by kernel_rfl) ?_ | refine vw_skip ?_ | refine vw_block ?_)
  refine vw_loopW (fun y f own => ∃ j : Nat, j ≤ d ∧ y = d - j ∧ f 25 = .int .i64 j ∧ f 6 = .slice (some ⟨bG, 0, none⟩) d c6 ∧ f 14 = .slice p14 N.length c14 ∧ W0 = own) d
    ⟨W0, ole_refl, 0, by omega, by omega, rfl, rfl, rfl, rfl⟩ ?_
  rintro y f own ⟨j, hj, rfl, hk, g6, g14, rfl⟩
  rw [upd_of hk, upd_of g6, upd_of g14]
  repeat (first | refine vops_q tyOk rfl ?_ | refine vops_nil ?_ | refine vw_seq ?_ | refine vw_region (by kernel_rfl) ?_ | refine vw_cond rfl ?_)
  refine bs_dec (fun hlt => ?_) (fun hlt => ?_)
  · have hjd : j < G.length := by omega
    have hh : decide (G.getD j 0 ∈ N) = false := decide_eq_false (hgm _ (mem_getD hjd))
    have hcG : (ints G)[0 + (j : Int).toNat]? = some (.int .i64 (G.getD j 0)) := by rw [show 0 + (j : Int).toNat = j by omega, ints_get hjd]
    repeat (first | refine vops_q tyOk rfl ?_ | refine vops_nil ?_ | refine vw_seq ?_ | refine vw_region (by kernel_rfl) ?_ | with_reducible refine bs_false ?_ | refine vops_p tyOk rfl (by (try simp only [inR]); omega) ?_ | refine vw_cond rfl ?_ | refine vw_skip ?_ | refine vw_block ?_ | refine vops_loadM tyOk rfl rfl rfl mG (by exact hcG) ?_ | (apply vops_callp ent30 rfl; (intro w' hg; exact c_hasInt _ N (G.getD j 0) w' (hN1.rdG hsN hg) hNl); rw [hh]))
    exact ⟨d - (j + 1), by omega, _, ole_refl, j + 1, by omega, rfl, rfl, rfl, rfl, rfl⟩
  · repeat (first | refine vops_q tyOk rfl ?_ | refine vops_nil ?_ | refine vw_seq ?_ | refine vw_region (by kernel_rfl) ?_ | refine vw_ret ?_ | refine vw_exit ?_)
    exact rv_bool rfl rfl rfl
end Go.Proofs.Ytnammdmiljjhjaa

