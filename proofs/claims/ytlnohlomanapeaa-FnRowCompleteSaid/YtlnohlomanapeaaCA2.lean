import Derived.Test.YtlnohlomanapeaaCA1
import Derived.Test.YtlnohlomanapeaaSX
import Derived.Test.YtlnohlomanapeaaVLLol
import Derived.Test.YtlnohlomanapeaaVLCells
import Derived.Test.YtlnohlomanapeaaVLA
/- A part of the proof: CA2. No conditions of its own. -/
namespace Go.Proofs.Ytlnohlomanapeaa
open Go.VL
attribute [local irreducible] VWr VOps VD Calls

/-- The square of a list: the number at the row i and the column k. -/
def sqC (l : List Int) (i k : Nat) : Int := ((i : Int) + l.getD k 0) % (l.length : Int)
open Classical in
noncomputable def sqLR (l : List Int) : List (List Int) × Int := if IsWhole l then (tabN l.length l.length (sqC l), 0) else ([], 2)
theorem sumLen_tabC (k : Nat) (g : Nat → Nat → Int) : ∀ m, sumLen (tabN m k g) = m * k
  | 0 => by simp [tabN_zero, sumLen]
  | m + 1 => by rw [tabN_succ, sumLen_snoc, sumLen_tabC k g m, lst_length, Nat.add_mul, Nat.one_mul]
theorem sqLR_ok (l : List Int) : (sqLR l).1.length ≤ 1048576 ∧ (∀ r ∈ (sqLR l).1, r.length ≤ 1048576) ∧ sumLen (sqLR l).1 ≤ 1048576 := by
  unfold sqLR
  split
  · rename_i h
    have h14 := h.2.1
    refine ⟨by simp only [tabN_length]; omega, fun r hr => ?_, ?_⟩
    · obtain ⟨i, _, rfl⟩ := tabN_mem hr
      rw [lst_length]; omega
    · show sumLen (tabN _ _ _) ≤ _
      rw [sumLen_tabC]
      have := Nat.mul_le_mul h14 h14
      omega
  · simp [sumLen]
theorem rep_succN {α : Type} {n i : Nat} {z : α} (h : i < n) : List.replicate (n - i) z = z :: List.replicate (n - (i + 1)) z := by
  rw [show n - i = (n - (i + 1)) + 1 by omega, List.replicate_succ]

open Classical in
set_option maxHeartbeats 2000000 in
set_option maxRecDepth 100000 in
theorem c_impl_SquareOfList (v : Value) (l : List Int) (w : World) (hv : RdI w v l) (hl : l.length ≤ 1048576) :
    Calls Try.prog 43 [v].toArray w (Res w (PairLL 28 2 (sqLR l))) := by
  obtain ⟨a, cap, rfl⟩ := hv.len
  refine calls_of_vw Try.func43 rfl Try.ntmps43 (by simp) ?_
  repeat (first | refine vops_q tyOk rfl ?_ | refine vops_nil ?_ | refine vw_seq ?_ | refine vw_region (by kernel_rfl) ?_ | refine vw_cond rfl ?_ | (apply vops_callp ent115 rfl; (intro w' hg; exact c_isWholeList _ l w' (hv.same hg.fr) hl)))
  refine bs_ndec2 (fun h => ?_) (fun h => ?_)
  · repeat (first | refine vops_q tyOk rfl ?_ | refine vops_nil ?_ | refine vw_seq ?_ | refine vw_region (by kernel_rfl) ?_ | refine vw_ret ?_)
    exact pairLL_err rfl rfl rfl (by rw [sqLR, if_neg h])
  have h1 := h.1
  have h14 := h.2.1
  have hD := h.2.2.2.1
  obtain ⟨n, hn⟩ : ∃ n, n = l.length := ⟨_, rfl⟩
  have hR : sqLR l = (tabN n n (sqC l), 0) := by rw [sqLR, if_pos h, ← hn]
  rw [hR]
  repeat (first | refine vops_q tyOk rfl ?_ | refine vops_nil ?_ | refine vw_seq ?_ | refine vw_region (by kernel_rfl) ?_ | refine vw_skip ?_)
  refine vops_make (n := l.length) tyOk rfl rfl (List.cons_ne_nil _ _) rfl rfl (by show 24 * _ ≤ _; omega) (by omega) (fun bo hbo => ?_)
  have hmade : (madeCells ([Value.slice none 0 0] : List Value).toArray (l.length * 1)).toList = List.replicate l.length (Value.slice none 0 0) := by
    rw [Nat.mul_one]; exact made_same _ 1 _ (by omega)
  rw [← hn] at hmade ⊢
  repeat (first | refine vops_q tyOk rfl ?_ | refine vops_nil ?_ | refine vw_seq ?_ | refine vw_region (by kernel_rfl) ?_ | refine vw_block ?_)
  refine vw_loopW (fun y f own => ∃ (i : Nat) (vs : List Value) (ns : List Own), i ≤ n ∧ y = n - i ∧ f 17 = .int .i64 i ∧ f 16 = .int .i64 n ∧ f 4 = .int .i64 n ∧ f 0 = .slice a n cap ∧ f 5 = .slice (some ⟨bo, 0, none⟩) n n ∧ RowsAt 2 (tabN i n (sqC l)) vs ns ∧
      own = (bo, ⟨vs ++ List.replicate (n - i) (.slice none 0 0), 28, n * 1, none⟩) :: ns.flatten) n
    ⟨_, ole_refl, 0, [], [], by omega, by omega, rfl, rfl, rfl, rfl, rfl, trivial, by rw [List.nil_append, Nat.sub_zero, ← hmade]; rfl⟩ ?_
  rintro y f own ⟨i, vs, ns, hi, rfl, h17, h16, h4, h0, h5, hRw, rfl⟩
  rw [upd_of h17, upd_of h16, upd_of h4, upd_of h0, upd_of h5]
  have hvl : vs.length = i := by rw [hRw.len.1, tabN_length]
  repeat (first | refine vops_q tyOk rfl ?_ | refine vops_nil ?_ | refine vw_seq ?_ | refine vw_region (by kernel_rfl) ?_ | refine vw_cond rfl ?_)
  refine bs_dec (fun hlt => ?_) (fun hlt => ?_)
  · have hin : i < n := by omega
    repeat (first | refine vops_q tyOk rfl ?_ | refine vops_nil ?_ | refine vw_seq ?_ | refine vw_region (by kernel_rfl) ?_ | refine vw_skip ?_ | refine vw_block ?_)
    refine vw_loopW (fun y f own => ∃ (k : Nat) (p : Option Addr) (c : Nat) (X : Own), k ≤ n ∧ y = n - k ∧ f 22 = .int .i64 k ∧ f 21 = .int .i64 n ∧ f 20 = .slice a n cap ∧ f 6 = .int .i64 i ∧ f 17 = .int .i64 i ∧ f 16 = .int .i64 n ∧ f 4 = .int .i64 n ∧ f 0 = .slice a n cap ∧ f 5 = .slice (some ⟨bo, 0, none⟩) n n ∧ NewI 2 (lst k (sqC l i)) (.slice p k c) X ∧
        own = X ++ ((bo, ⟨vs ++ .slice p k c :: List.replicate (n - (i + 1)) (.slice none 0 0), 28, n * 1, none⟩) :: ns.flatten)) n
      ⟨_, ole_refl, 0, none, 0, [], by omega, by omega, rfl, rfl, rfl, rfl, rfl, rfl, rfl, rfl, rfl, NewI.nil, by rw [rep_succN hin]; rfl⟩ ?_
    rintro y f own ⟨k, p, c, X, hk, rfl, h22, h21, h20, h6, h17, h16, h4, h0, h5, hX, rfl⟩
    rw [upd_of h22, upd_of h21, upd_of h20, upd_of h6, upd_of h17, upd_of h16, upd_of h4, upd_of h0, upd_of h5]
    repeat (first | refine vops_q tyOk rfl ?_ | refine vops_nil ?_ | refine vw_seq ?_ | refine vw_region (by kernel_rfl) ?_ | refine vw_cond rfl ?_)
    refine bs_dec (fun hlt2 => ?_) (fun hlt2 => ?_)
    · have hkn : k < n := by omega
      obtain ⟨b', o, cap', he, hcell⟩ := hv.at (i := k) (by omega)
      rw [← hn] at he
      cases he
      have hc := hcell k (by omega)
      obtain ⟨hx0, hx1⟩ := hD _ (mem_getD (l := l) (i := k) (by omega))
      have hsq : ((i : Int) + l.getD k 0) % (n : Int) = sqC l i k := by rw [sqC, hn]
      have q0 : 0 ≤ ((i : Int) + l.getD k 0) % (n : Int) := Int.emod_nonneg _ (by omega)
      have q1 : ((i : Int) + l.getD k 0) % (n : Int) < n := Int.emod_lt_of_pos _ (by omega)
      have hva : (vs ++ .slice p k c :: List.replicate (n - (i + 1)) (Value.slice none 0 0))[0 + (i : Int).toNat]? = some (.slice p k c) := by
        rw [show 0 + (i : Int).toNat = i by omega, List.getElem?_append_right (by omega), hvl, Nat.sub_self]; rfl
      have hXf : NewF 2 1 k (lst k (sqC l i)) (.slice p k c) X := by
        have := NewI.f hX
        rwa [lst_length] at this
      repeat (first | refine vops_q tyOk rfl ?_ | refine vops_nil ?_ | refine vw_seq ?_ | refine vw_region (by kernel_rfl) ?_ | refine vops_p tyOk rfl (by (try simp only [inR]); omega) ?_ | refine vw_skip ?_ | refine vw_block ?_ | refine vops_load tyOk rfl rfl rfl (sees_old hc (by simp)) ?_)
      refine vw_drawB _ [0, 1, 2, 3, 4, 5, 6, 7, 8, 9, 10, 11, 12, 13, 14] (by kernel_rfl) (by kernel_rfl) (by kernel_rfl) rfl (by exact ole_sfx) ?_
      repeat' (first | refine vd_q tyOk rfl (by first | trivial | rfl) rfl (by kernel_rfl) (by kernel_rfl) ?_ | refine vd_p tyOk rfl (by first | trivial | rfl) rfl (by kernel_rfl) (by kernel_rfl) (by (try simp only [inR]); omega) ?_ | refine vops_nil ?_ | refine vd_nil (by kernel_rfl) ?_ | refine ⟨fun _ _ _ h => List.mem_cons_of_mem _ h, ?_⟩ | refine ⟨fun h => Bool.noConfusion (show false = true from h), ?_⟩ | refine ⟨fun _ p hp _ => (show Go.VL.Sub _ _ from (by repeat (first | exact sub_hereL | exact sub_refl | apply sub_cons | apply sub_app))) p hp, ?_⟩ | refine vd_load tyOk rfl (by first | trivial | rfl) rfl rfl rfl (by kernel_rfl) (by kernel_rfl) (by kernel_rfl) (sees_mem (by repeat (first | exact mem_here | apply mem_next | apply mem_past)) (by exact hva)) (by repeat (first | exact sub_hereL | exact sub_refl | apply sub_cons | apply sub_app)) ?_ | refine vops_litI [_] tyOk rfl rfl (List.cons_ne_nil _ _) (by rfl) rfl (by omega) (by omega) (fun be hbe => ?_) | refine vops_append1 (k := 1) tyOk rfl rfl (List.cons_ne_nil _ _) rfl rfl (by decide) rfl hXf (by repeat (first | exact pm_here | exact pm_last | apply pm_next | apply pm_past)) rfl (by repeat (first | exact mem_here | apply mem_next | apply mem_past)) rfl (by omega) (fun p' cap' new' hN' => ?_) | refine vops_storeM tyOk rfl rfl rfl rfl rfl (by repeat (first | exact upd_here | apply upd_next | apply upd_past)) (by rw [List.length_append, List.length_cons, List.length_replicate]; omega) ?_ | refine vd_one rfl (by kernel_rfl) (by kernel_rfl) rfl ?_)
      repeat (first | refine vops_q tyOk rfl ?_ | refine vops_nil ?_ | refine vw_region (by kernel_rfl) ?_ | refine vops_p tyOk rfl (by (try simp only [inR]); omega) ?_)
      have hset : (vs ++ .slice p k c :: List.replicate (n - (i + 1)) (Value.slice none 0 0)).set (0 + (i : Int).toNat) (.slice p' (k + 1) cap') = vs ++ .slice p' (k + 1) cap' :: List.replicate (n - (i + 1)) (Value.slice none 0 0) := by
        rw [show 0 + (i : Int).toNat = i by omega, set_next hvl, List.append_assoc]; rfl
      rw [hset]
      rw [hsq] at hN'
      refine ⟨n - (k + 1), by omega, new' ++ ((bo, ⟨vs ++ .slice p' (k + 1) cap' :: List.replicate (n - (i + 1)) (.slice none 0 0), 28, n * 1, none⟩) :: ns.flatten), (by repeat (first | exact ole_more | exact ole_more0 | exact ole_nil | exact ole_refl | (apply ole_cons; (repeat (first | exact pm1_here | apply pm1_next | apply pm1_past))) | (apply ole_app; (repeat (first | exact pm_here | exact pm_last | apply pm_next | apply pm_past))))), k + 1, p', cap', new', by omega, rfl, rfl, rfl, rfl, rfl, rfl, rfl, rfl, rfl, rfl, ?_, rfl⟩
      rw [lst_succ]
      exact NewI.snoc hN' (lst_length _ _).symm
    · obtain rfl : k = n := by omega
      repeat (first | refine vops_q tyOk rfl ?_ | refine vops_nil ?_ | refine vw_region (by kernel_rfl) ?_ | refine vops_p tyOk rfl (by (try simp only [inR]); omega) ?_ | refine vw_exit ?_)
      refine ⟨k - (i + 1), by omega, (bo, ⟨(vs ++ [.slice p k c]) ++ List.replicate (k - (i + 1)) (.slice none 0 0), 28, k * 1, none⟩) :: (ns ++ [X]).flatten, ?_, i + 1, vs ++ [.slice p k c], ns ++ [X], by omega, rfl, rfl, rfl, rfl, rfl, rfl, ?_, rfl⟩
      · rw [flat_snoc, List.append_assoc vs]
        show OLe ((bo, (⟨vs ++ .slice p k c :: List.replicate (k - (i + 1)) (.slice none 0 0), 28, k * 1, none⟩ : Blk)) :: (ns.flatten ++ X)) _
        exact ole_perm (List.perm_append_comm.trans (List.Perm.refl _))
      · rw [tabN_succ]; exact RowsAt.snoc hX hRw
  · obtain rfl : i = n := by omega
    rw [Nat.sub_self, List.replicate_zero, List.append_nil]
    refine vw_nodup (fun hnd => ?_)
    repeat (first | refine vops_q tyOk rfl ?_ | refine vops_nil ?_ | refine vw_seq ?_ | refine vw_region (by kernel_rfl) ?_ | refine vw_ret ?_ | refine vw_exit ?_)
    exact pairLL_ok (outer := [(bo, ⟨vs, 28, i * 1, none⟩)]) rfl rfl rfl hRw ⟨by rw [hvl, Nat.mul_one], .inr ⟨bo, i, rfl, by omega, by simp only [maxLen]; omega, rfl⟩⟩ (tabN_length _ _ _).symm hnd (fun _ h => h) rfl

open Classical in
set_option maxHeartbeats 2000000 in
set_option maxRecDepth 100000 in
theorem c_spec_SquareOfList (v : Value) (l : List Int) (w : World) (hv : RdI w v l) (hl : l.length ≤ 1048576) :
    Calls Try.prog 44 [v].toArray w (Res w (PairLL 28 2 (sqLR l))) := by
  obtain ⟨a, cap, rfl⟩ := hv.len
  refine calls_of_vw Try.func44 rfl Try.ntmps44 (by simp) ?_
  repeat (first | refine vops_q tyOk rfl ?_ | refine vops_nil ?_ | refine vw_seq ?_ | refine vw_region (by kernel_rfl) ?_ | refine vw_cond rfl ?_ | (apply vops_callp ent116 rfl; (intro w' hg; exact c_l09List _ l w' (hv.same hg.fr) hl)))
  refine bs_ndec2 (fun h => ?_) (fun h => ?_)
  · repeat (first | refine vops_q tyOk rfl ?_ | refine vops_nil ?_ | refine vw_seq ?_ | refine vw_region (by kernel_rfl) ?_ | refine vw_ret ?_)
    exact pairLL_err rfl rfl rfl (by rw [sqLR, if_neg h])
  have h1 := h.1
  have h14 := h.2.1
  have hD := h.2.2.2.1
  obtain ⟨n, hn⟩ : ∃ n, n = l.length := ⟨_, rfl⟩
  have hR : sqLR l = (tabN n n (sqC l), 0) := by rw [sqLR, if_pos h, ← hn]
  rw [hR]
  repeat (first | refine vops_q tyOk rfl ?_ | refine vw_seq ?_ | refine vw_region (by kernel_rfl) ?_ | refine vw_skip ?_)
  refine vops_build0 tyOk rfl rfl (fun be hbe => ?_)
  repeat (first | refine vops_q tyOk rfl ?_ | refine vops_nil ?_ | refine vw_seq ?_ | refine vw_region (by kernel_rfl) ?_ | refine vw_block ?_)
  rw [← hn]
  refine vw_loopW (fun y f own => ∃ (i : Nat) (p : Option Addr) (c : Nat) (vs : List Value) (ns : List Own) (outer : Own), i ≤ n ∧ y = n - i ∧ f 6 = .int .i64 i ∧ f 4 = .int .i64 n ∧ f 0 = .slice a n cap ∧ f 5 = .slice p i c ∧ RowsAt 2 (tabN i n (sqC l)) vs ns ∧ SlAt 28 1 (.slice p i c) i vs outer [] ∧
      own = outer ++ ns.flatten) n
    ⟨_, ole_refl, 0, some ⟨be, 0, none⟩, 0, [], [], _, by omega, by omega, rfl, rfl, rfl, rfl, trivial, SlAt.empty, by rw [List.flatten_nil, List.append_nil]⟩ ?_
  rintro y f own ⟨i, p, c, vs, ns, outer, hi, rfl, h6, h4, h0, h5, hRw, hO, rfl⟩
  rw [upd_of h6, upd_of h4, upd_of h0, upd_of h5]
  have hvl : vs.length = i := by rw [hRw.len.1, tabN_length]
  repeat (first | refine vops_q tyOk rfl ?_ | refine vops_nil ?_ | refine vw_seq ?_ | refine vw_region (by kernel_rfl) ?_ | refine vw_cond rfl ?_)
  refine bs_dec (fun hlt => ?_) (fun hlt => ?_)
  · have hin : i < n := by omega
    repeat (first | refine vw_seq ?_ | refine vw_region (by kernel_rfl) ?_ | refine vw_skip ?_ | refine vw_block ?_)
    refine vops_build0 tyOk rfl rfl (fun b7 hb7 => ?_)
    repeat (first | refine vops_q tyOk rfl ?_ | refine vops_nil ?_ | refine vw_seq ?_ | refine vw_region (by kernel_rfl) ?_ | refine vw_block ?_)
    refine vw_loopW (fun y f own => ∃ (k : Nat) (p2 : Option Addr) (c2 : Nat) (X : Own), k ≤ n ∧ y = n - k ∧ f 8 = .int .i64 k ∧ f 7 = .slice p2 k c2 ∧ f 6 = .int .i64 i ∧ f 4 = .int .i64 n ∧ f 0 = .slice a n cap ∧ f 5 = .slice p i c ∧ NewI 2 (lst k (sqC l i)) (.slice p2 k c2) X ∧
        own = X ++ (outer ++ ns.flatten)) n
      ⟨_, ole_refl, 0, some ⟨b7, 0, none⟩, 0, [(b7, _)], by omega, by omega, rfl, rfl, rfl, rfl, rfl, rfl, NewI.empty, rfl⟩ ?_
    rintro y f own ⟨k, p2, c2, X, hk, rfl, h8, h7, h6, h4, h0, h5, hX, rfl⟩
    rw [upd_of h8, upd_of h7, upd_of h6, upd_of h4, upd_of h0, upd_of h5]
    repeat (first | refine vops_q tyOk rfl ?_ | refine vops_nil ?_ | refine vw_seq ?_ | refine vw_region (by kernel_rfl) ?_ | refine vw_cond rfl ?_)
    refine bs_dec (fun hlt2 => ?_) (fun hlt2 => ?_)
    · have hkn : k < n := by omega
      obtain ⟨b', o, cap', he, hcell⟩ := hv.at (i := k) (by omega)
      rw [← hn] at he
      cases he
      have hc := hcell k (by omega)
      obtain ⟨hx0, hx1⟩ := hD _ (mem_getD (l := l) (i := k) (by omega))
      have hsq : ((i : Int) + l.getD k 0) % (n : Int) = sqC l i k := by rw [sqC, hn]
      have q0 : 0 ≤ ((i : Int) + l.getD k 0) % (n : Int) := Int.emod_nonneg _ (by omega)
      have q1 : ((i : Int) + l.getD k 0) % (n : Int) < n := Int.emod_lt_of_pos _ (by omega)
      have hXf : NewF 2 1 k (lst k (sqC l i)) (.slice p2 k c2) X := by
        have := NewI.f hX
        rwa [lst_length] at this
      repeat (first | refine vops_q tyOk rfl ?_ | refine vops_nil ?_ | refine vw_seq ?_ | refine vw_region (by kernel_rfl) ?_ | refine vops_p tyOk rfl (by (try simp only [inR]); omega) ?_ | refine vw_skip ?_ | refine vw_block ?_ | refine vops_load tyOk rfl rfl rfl (sees_old hc (by simp)) ?_ | refine vops_litI [_] tyOk rfl rfl (List.cons_ne_nil _ _) (by rfl) rfl (by omega) (by omega) (fun bt hbt => ?_) | refine vops_append1 (k := 1) tyOk rfl rfl (List.cons_ne_nil _ _) rfl rfl (by decide) rfl hXf (by repeat (first | exact pm_here | exact pm_last | apply pm_next | apply pm_past)) rfl (by repeat (first | exact mem_here | apply mem_next | apply mem_past)) rfl (by omega) (fun p' cap' new' hN' => ?_))
      rw [hsq] at hN'
      refine ⟨n - (k + 1), by omega, new' ++ (outer ++ ns.flatten), (by repeat (first | exact ole_more | exact ole_more0 | exact ole_nil | exact ole_refl | (apply ole_cons; (repeat (first | exact pm1_here | apply pm1_next | apply pm1_past))) | (apply ole_app; (repeat (first | exact pm_here | exact pm_last | apply pm_next | apply pm_past))))), k + 1, p', cap', new', by omega, rfl, rfl, rfl, rfl, rfl, rfl, rfl, ?_, rfl⟩
      rw [lst_succ]
      exact NewI.snoc hN' (lst_length _ _).symm
    · obtain rfl : k = n := by omega
      repeat (first | refine vops_q tyOk rfl ?_ | refine vops_nil ?_ | refine vw_region (by kernel_rfl) ?_ | refine vops_p tyOk rfl (by (try simp only [inR]); omega) ?_ | refine vw_exit ?_ | refine vops_litV tyOk rfl rfl (List.cons_ne_nil _ _) rfl rfl rfl (fun bl hbl => ?_) | refine vops_appendV tyOk rfl rfl (List.cons_ne_nil _ _) rfl rfl (by decide) rfl hO (by repeat (first | exact pm_here | exact pm_last | apply pm_next | apply pm_past)) rfl (by repeat (first | exact mem_here | apply mem_next | apply mem_past)) rfl (by omega) (fun p' c' O' hO' => ?_))
      refine ⟨k - (i + 1), by omega, O' ++ (ns ++ [X]).flatten, ?_, i + 1, p', c', vs ++ [.slice p2 k c2], ns ++ [X], O', by omega, rfl, rfl, rfl, rfl, rfl, ?_, hO', rfl⟩
      · rw [flat_snoc]
        exact (by repeat (first | exact ole_more | exact ole_more0 | exact ole_nil | exact ole_refl | (apply ole_cons; (repeat (first | exact pm1_here | apply pm1_next | apply pm1_past))) | (apply ole_app; (repeat (first | exact pm_here | exact pm_last | apply pm_next | apply pm_past)))))
      · rw [tabN_succ]; exact RowsAt.snoc hX hRw
  · obtain rfl : i = n := by omega
    refine vw_nodup (fun hnd => ?_)
    repeat (first | refine vops_q tyOk rfl ?_ | refine vops_nil ?_ | refine vw_seq ?_ | refine vw_region (by kernel_rfl) ?_ | refine vw_ret ?_ | refine vw_exit ?_)
    exact pairLL_ok rfl rfl rfl hRw hO (tabN_length _ _ _).symm hnd (fun _ h => h) rfl
end Go.Proofs.Ytlnohlomanapeaa
