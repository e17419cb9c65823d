import Derived.Test.YtdgaabkgfbihpaaDoorSA
import Derived.Test.YtdgaabkgfbihpaaDoorVLLol
import Derived.Test.YtdgaabkgfbihpaaDoorVLArr
/- Parts of the proof, one after another. No conditions of their own. -/
/- A part of the proof: P21. No conditions of its own. -/
namespace Go.Proofs.YtdgaabkgfbihpaaDoor
open Go.VL
attribute [local irreducible] VWr VOps VD Calls

/-- How many numbers. -/
def sumLen : List (List Int) → Nat
  | [] => 0
  | l :: ls => l.length + sumLen ls
theorem sumLen_snoc : ∀ (ls : List (List Int)) (l : List Int), sumLen (ls ++ [l]) = sumLen ls + l.length
  | [], l => by simp [sumLen]
  | q :: ls, l => by simp only [List.cons_append, sumLen, sumLen_snoc ls l]; omega
/-- All numbered from k on. -/
def markLL (k : Int) : List (List Int) → List (List Int)
  | [] => []
  | l :: ls => iota k l.length :: markLL (k + l.length) ls
theorem markLL_length : ∀ (k : Int) (ls : List (List Int)), (markLL k ls).length = ls.length
  | _, [] => rfl
  | k, l :: ls => by simp only [markLL, List.length_cons, markLL_length _ ls]
theorem markLL_snoc : ∀ (k : Int) (ls : List (List Int)) (l : List Int), markLL k (ls ++ [l]) = markLL k ls ++ [iota (k + sumLen ls) l.length]
  | k, [], l => by simp [markLL, sumLen]
  | k, q :: ls, l => by
    simp only [List.cons_append, markLL, sumLen, markLL_snoc _ ls l]
    rw [show k + (q.length : Int) + (sumLen ls : Int) = k + ((q.length + sumLen ls : Nat) : Int) by omega]
theorem sumLen_take_le : ∀ (ls : List (List Int)) (i : Nat), sumLen (ls.take i) ≤ sumLen ls
  | [], i => by simp [sumLen]
  | l :: ls, 0 => by simp [sumLen]
  | l :: ls, i + 1 => by simp only [List.take_succ_cons, sumLen]; have := sumLen_take_le ls i; omega
theorem sumLen_mem : ∀ {ls : List (List Int)} {l : List Int}, l ∈ ls → l.length ≤ sumLen ls
  | q :: ls, l, h => by
    rcases List.mem_cons.1 h with rfl | h
    · simp only [sumLen]; omega
    · have := sumLen_mem h; simp only [sumLen]; omega
/-- i rows numbered, the others as they were. -/
def mkTo (k : Int) (ls : List (List Int)) (i : Nat) : List (List Int) := markLL k (ls.take i) ++ ls.drop i
theorem mkTo_get {k : Int} {ls : List (List Int)} {i : Nat} {l : List Int} (h : ls[i]? = some l) : (mkTo k ls i)[i]? = some l := by
  have hlt := (List.getElem?_eq_some_iff.1 h).1
  unfold mkTo
  rw [List.getElem?_append_right (by rw [markLL_length, List.length_take]; omega), markLL_length, List.length_take, Nat.min_eq_left (by omega), Nat.sub_self, List.getElem?_drop]
  simpa using h
theorem mkTo_set {k : Int} {ls : List (List Int)} {i : Nat} {l : List Int} (h : ls[i]? = some l) : (mkTo k ls i).set i (iota (k + sumLen (ls.take i)) l.length) = mkTo k ls (i + 1) := by
  have hlt := (List.getElem?_eq_some_iff.1 h).1
  have hl : (markLL k (ls.take i)).length = i := by rw [markLL_length, List.length_take]; omega
  have ht : ls.take (i + 1) = ls.take i ++ [l] := by rw [List.take_add_one, h]; rfl
  unfold mkTo
  rw [List.set_append_right _ _ (by omega), hl, Nat.sub_self, ht, markLL_snoc, List.append_assoc]
  congr 1
  have : ls.drop i = l :: ls.drop (i + 1) := by
    rw [List.drop_eq_getElem_cons hlt]
    have := List.getElem?_eq_getElem hlt
    rw [h] at this
    rw [Option.some.inj this]
  rw [this]; rfl
theorem mkTo_zero (k : Int) (ls : List (List Int)) : mkTo k ls 0 = ls := by simp [mkTo, markLL]
theorem mkTo_all (k : Int) (ls : List (List Int)) : mkTo k ls ls.length = markLL k ls := by simp [mkTo]
theorem sum_step {ls : List (List Int)} {i : Nat} {l : List Int} (h : ls[i]? = some l) : sumLen (ls.take (i + 1)) = sumLen (ls.take i) + l.length := by
  rw [List.take_add_one, h]; exact sumLen_snoc _ _
/-- One of the rows, and the others. -/
theorem RowsAt.split {ei : Nat} : ∀ {ls : List (List Int)} {vs : List Value} {ns : List Own}, Go.VL.RowsAt ei ls vs ns → ∀ {i : Nat} {l : List Int}, ls[i]? = some l →
    ∃ u n ns1 ns2, vs[i]? = some u ∧ ns = ns1 ++ n :: ns2 ∧ NewI ei l u n ∧ ∀ l' n', NewI ei l' u n' → Go.VL.RowsAt ei (ls.set i l') vs (ns1 ++ n' :: ns2)
  | [], [], [], _, i, l, hl => by simp at hl
  | l0 :: ls, u0 :: vs, n0 :: ns, h, 0, l, hl => by
    have e : l0 = l := by simpa using hl
    subst e
    exact ⟨u0, n0, [], ns, rfl, rfl, h.1, fun l' n' hn => ⟨hn, h.2⟩⟩
  | l0 :: ls, u0 :: vs, n0 :: ns, h, i + 1, l, hl => by
    obtain ⟨u, n, ns1, ns2, h1, h2, h3, h4⟩ := RowsAt.split h.2 (i := i) (l := l) (by simpa using hl)
    exact ⟨u, n, n0 :: ns1, ns2, by simpa using h1, by rw [h2]; rfl, h3, fun l' n' hn => ⟨h.1, h4 l' n' hn⟩⟩
  | [], _ :: _, _, h, _, _, _ => h.elim
  | [], [], _ :: _, h, _, _, _ => h.elim
  | _ :: _, [], _, h, _, _, _ => h.elim
  | _ :: _, _ :: _, [], h, _, _, _ => h.elim
def MarkedLL (eo ei : Nat) (ls : List (List Int)) (k0 : Int) (v : Value) (u : Value) (new : Own) : Prop := u = .int .i64 (k0 + sumLen ls) ∧ NewLL eo ei (markLL k0 ls) v new
theorem rdI_F {w : World} {v : Value} {l : List Int} (h : RdI w v l) : RdF w 1 l.length v l := by
  rcases h with ⟨a, cap, h1, rfl⟩ | ⟨b, o, cap, h1, h2⟩
  · exact .inl ⟨a, cap, h1, rfl, rfl⟩
  · exact .inr ⟨b, o, cap, h1, by simp, h2⟩

set_option maxRecDepth 100000 in
theorem c_markInt64SS (v : Value) (ls : List (List Int)) (k0 : Int) (new : Own) (w : World) (hN : NewLL 23 2 ls v new) (ho : OwnOk new w) (hl : ls.length ≤ 1048576) (hs : sumLen ls ≤ 1048576) (h0 : 0 ≤ k0) (h1 : k0 ≤ 1073741824) :
    Calls Tryd.prog 12 [v, .int .i64 k0].toArray w (ResM w new (MarkedLL 23 2 ls k0 v)) := by
  obtain ⟨vs, ns, outer, hR, hO, rfl⟩ := hN
  obtain ⟨p, cap, rfl⟩ := hO.form
  have hvl := hR.len.1
  refine calls_of_vwM Tryd.func12 rfl Tryd.ntmps12 (by simp) ho ?_
  repeat (first | refine vops_q tyOk rfl ?_ | refine vops_nil ?_ | refine vw_seq ?_ | refine vw_region (by kernel_rfl) ?_ | refine vw_block ?_)
  refine vw_loopW (fun m f own => ∃ (i : Nat) (c : Int) (ns : List Own), i ≤ ls.length ∧ m = ls.length - i ∧ c = k0 + sumLen (ls.take i) ∧ f 5 = .int .i64 i ∧ f 1 = .int .i64 c ∧ f 0 = .slice p ls.length cap ∧ Go.VL.RowsAt 2 (mkTo k0 ls i) vs ns ∧ own = outer ++ ns.flatten) ls.length
    ⟨_, ole_refl, 0, k0, ns, by omega, by omega, by simp [sumLen], rfl, rfl, rfl, by rw [mkTo_zero]; exact hR, rfl⟩ ?_
  rintro m f own ⟨i, c, ns, hi, rfl, hcc, h5, h1', h0', hR, rfl⟩
  rw [upd_of h0', upd_of h1', upd_of h5]
  repeat (first | refine vops_q tyOk rfl ?_ | refine vops_nil ?_ | refine vw_seq ?_ | refine vw_region (by kernel_rfl) ?_ | refine vw_cond rfl ?_)
  refine bs_dec (fun h4 => ?_) (fun h4 => ?_)
  · obtain ⟨l, hli⟩ : ∃ l, ls[i]? = some l := ⟨_, List.getElem?_eq_getElem (by omega)⟩
    have hlm := sumLen_mem (List.mem_of_getElem? hli)
    have hst := sum_step hli
    have hle := sumLen_take_le ls i
    obtain ⟨u, n, ns1, ns2, hu, rfl, hn, hnext⟩ := RowsAt.split hR (mkTo_get hli)
    obtain ⟨bo, e1, e2, hc1, hc2⟩ : ∃ bo, p = some ⟨bo, 0, none⟩ ∧ outer = [(bo, ⟨vs, 23, cap * 1, none⟩)] ∧ ls.length ≤ cap ∧ cap ≤ maxLen := by
      rcases hO.2 with ⟨_, h, _⟩ | ⟨bo, cap', h, h2, h3, h4⟩
      · omega
      · cases h; exact ⟨bo, rfl, h4, h2, h3⟩
    subst e1; subst e2
    obtain ⟨pu, cu, rfl⟩ := SlAt.form hn
    have hpm : ([(bo, (⟨vs, 23, cap * 1, none⟩ : Blk))] ++ (ns1 ++ n :: ns2).flatten).Perm (n ++ ((bo, ⟨vs, 23, cap * 1, none⟩) :: (ns1.flatten ++ ns2.flatten))) := by
      rw [List.flatten_append, List.flatten_cons]
      show ((bo, _) :: (ns1.flatten ++ (n ++ ns2.flatten))).Perm _
      refine (List.Perm.cons _ ?_).trans List.perm_middle.symm
      rw [← List.append_assoc, ← List.append_assoc]
      exact List.perm_append_comm.append_right _
    have hcell : vs[0 + (i : Int).toNat]? = some (.slice pu l.length cu) := by rw [show 0 + (i : Int).toNat = i by omega]; exact hu
    repeat (first | refine vops_q tyOk rfl ?_ | refine vops_nil ?_ | refine vw_seq ?_ | refine vw_region (by kernel_rfl) ?_ | refine vops_p tyOk rfl (by (try simp only [inR]); omega) ?_ | refine vw_skip ?_ | refine vw_block ?_ | refine vops_loadM tyOk rfl rfl rfl (List.mem_cons_self) (by exact hcell) ?_ | (refine vops_callM ent13 rfl hpm (fun w' hg => c_markInt64S _ l.length l c n w' (NewI.f hn) (okS hg) (by omega) (by omega) (by omega)) ?_; rintro _ newM ⟨rfl, hF⟩))
    refine ⟨ls.length - (i + 1), by omega, [(bo, ⟨vs, 23, cap * 1, none⟩)] ++ (ns1 ++ newM :: ns2).flatten, ?_, i + 1, c + (l.length * 1 : Nat), ns1 ++ newM :: ns2, by omega, rfl, by omega, rfl, rfl, rfl, ?_, rfl⟩
    · rw [List.flatten_append, List.flatten_cons]
      refine ole_perm (List.Perm.symm ?_)
      show ((bo, _) :: (ns1.flatten ++ (newM ++ ns2.flatten))).Perm (newM ++ ((bo, _) :: (ns1.flatten ++ ns2.flatten)))
      refine (List.Perm.cons _ ?_).trans List.perm_middle.symm
      rw [← List.append_assoc, ← List.append_assoc]
      exact List.perm_append_comm.append_right _
    · rw [← mkTo_set hli, ← hcc]
      refine hnext _ _ ?_
      rw [Nat.mul_one] at hF
      unfold NewI; rw [iota_length]; exact hF
  · obtain rfl : i = ls.length := by omega
    refine vw_nodup (fun hnd => ?_)
    repeat (first | refine vops_q tyOk rfl ?_ | refine vops_nil ?_ | refine vw_seq ?_ | refine vw_region (by kernel_rfl) ?_ | refine vw_ret ?_ | refine vw_exit ?_)
    rw [mkTo_all] at hR
    refine out1 rfl rfl (new := outer ++ ns.flatten) hnd (fun _ h => h) ⟨by show Value.int .i64 c = _; rw [hcc, List.take_length], vs, ns, outer, hR, by rw [markLL_length]; exact hO, rfl⟩
end Go.Proofs.YtdgaabkgfbihpaaDoor

/- A part of the proof: P41. No conditions of its own. -/
namespace Go.Proofs.YtdgaabkgfbihpaaDoor
open Go.VL
attribute [local irreducible] VWr VOps VD Calls

theorem sumLen_take {ls : List (List Int)} {i : Nat} {l : List Int} (h : ls[i]? = some l) : sumLen (ls.take (i + 1)) = sumLen (ls.take i) + l.length := by
  induction ls generalizing i with
  | nil => simp at h
  | cons a r ih =>
    cases i with
    | zero => simp at h; subst h; simp [sumLen]
    | succ i =>
      have := ih (i := i) (by simpa using h)
      simp only [List.take_succ_cons, sumLen, this]; omega
/-- What is left of a bound when the sizes have been taken off it. -/
def LeftT (ls : List (List Int)) (left : Int) (v : Value) (new : Own) : Prop := new = [] ∧ ∃ r : Int, v = .int .i64 r ∧ (r = -1 ∨ (0 ≤ r ∧ r ≤ left ∧ (ls.length : Int) ≤ left ∧ (sumLen ls : Int) ≤ left ∧ ∀ l ∈ ls, (l.length : Int) ≤ left))
set_option maxRecDepth 100000 in
theorem c_szII (v : Value) (ls : List (List Int)) (left : Int) (w : World) (hv : RdII w v ls) (hl : ls.length ≤ maxLen) (hll : ∀ l ∈ ls, l.length ≤ maxLen) (h0 : 0 ≤ left) (h1 : left ≤ 1048576) :
    Calls Tryd.prog 4 [v, .int .i64 left].toArray w (Res w (LeftT ls left)) := by
  obtain ⟨a, cap, rfl⟩ := hv.len
  have hl' : (ls.length : Int) ≤ 9223372036854775807 := by simp only [maxLen] at hl; omega
  refine calls_of_vw Tryd.func4 rfl Tryd.ntmps4 (by simp) ?_
  repeat (first | refine vops_q tyOk rfl ?_ | refine vops_nil ?_ | refine vw_seq ?_ | refine vw_region (by kernel_rfl) ?_ | refine vops_p tyOk rfl (by (try simp only [inR]); omega) ?_ | refine vw_cond rfl ?_)
  refine bs_dec (fun h => ?_) (fun h => ?_)
  · repeat (first | refine vops_q tyOk rfl ?_ | refine vops_nil ?_ | refine vw_seq ?_ | refine vw_region (by kernel_rfl) ?_ | refine vw_ret ?_)
    exact out1 rfl rfl (new := []) List.nodup_nil sub_nil ⟨rfl, -1, rfl, .inl rfl⟩
  repeat (first | refine vops_q tyOk rfl ?_ | refine vops_nil ?_ | refine vw_seq ?_ | refine vw_region (by kernel_rfl) ?_ | refine vw_skip ?_ | refine vw_block ?_)
  refine vw_loop (fun m f own => ∃ (i : Nat) (r : Int), i ≤ ls.length ∧ m = ls.length - i ∧ f 5 = .int .i64 i ∧ f 1 = .int .i64 r ∧ f 0 = .slice a ls.length cap ∧ own = [] ∧ 0 ≤ r ∧ r + sumLen (ls.take i) ≤ left ∧ ∀ (j : Nat) (l : List Int), j < i → ls[j]? = some l → (l.length : Int) ≤ left) ls.length
    ⟨0, _, by omega, by omega, rfl, rfl, rfl, rfl, by omega, by rw [List.take_zero]; simp only [sumLen]; omega, fun j l hj => by omega⟩ ?_
  rintro m f own ⟨i, r, hi, rfl, h5, h1', h0', rfl, hr0, hr1, hall⟩
  rw [upd_of h5, upd_of h1', upd_of h0']
  repeat (first | refine vops_q tyOk rfl ?_ | refine vops_nil ?_ | refine vw_seq ?_ | refine vw_region (by kernel_rfl) ?_ | refine vw_cond rfl ?_)
  refine bs_dec (fun h4 => ?_) (fun h4 => ?_)
  · obtain ⟨l, hli⟩ : ∃ l, ls[i]? = some l := ⟨_, List.getElem?_eq_getElem (by omega)⟩
    have hl2 := hll l (List.mem_of_getElem? hli)
    obtain ⟨b', o, cap', u, he, hcu, hu⟩ := hv.at hli
    cases he
    obtain ⟨a2, cap2, rfl⟩ := hu.len
    have hst := sumLen_take hli
    obtain ⟨q, hq⟩ : ∃ q : Int, q = (if r - (l.length : Int) < 0 then -1 else r - l.length) := ⟨_, rfl⟩
    have hq2 : q = -1 ∧ r - (l.length : Int) < 0 ∨ 0 ≤ q ∧ q = r - l.length := by
      by_cases hc : r - (l.length : Int) < 0
      · rw [if_pos hc] at hq; exact .inl ⟨hq, hc⟩
      · rw [if_neg hc] at hq; exact .inr ⟨by omega, hq⟩
    have hcs : ∀ w', Calls Tryd.prog 16 [.slice a2 l.length cap2, .int .i64 r].toArray w' (Res w' (Is (.int .i64 q))) := fun w' => by
      have := c_szInt64S a2 l.length cap2 r hl2 hr0 (by omega) w'
      rw [← hq] at this; exact this
    repeat (first | refine vops_q tyOk rfl ?_ | refine vops_nil ?_ | refine vw_seq ?_ | refine vw_region (by kernel_rfl) ?_ | refine vops_p tyOk rfl (by (try simp only [inR]); omega) ?_ | refine vw_cond rfl ?_ | refine vw_skip ?_ | refine vw_block ?_ | refine vops_load tyOk rfl rfl rfl (sees_old hcu (by simp)) ?_ | (apply vops_callp ent16 rfl; (intro w' hg; exact hcs w')))
    refine bs_dec (fun h6 => ?_) (fun h6 => ?_)
    · repeat (first | refine vops_q tyOk rfl ?_ | refine vops_nil ?_ | refine vw_seq ?_ | refine vw_region (by kernel_rfl) ?_ | refine vw_ret ?_)
      exact out1 rfl rfl (new := []) List.nodup_nil sub_nil ⟨rfl, -1, rfl, .inl rfl⟩
    repeat (first | refine vops_q tyOk rfl ?_ | refine vops_nil ?_ | refine vw_region (by kernel_rfl) ?_ | refine vops_p tyOk rfl (by (try simp only [inR]); omega) ?_ | refine vw_skip ?_)
    refine ⟨ls.length - (i + 1), by omega, i + 1, q, by omega, rfl, rfl, rfl, rfl, rfl, by omega, by rw [sumLen_take hli]; omega, fun j l' hj hj2 => ?_⟩
    by_cases hji : j = i
    · subst hji
      have : l = l' := Option.some.inj (hli.symm.trans hj2)
      subst this; omega
    · exact hall j l' (by omega) hj2
  · repeat (first | refine vops_q tyOk rfl ?_ | refine vops_nil ?_ | refine vw_seq ?_ | refine vw_region (by kernel_rfl) ?_ | refine vw_ret ?_ | refine vw_exit ?_)
    refine out1 rfl rfl (new := []) List.nodup_nil sub_nil ⟨rfl, r, rfl, .inr ⟨hr0, by omega, by omega, by rw [List.take_of_length_le (by omega)] at hr1; omega, fun l hl => ?_⟩⟩
    obtain ⟨j, hj⟩ := List.mem_iff_getElem?.1 hl
    exact hall j l (by have := (List.getElem?_eq_some_iff.1 hj).1; omega) hj

end Go.Proofs.YtdgaabkgfbihpaaDoor

