import Derived.Test.YtnammdmiljjhjaaSA
import Derived.Test.YtnammdmiljjhjaaVLLol
import Derived.Test.YtnammdmiljjhjaaVLArr
import Derived.Test.YtnammdmiljjhjaaVLTable
import Derived.Test.YtnammdmiljjhjaaVLRanF
import Derived.Test.YtnammdmiljjhjaaVLAlloc
/- Parts of the proof, one after another. No conditions of their own. -/
/- A part of the proof: P21. No conditions of its own. -/
namespace Go.Proofs.Ytnammdmiljjhjaa
open Go.VL
attribute [local irreducible] VWr VOps VD Calls

/-- How many numbers. -/
def sumLen : List (List Int) → Nat
  | [] => 0
  | l :: ls => l.length + sumLen ls
theorem sumLen_snoc : ∀ (ls : List (List Int)) (l : List Int), sumLen (ls ++ [l]) = sumLen ls + l.length
  | [], l => by simp [sumLen]
  | q :: ls, l => by simp only [List.cons_append, sumLen, sumLen_snoc ls l]; omega
/-- All numbered from k on. -/
def markLL (k : Int) : List (List Int) → List (List Int)
  | [] => []
  | l :: ls => iota k l.length :: markLL (k + l.length) ls
theorem markLL_length : ∀ (k : Int) (ls : List (List Int)), (markLL k ls).length = ls.length
  | _, [] => rfl
  | k, l :: ls => by simp only [markLL, List.length_cons, markLL_length _ ls]
theorem markLL_snoc : ∀ (k : Int) (ls : List (List Int)) (l : List Int), markLL k (ls ++ [l]) = markLL k ls ++ [iota (k + sumLen ls) l.length]
  | k, [], l => by simp [markLL, sumLen]
  | k, q :: ls, l => by
    simp only [List.cons_append, markLL, sumLen, markLL_snoc _ ls l]
    rw [show k + (q.length : Int) + (sumLen ls : Int) = k + ((q.length + sumLen ls : Nat) : Int) by omega]
theorem markLL_get : ∀ (k : Int) (ls : List (List Int)) (i : Nat) (l : List Int), ls[i]? = some l → (markLL k ls)[i]? = some (iota (k + sumLen (ls.take i)) l.length)
  | k, [], i, l, h => by simp at h
  | k, q :: ls, 0, l, h => by
    have : q = l := by simpa using h
    subst this; simp [markLL, sumLen]
  | k, q :: ls, i + 1, l, h => by
    have := markLL_get (k + q.length) ls i l (by simpa using h)
    simp only [markLL, List.getElem?_cons_succ, List.take_succ_cons, sumLen, this]
    congr 2; omega
theorem sumLen_take_le : ∀ (ls : List (List Int)) (i : Nat), sumLen (ls.take i) ≤ sumLen ls
  | [], i => by simp [sumLen]
  | l :: ls, 0 => by simp [sumLen]
  | l :: ls, i + 1 => by simp only [List.take_succ_cons, sumLen]; have := sumLen_take_le ls i; omega
theorem sumLen_mem : ∀ {ls : List (List Int)} {l : List Int}, l ∈ ls → l.length ≤ sumLen ls
  | q :: ls, l, h => by
    rcases List.mem_cons.1 h with rfl | h
    · simp only [sumLen]; omega
    · have := sumLen_mem h; simp only [sumLen]; omega
/-- i rows numbered, the others as they were. -/
def mkTo (k : Int) (ls : List (List Int)) (i : Nat) : List (List Int) := markLL k (ls.take i) ++ ls.drop i
theorem mkTo_get {k : Int} {ls : List (List Int)} {i : Nat} {l : List Int} (h : ls[i]? = some l) : (mkTo k ls i)[i]? = some l := by
  have hlt := (List.getElem?_eq_some_iff.1 h).1
  unfold mkTo
  rw [List.getElem?_append_right (by rw [markLL_length, List.length_take]; omega), markLL_length, List.length_take, Nat.min_eq_left (by omega), Nat.sub_self, List.getElem?_drop]
  simpa using h
theorem mkTo_set {k : Int} {ls : List (List Int)} {i : Nat} {l : List Int} (h : ls[i]? = some l) : (mkTo k ls i).set i (iota (k + sumLen (ls.take i)) l.length) = mkTo k ls (i + 1) := by
  have hlt := (List.getElem?_eq_some_iff.1 h).1
  have hl : (markLL k (ls.take i)).length = i := by rw [markLL_length, List.length_take]; omega
  have ht : ls.take (i + 1) = ls.take i ++ [l] := by rw [List.take_add_one, h]; rfl
  unfold mkTo
  rw [List.set_append_right _ _ (by omega), hl, Nat.sub_self, ht, markLL_snoc, List.append_assoc]
  congr 1
  have : ls.drop i = l :: ls.drop (i + 1) := by
    rw [List.drop_eq_getElem_cons hlt]
    have := List.getElem?_eq_getElem hlt
    rw [h] at this
    rw [Option.some.inj this]
  rw [this]; rfl
theorem mkTo_zero (k : Int) (ls : List (List Int)) : mkTo k ls 0 = ls := by simp [mkTo, markLL]
theorem mkTo_all (k : Int) (ls : List (List Int)) : mkTo k ls ls.length = markLL k ls := by simp [mkTo]
theorem sum_step {ls : List (List Int)} {i : Nat} {l : List Int} (h : ls[i]? = some l) : sumLen (ls.take (i + 1)) = sumLen (ls.take i) + l.length := by
  rw [List.take_add_one, h]; exact sumLen_snoc _ _
/-- One of the rows, and the others. -/
theorem RowsAt.split {ei : Nat} : ∀ {ls : List (List Int)} {vs : List Value} {ns : List Own}, Go.VL.RowsAt ei ls vs ns → ∀ {i : Nat} {l : List Int}, ls[i]? = some l →
    ∃ u n ns1 ns2, vs[i]? = some u ∧ ns = ns1 ++ n :: ns2 ∧ NewI ei l u n ∧ ∀ l' n', NewI ei l' u n' → Go.VL.RowsAt ei (ls.set i l') vs (ns1 ++ n' :: ns2)
  | [], [], [], _, i, l, hl => by simp at hl
  | l0 :: ls, u0 :: vs, n0 :: ns, h, 0, l, hl => by
    have e : l0 = l := by simpa using hl
    subst e
    exact ⟨u0, n0, [], ns, rfl, rfl, h.1, fun l' n' hn => ⟨hn, h.2⟩⟩
  | l0 :: ls, u0 :: vs, n0 :: ns, h, i + 1, l, hl => by
    obtain ⟨u, n, ns1, ns2, h1, h2, h3, h4⟩ := RowsAt.split h.2 (i := i) (l := l) (by simpa using hl)
    exact ⟨u, n, n0 :: ns1, ns2, by simpa using h1, by rw [h2]; rfl, h3, fun l' n' hn => ⟨h.1, h4 l' n' hn⟩⟩
  | [], _ :: _, _, h, _, _, _ => h.elim
  | [], [], _ :: _, h, _, _, _ => h.elim
  | _ :: _, [], _, h, _, _, _ => h.elim
  | _ :: _, _ :: _, [], h, _, _, _ => h.elim
def MarkedLL (eo ei : Nat) (ls : List (List Int)) (k0 : Int) (v : Value) (u : Value) (new : Own) : Prop := u = .int .i64 (k0 + sumLen ls) ∧ NewLL eo ei (markLL k0 ls) v new
theorem rdI_F {w : World} {v : Value} {l : List Int} (h : RdI w v l) : RdF w 1 l.length v l := by
  rcases h with ⟨a, cap, h1, rfl⟩ | ⟨b, o, cap, h1, h2⟩
  · exact .inl ⟨a, cap, h1, rfl, rfl⟩
  · exact .inr ⟨b, o, cap, h1, by simp, h2⟩

set_option maxRecDepth 100000 in
theorem c_heldInt64SS (v : Value) (ls : List (List Int)) (k0 : Int) (w : World) (hv : RdII w v (markLL k0 ls)) (hl : ls.length ≤ 1048576) (hs : sumLen ls ≤ 1048576) (h0 : 0 ≤ k0) (h1 : k0 ≤ 1073741824) :
    Calls Try.prog 37 [v, .int .i64 k0].toArray w (Res w (Is (.int .i64 (k0 + sumLen ls)))) := by
  obtain ⟨a, cap, rfl⟩ := hv.len
  rw [markLL_length]
  refine calls_of_vw Try.func37 rfl Try.ntmps37 (by simp) ?_
  repeat (first | refine vops_q tyOk rfl ?_ | refine vops_nil ?_ | refine vw_seq ?_ | refine vw_region (by kernel_rfl) ?_ | refine vops_guardT rfl rfl ?_ | refine vops_guardF rfl rfl ?_ | refine vops_guardU rfl rfl ?_ | with_reducible refine bs_nbeq rfl ?_ | with_reducible refine bs_true ?_ | with_reducible refine bs_false ?_ | with_reducible refine bs_ntrue ?_ | with_reducible refine bs_nfalse ?_ | refine vops_p tyOk rfl (by (try simp only [inR]); omega) ?_ | refine vw_cond rfl ?_ | refine vw_skip ?_ | refine vw_block ?_ | refine vw_ret ?_ | refine vw_exit ?_)
  refine vw_loop (fun m f own => ∃ (i : Nat) (c : Int), i ≤ ls.length ∧ m = ls.length - i ∧ c = k0 + sumLen (ls.take i) ∧ f 5 = .int .i64 i ∧ f 1 = .int .i64 c ∧ f 0 = .slice a ls.length cap ∧ own = []) ls.length
    ⟨0, k0, by omega, by omega, by simp [sumLen], rfl, rfl, rfl, rfl⟩ ?_
  rintro m f own ⟨i, c, hi, rfl, hcc, h5, h1', h0', rfl⟩
  rw [upd_of h0', upd_of h1', upd_of h5]
  repeat (first | refine vops_q tyOk rfl ?_ | refine vops_nil ?_ | refine vw_seq ?_ | refine vw_region (by kernel_rfl) ?_ | refine vops_guardT rfl rfl ?_ | refine vops_guardF rfl rfl ?_ | refine vops_guardU rfl rfl ?_ | with_reducible refine bs_nbeq rfl ?_ | with_reducible refine bs_true ?_ | with_reducible refine bs_false ?_ | with_reducible refine bs_ntrue ?_ | with_reducible refine bs_nfalse ?_ | refine vops_p tyOk rfl (by (try simp only [inR]); omega) ?_ | refine vw_cond rfl ?_ | refine vw_skip ?_ | refine vw_block ?_ | refine vw_ret ?_ | refine vw_exit ?_)
  refine bs_dec (fun h4 => ?_) (fun h4 => ?_)
  · obtain ⟨l, hli⟩ : ∃ l, ls[i]? = some l := ⟨_, List.getElem?_eq_getElem (by omega)⟩
    obtain ⟨b, o, cap', u, he, hcu, hu⟩ := hv.at (markLL_get k0 ls i l hli)
    rw [markLL_length] at he
    cases he
    rw [← hcc] at hu
    have hlm := sumLen_mem (List.mem_of_getElem? hli)
    have hst := sum_step hli
    have hle := sumLen_take_le ls i
    have hc : ∀ w', Fr [] w w' → Calls Try.prog 46 [u, .int .i64 c].toArray w' (Res w' (Is (.int .i64 (c + (l.length * 1 : Nat))))) := fun w' hf => by
      have h := rdI_F (hu.same hf)
      rw [iota_length] at h
      exact c_heldInt64S u l.length c w' (by rw [Nat.mul_one]; exact h) (by omega) (by omega) (by omega)
    repeat (first | refine vops_q tyOk rfl ?_ | refine vops_nil ?_ | refine vw_seq ?_ | refine vw_region (by kernel_rfl) ?_ | refine vops_guardT rfl rfl ?_ | refine vops_guardF rfl rfl ?_ | refine vops_guardU rfl rfl ?_ | with_reducible refine bs_nbeq rfl ?_ | with_reducible refine bs_true ?_ | with_reducible refine bs_false ?_ | with_reducible refine bs_ntrue ?_ | with_reducible refine bs_nfalse ?_ | refine vops_p tyOk rfl (by (try simp only [inR]); omega) ?_ | refine vw_cond rfl ?_ | refine vw_skip ?_ | refine vw_block ?_ | refine vw_ret ?_ | refine vw_exit ?_ | refine vops_load tyOk rfl rfl rfl (sees_old hcu (by simp)) ?_ | (apply vops_callp ent46 rfl; (intro w' hg; exact hc w' hg.fr)))
    refine bs_dec (fun h6 => by omega) (fun h6 => ?_)
    repeat (first | refine vops_q tyOk rfl ?_ | refine vops_nil ?_ | refine vw_seq ?_ | refine vw_region (by kernel_rfl) ?_ | refine vops_guardT rfl rfl ?_ | refine vops_guardF rfl rfl ?_ | refine vops_guardU rfl rfl ?_ | with_reducible refine bs_nbeq rfl ?_ | with_reducible refine bs_true ?_ | with_reducible refine bs_false ?_ | with_reducible refine bs_ntrue ?_ | with_reducible refine bs_nfalse ?_ | refine vops_p tyOk rfl (by (try simp only [inR]); omega) ?_ | refine vw_cond rfl ?_ | refine vw_skip ?_ | refine vw_block ?_ | refine vw_ret ?_ | refine vw_exit ?_)
    refine ⟨ls.length - (i + 1), by omega, i + 1, c + (l.length * 1 : Nat), by omega, rfl, by omega, rfl, rfl, rfl, rfl⟩
  · obtain rfl : i = ls.length := by omega
    repeat (first | refine vops_q tyOk rfl ?_ | refine vops_nil ?_ | refine vw_seq ?_ | refine vw_region (by kernel_rfl) ?_ | refine vops_guardT rfl rfl ?_ | refine vops_guardF rfl rfl ?_ | refine vops_guardU rfl rfl ?_ | with_reducible refine bs_nbeq rfl ?_ | with_reducible refine bs_true ?_ | with_reducible refine bs_false ?_ | with_reducible refine bs_ntrue ?_ | with_reducible refine bs_nfalse ?_ | refine vops_p tyOk rfl (by (try simp only [inR]); omega) ?_ | refine vw_cond rfl ?_ | refine vw_skip ?_ | refine vw_block ?_ | refine vw_ret ?_ | refine vw_exit ?_)
    exact rv_int rfl rfl (by rw [hcc, List.take_length])

set_option maxRecDepth 100000 in
theorem c_markInt64SS (v : Value) (ls : List (List Int)) (k0 : Int) (new : Own) (w : World) (hN : NewLL 29 2 ls v new) (ho : OwnOk new w) (hl : ls.length ≤ 1048576) (hs : sumLen ls ≤ 1048576) (h0 : 0 ≤ k0) (h1 : k0 ≤ 1073741824) :
    Calls Try.prog 36 [v, .int .i64 k0].toArray w (ResM w new (MarkedLL 29 2 ls k0 v)) := by
  obtain ⟨vs, ns, outer, hR, hO, rfl⟩ := hN
  obtain ⟨p, cap, rfl⟩ := hO.form
  have hvl := hR.len.1
  refine calls_of_vwM Try.func36 rfl Try.ntmps36 (by simp) ho ?_
  repeat (first | refine vops_q tyOk rfl ?_ | refine vops_nil ?_ | refine vw_seq ?_ | refine vw_region (by kernel_rfl) ?_ | refine vops_guardT rfl rfl ?_ | refine vops_guardF rfl rfl ?_ | refine vops_guardU rfl rfl ?_ | with_reducible refine bs_nbeq rfl ?_ | with_reducible refine bs_true ?_ | with_reducible refine bs_false ?_ | with_reducible refine bs_ntrue ?_ | with_reducible refine bs_nfalse ?_ | refine vops_p tyOk rfl (by (try simp only [inR]); omega) ?_ | refine vw_cond rfl ?_ | refine vw_skip ?_ | refine vw_block ?_ | refine vw_ret ?_ | refine vw_exit ?_)
  refine vw_loopW (fun m f own => ∃ (i : Nat) (c : Int) (ns : List Own), i ≤ ls.length ∧ m = ls.length - i ∧ c = k0 + sumLen (ls.take i) ∧ f 5 = .int .i64 i ∧ f 1 = .int .i64 c ∧ f 0 = .slice p ls.length cap ∧ Go.VL.RowsAt 2 (mkTo k0 ls i) vs ns ∧ own = outer ++ ns.flatten) ls.length
    ⟨_, ole_refl, 0, k0, ns, by omega, by omega, by simp [sumLen], rfl, rfl, rfl, by rw [mkTo_zero]; exact hR, rfl⟩ ?_
  rintro m f own ⟨i, c, ns, hi, rfl, hcc, h5, h1', h0', hR, rfl⟩
  rw [upd_of h0', upd_of h1', upd_of h5]
  repeat (first | refine vops_q tyOk rfl ?_ | refine vops_nil ?_ | refine vw_seq ?_ | refine vw_region (by kernel_rfl) ?_ | refine vops_guardT rfl rfl ?_ | refine vops_guardF rfl rfl ?_ | refine vops_guardU rfl rfl ?_ | with_reducible refine bs_nbeq rfl ?_ | with_reducible refine bs_true ?_ | with_reducible refine bs_false ?_ | with_reducible refine bs_ntrue ?_ | with_reducible refine bs_nfalse ?_ | refine vops_p tyOk rfl (by (try simp only [inR]); omega) ?_ | refine vw_cond rfl ?_ | refine vw_skip ?_ | refine vw_block ?_ | refine vw_ret ?_ | refine vw_exit ?_)
  refine bs_dec (fun h4 => ?_) (fun h4 => ?_)
  · obtain ⟨l, hli⟩ : ∃ l, ls[i]? = some l := ⟨_, List.getElem?_eq_getElem (by omega)⟩
    have hlm := sumLen_mem (List.mem_of_getElem? hli)
    have hst := sum_step hli
    have hle := sumLen_take_le ls i
    obtain ⟨u, n, ns1, ns2, hu, rfl, hn, hnext⟩ := RowsAt.split hR (mkTo_get hli)
    obtain ⟨bo, e1, e2, hc1, hc2⟩ : ∃ bo, p = some ⟨bo, 0, none⟩ ∧ outer = [(bo, ⟨vs, 29, cap * 1, none⟩)] ∧ ls.length ≤ cap ∧ cap ≤ maxLen := by
      rcases hO.2 with ⟨_, h, _⟩ | ⟨bo, cap', h, h2, h3, h4⟩
      · omega
      · cases h; exact ⟨bo, rfl, h4, h2, h3⟩
    subst e1; subst e2
    obtain ⟨pu, cu, rfl⟩ := SlAt.form hn
    have hpm : ([(bo, (⟨vs, 29, cap * 1, none⟩ : Blk))] ++ (ns1 ++ n :: ns2).flatten).Perm (n ++ ((bo, ⟨vs, 29, cap * 1, none⟩) :: (ns1.flatten ++ ns2.flatten))) := by
      rw [List.flatten_append, List.flatten_cons]
      show ((bo, _) :: (ns1.flatten ++ (n ++ ns2.flatten))).Perm _
      refine (List.Perm.cons _ ?_).trans List.perm_middle.symm
      rw [← List.append_assoc, ← List.append_assoc]
      exact List.perm_append_comm.append_right _
    have hcell : vs[0 + (i : Int).toNat]? = some (.slice pu l.length cu) := by rw [show 0 + (i : Int).toNat = i by omega]; exact hu
    repeat (first | refine vops_q tyOk rfl ?_ | refine vops_nil ?_ | refine vw_seq ?_ | refine vw_region (by kernel_rfl) ?_ | refine vops_guardT rfl rfl ?_ | refine vops_guardF rfl rfl ?_ | refine vops_guardU rfl rfl ?_ | with_reducible refine bs_nbeq rfl ?_ | with_reducible refine bs_true ?_ | with_reducible refine bs_false ?_ | with_reducible refine bs_ntrue ?_ | with_reducible refine bs_nfalse ?_ | refine vops_p tyOk rfl (by (try simp only [inR]); omega) ?_ | refine vw_cond rfl ?_ | refine vw_skip ?_ | refine vw_block ?_ | refine vw_ret ?_ | refine vw_exit ?_ | refine vops_loadM tyOk rfl rfl rfl (List.mem_cons_self) (by exact hcell) ?_ | (refine vops_callM ent45 rfl hpm (fun w' hg => c_markInt64S _ l.length l c n w' (NewI.f hn) (okS hg) (by omega) (by omega) (by omega)) ?_; rintro _ newM ⟨rfl, hF⟩))
    refine ⟨ls.length - (i + 1), by omega, [(bo, ⟨vs, 29, cap * 1, none⟩)] ++ (ns1 ++ newM :: ns2).flatten, ?_, i + 1, c + (l.length * 1 : Nat), ns1 ++ newM :: ns2, by omega, rfl, by omega, rfl, rfl, rfl, ?_, rfl⟩
    · rw [List.flatten_append, List.flatten_cons]
      refine ole_perm (List.Perm.symm ?_)
      show ((bo, _) :: (ns1.flatten ++ (newM ++ ns2.flatten))).Perm (newM ++ ((bo, _) :: (ns1.flatten ++ ns2.flatten)))
      refine (List.Perm.cons _ ?_).trans List.perm_middle.symm
      rw [← List.append_assoc, ← List.append_assoc]
      exact List.perm_append_comm.append_right _
    · rw [← mkTo_set hli, ← hcc]
      refine hnext _ _ ?_
      rw [Nat.mul_one] at hF
      unfold NewI; rw [iota_length]; exact hF
  · obtain rfl : i = ls.length := by omega
    refine vw_nodup (fun hnd => ?_)
    repeat (first | refine vops_q tyOk rfl ?_ | refine vops_nil ?_ | refine vw_seq ?_ | refine vw_region (by kernel_rfl) ?_ | refine vops_guardT rfl rfl ?_ | refine vops_guardF rfl rfl ?_ | refine vops_guardU rfl rfl ?_ | with_reducible refine bs_nbeq rfl ?_ | with_reducible refine bs_true ?_ | with_reducible refine bs_false ?_ | with_reducible refine bs_ntrue ?_ | with_reducible refine bs_nfalse ?_ | refine vops_p tyOk rfl (by (try simp only [inR]); omega) ?_ | refine vw_cond rfl ?_ | refine vw_skip ?_ | refine vw_block ?_ | refine vw_ret ?_ | refine vw_exit ?_)
    rw [mkTo_all] at hR
    refine out1 rfl rfl (new := outer ++ ns.flatten) hnd (fun _ h => h) ⟨by show Value.int .i64 c = _; rw [hcc, List.take_length], vs, ns, outer, hR, by rw [markLL_length]; exact hO, rfl⟩
end Go.Proofs.Ytnammdmiljjhjaa

/- A part of the proof: P41. No conditions of its own. -/
namespace Go.Proofs.Ytnammdmiljjhjaa
open Go.VL
attribute [local irreducible] VWr VOps VD Calls

/-- What is left of a bound when the sizes have been taken off it. -/
def LeftT (ls : List (List Int)) (left : Int) (v : Value) (new : Own) : Prop := new = [] ∧ ∃ r : Int, v = .int .i64 r ∧ (r = -1 ∨ (0 ≤ r ∧ r ≤ left ∧ (ls.length : Int) ≤ left ∧ (sumLen ls : Int) ≤ left ∧ ∀ l ∈ ls, (l.length : Int) ≤ left))
end Go.Proofs.Ytnammdmiljjhjaa

/- A part of the proof: R4. No conditions of its own. -/
namespace Go.Proofs.Ytnammdmiljjhjaa
open Go.VL
attribute [local irreducible] VWr VOps VD Calls

/-- n numbers from the place o on, numbered from c on. -/
def markP (q : List Int) (o n : Nat) (c : Int) : List Int := lst q.length fun t => if o ≤ t ∧ t < o + n then c + ((t - o : Nat) : Int) else q.getD t 0
theorem markP_length (q : List Int) (o n : Nat) (c : Int) : (markP q o n c).length = q.length := lst_length _ _
theorem markP_zero (q : List Int) (o : Nat) (c : Int) : markP q o 0 c = q := by
  unfold markP
  conv => rhs; rw [lst_of q]
  exact lst_congr fun t _ => by rw [if_neg (by omega)]
theorem markP_step (q : List Int) (o i : Nat) (c : Int) : (markP q o i c).set (o + i) (c + i) = markP q o (i + 1) c := by
  unfold markP
  rw [lst_set]
  refine lst_congr fun t _ => ?_
  by_cases h1 : t = o + i
  · rw [if_pos h1, if_pos (by omega)]; congr 1; omega
  · rw [if_neg h1]
    by_cases h2 : o ≤ t ∧ t < o + i
    · rw [if_pos h2, if_pos (by omega)]
    · rw [if_neg h2, if_neg (by omega)]
def MarkedP (e bt N : Nat) (q : List Int) (o n : Nat) (c : Int) (v : Value) (new : Own) : Prop := v = .int .i64 (c + n) ∧ new = [(bt, ⟨ints (markP q o n c), e, N, none⟩)]
set_option maxRecDepth 100000 in
theorem c_markPart (bt : Nat) (q : List Int) (o n cap e N : Nat) (c0 : Int) (w : World) (ho : OwnOk [(bt, ⟨ints q, e, N, none⟩)] w) (hq : o + n ≤ q.length) (hl : n ≤ 1048576) (h0 : 0 ≤ c0) (h1 : c0 ≤ 1099511627776) :
    Calls Try.prog 45 [.slice (some ⟨bt, o, none⟩) n cap, .int .i64 c0].toArray w (ResM w [(bt, ⟨ints q, e, N, none⟩)] (MarkedP e bt N q o n c0)) := by
  refine calls_of_vwM Try.func45 rfl Try.ntmps45 (by simp) ho ?_
  repeat (first | refine vops_q tyOk rfl ?_ | refine vops_nil ?_ | refine vw_seq ?_ | refine vw_region (by kernel_rfl) ?_ | refine vops_guardT rfl rfl ?_ | refine vops_guardF rfl rfl ?_ | refine vops_guardU rfl rfl ?_ | with_reducible refine bs_nbeq rfl ?_ | with_reducible refine bs_true ?_ | with_reducible refine bs_false ?_ | with_reducible refine bs_ntrue ?_ | with_reducible refine bs_nfalse ?_ | refine vops_p tyOk rfl (by (try simp only [inR]); omega) ?_ | refine vw_cond rfl ?_ | refine vw_skip ?_ | refine vw_block ?_ | refine vw_ret ?_ | refine vw_exit ?_)
  refine vw_loop (fun m f own => ∃ (i : Nat) (c : Int), i ≤ n ∧ m = n - i ∧ c = c0 + i ∧ f 5 = .int .i64 i ∧ f 1 = .int .i64 c ∧ f 0 = .slice (some ⟨bt, o, none⟩) n cap ∧ own = [(bt, ⟨ints (markP q o i c0), e, N, none⟩)]) n
    ⟨0, c0, by omega, by omega, by omega, rfl, rfl, rfl, by rw [markP_zero]⟩ ?_
  rintro m f own ⟨i, c, hi, rfl, hcc, h5, h1', h0', rfl⟩
  rw [upd_of h0', upd_of h1', upd_of h5]
  repeat (first | refine vops_q tyOk rfl ?_ | refine vops_nil ?_ | refine vw_seq ?_ | refine vw_region (by kernel_rfl) ?_ | refine vops_guardT rfl rfl ?_ | refine vops_guardF rfl rfl ?_ | refine vops_guardU rfl rfl ?_ | with_reducible refine bs_nbeq rfl ?_ | with_reducible refine bs_true ?_ | with_reducible refine bs_false ?_ | with_reducible refine bs_ntrue ?_ | with_reducible refine bs_nfalse ?_ | refine vops_p tyOk rfl (by (try simp only [inR]); omega) ?_ | refine vw_cond rfl ?_ | refine vw_skip ?_ | refine vw_block ?_ | refine vw_ret ?_ | refine vw_exit ?_)
  refine bs_dec (fun h4 => ?_) (fun h4 => ?_)
  · have hml := markP_length q o i c0
    have hidx : o + (i : Int).toNat = 0 + (o + i) := by omega
    repeat (first | refine vops_q tyOk rfl ?_ | refine vops_nil ?_ | refine vw_seq ?_ | refine vw_region (by kernel_rfl) ?_ | refine vops_guardT rfl rfl ?_ | refine vops_guardF rfl rfl ?_ | refine vops_guardU rfl rfl ?_ | with_reducible refine bs_nbeq rfl ?_ | with_reducible refine bs_true ?_ | with_reducible refine bs_false ?_ | with_reducible refine bs_ntrue ?_ | with_reducible refine bs_nfalse ?_ | refine vops_p tyOk rfl (by (try simp only [inR]); omega) ?_ | refine vw_cond rfl ?_ | refine vw_skip ?_ | refine vw_block ?_ | refine vw_ret ?_ | refine vw_exit ?_ | refine vops_storeIM (o := o + i) tyOk rfl rfl (by exact congrArg (fun x => Value.pointer (some ⟨bt, x, none⟩)) hidx) rfl (by repeat (first | exact upd_here | apply upd_next | apply upd_past)) (by omega) ?_)
    refine ⟨n - (i + 1), by omega, i + 1, c + 1, by omega, rfl, by omega, rfl, rfl, rfl, ?_⟩
    rw [← markP_step, ← hcc]
  · obtain rfl : i = n := by omega
    repeat (first | refine vops_q tyOk rfl ?_ | refine vops_nil ?_ | refine vw_seq ?_ | refine vw_region (by kernel_rfl) ?_ | refine vops_guardT rfl rfl ?_ | refine vops_guardF rfl rfl ?_ | refine vops_guardU rfl rfl ?_ | with_reducible refine bs_nbeq rfl ?_ | with_reducible refine bs_true ?_ | with_reducible refine bs_false ?_ | with_reducible refine bs_ntrue ?_ | with_reducible refine bs_nfalse ?_ | refine vops_p tyOk rfl (by (try simp only [inR]); omega) ?_ | refine vw_cond rfl ?_ | refine vw_skip ?_ | refine vw_block ?_ | refine vw_ret ?_ | refine vw_exit ?_)
    exact out1 rfl rfl (new := [(bt, ⟨ints (markP q o i c0), e, N, none⟩)]) (by simp [ids]) (fun _ h => h) ⟨by show Value.int .i64 c = _; rw [hcc], rfl⟩

/-- i rows of the table numbered. -/
def markG (k0 : Int) (k : Nat) (g : Nat → Nat → Int) (i a b : Nat) : Int := if a < i then k0 + ((a * k + b : Nat) : Int) else g a b
theorem markP_row {m k i : Nat} {g : Nat → Nat → Int} {k0 : Int} (hk : 0 < k) : markP (flatN m k (markG k0 k g i)) (i * k) k (k0 + ((i * k : Nat) : Int)) = flatN m k (markG k0 k g (i + 1)) := by
  unfold markP
  rw [flatN_length]
  unfold flatN
  refine lst_congr fun t ht => ?_
  have hp := idx_part (i := i) (t := t) hk
  rw [lst_getD ht]
  have hdm := Nat.div_add_mod t k
  rw [Nat.mul_comm] at hdm
  unfold markG
  by_cases h : t / k = i
  · have h2 := hp.2 h
    rw [if_pos h2, if_pos (by omega), hdm]; omega
  · rw [if_neg fun e => h (hp.1 e)]
    by_cases h3 : t / k < i
    · rw [if_pos h3, if_pos (by omega)]
    · rw [if_neg h3, if_neg (by omega)]
theorem sumLen_tab (k : Nat) (g : Nat → Nat → Int) : ∀ m, sumLen (tabN m k g) = m * k
  | 0 => by simp [tabN_zero, sumLen]
  | m + 1 => by rw [tabN_succ, sumLen_snoc, sumLen_tab k g m, lst_length, Nat.add_mul, Nat.one_mul]
theorem markLL_tab (k0 : Int) (k : Nat) (g : Nat → Nat → Int) : ∀ m, markLL k0 (tabN m k g) = tabN m k fun a b => k0 + ((a * k + b : Nat) : Int)
  | 0 => rfl
  | m + 1 => by
    rw [tabN_succ, markLL_snoc, markLL_tab k0 k g m, tabN_succ, sumLen_tab, lst_length]
    congr 2
    exact lst_congr fun b _ => by push_cast; omega
def MarkedT (eo ei : Nat) (ls : List (List Int)) (k0 : Int) (v : Value) (u : Value) (new : Own) : Prop := u = .int .i64 (k0 + sumLen ls) ∧ NewT eo ei (markLL k0 ls) v new
theorem resM_mono {P : Program} {fn : Nat} {args : Array Value} {w : World} {own : Own} {S S' : Value → Own → Prop} (h : Calls P fn args w (ResM w own S)) (hs : ∀ v new, S v new → S' v new) : Calls P fn args w (ResM w own S') := by
  refine h.mono ?_
  rintro e w' ⟨v, new, h1, h2, h3, h4, h5⟩
  exact ⟨v, new, h1, h2, h3, h4, hs _ _ h5⟩
set_option maxRecDepth 100000 in
theorem c_markTab (bo bt m k : Nat) (g : Nat → Nat → Int) (k0 : Int) (w : World) (ho : OwnOk (TabB 29 2 bo bt m k g) w) (hk : 0 < k) (hmk : m * k ≤ 1048576) (h0 : 0 ≤ k0) (h1 : k0 ≤ 1073741824) :
    Calls Try.prog 36 [.slice (some ⟨bo, 0, none⟩) m m, .int .i64 k0].toArray w (ResM w (TabB 29 2 bo bt m k g) (fun u new => u = .int .i64 (k0 + ((m * k : Nat) : Int)) ∧ new = TabB 29 2 bo bt m k fun a b => k0 + ((a * k + b : Nat) : Int))) := by
  have hm : m ≤ 1048576 := Nat.le_trans (by have := Nat.mul_le_mul_left m hk; omega) hmk
  have hk1 : ∀ i, i < m → i * k + k ≤ 1048576 := fun i hi => by
    have : (i + 1) * k ≤ m * k := Nat.mul_le_mul_right k hi
    rw [Nat.add_mul, Nat.one_mul] at this; omega
  refine calls_of_vwM Try.func36 rfl Try.ntmps36 (by simp) ho ?_
  repeat (first | refine vops_q tyOk rfl ?_ | refine vops_nil ?_ | refine vw_seq ?_ | refine vw_region (by kernel_rfl) ?_ | refine vops_guardT rfl rfl ?_ | refine vops_guardF rfl rfl ?_ | refine vops_guardU rfl rfl ?_ | with_reducible refine bs_nbeq rfl ?_ | with_reducible refine bs_true ?_ | with_reducible refine bs_false ?_ | with_reducible refine bs_ntrue ?_ | with_reducible refine bs_nfalse ?_ | refine vops_p tyOk rfl (by (try simp only [inR]); omega) ?_ | refine vw_cond rfl ?_ | refine vw_skip ?_ | refine vw_block ?_ | refine vw_ret ?_ | refine vw_exit ?_)
  refine vw_loopW (fun x f own => ∃ (i : Nat) (c : Int), i ≤ m ∧ x = m - i ∧ c = k0 + ((i * k : Nat) : Int) ∧ f 5 = .int .i64 i ∧ f 1 = .int .i64 c ∧ f 0 = .slice (some ⟨bo, 0, none⟩) m m ∧ own = TabB 29 2 bo bt m k (markG k0 k g i)) m
    ⟨_, ole_refl, 0, k0, by omega, by omega, by simp, rfl, rfl, rfl, by
      have : flatN m k (markG k0 k g 0) = flatN m k g := flatN_congr fun a b _ _ => by unfold markG; rw [if_neg (by omega)]
      unfold TabB; rw [this]⟩ ?_
  rintro x f own ⟨i, c, hi, rfl, hcc, h5, h1', h0', rfl⟩
  rw [upd_of h0', upd_of h1', upd_of h5]
  repeat (first | refine vops_q tyOk rfl ?_ | refine vops_nil ?_ | refine vw_seq ?_ | refine vw_region (by kernel_rfl) ?_ | refine vops_guardT rfl rfl ?_ | refine vops_guardF rfl rfl ?_ | refine vops_guardU rfl rfl ?_ | with_reducible refine bs_nbeq rfl ?_ | with_reducible refine bs_true ?_ | with_reducible refine bs_false ?_ | with_reducible refine bs_ntrue ?_ | with_reducible refine bs_nfalse ?_ | refine vops_p tyOk rfl (by (try simp only [inR]); omega) ?_ | refine vw_cond rfl ?_ | refine vw_skip ?_ | refine vw_block ?_ | refine vw_ret ?_ | refine vw_exit ?_)
  refine bs_dec (fun h4 => ?_) (fun h4 => ?_)
  · have hik : i < m := by omega
    have hb := hk1 i hik
    have hcell : (rowsV bt k m)[0 + (i : Int).toNat]? = some (.slice (some ⟨bt, i * k, none⟩) k k) := by rw [show 0 + (i : Int).toNat = i by omega]; exact rowsV_get hik
    have hfl := flatN_length m k (markG k0 k g i)
    have hix := idx_lt (m := m) (k := k) (i := i) (j := k - 1) hik (by omega)
    have hst : (i + 1) * k = i * k + k := by rw [Nat.add_mul, Nat.one_mul]
    repeat (first | refine vops_q tyOk rfl ?_ | refine vops_nil ?_ | refine vw_seq ?_ | refine vw_region (by kernel_rfl) ?_ | refine vops_guardT rfl rfl ?_ | refine vops_guardF rfl rfl ?_ | refine vops_guardU rfl rfl ?_ | with_reducible refine bs_nbeq rfl ?_ | with_reducible refine bs_true ?_ | with_reducible refine bs_false ?_ | with_reducible refine bs_ntrue ?_ | with_reducible refine bs_nfalse ?_ | refine vops_p tyOk rfl (by (try simp only [inR]); omega) ?_ | refine vw_cond rfl ?_ | refine vw_skip ?_ | refine vw_block ?_ | refine vw_ret ?_ | refine vw_exit ?_ | refine vops_loadM tyOk rfl rfl rfl (List.mem_cons_self) (by exact hcell) ?_ | (refine vops_callM ent45 rfl (own0 := [(bt, ⟨ints (flatN m k (markG k0 k g i)), 2, m * k * 1, none⟩)]) (by repeat (first | exact pm_here | exact pm_last | apply pm_next | apply pm_past)) (fun w' hg => c_markPart bt (flatN m k (markG k0 k g i)) (i * k) k k 2 (m * k * 1) c w' (okS hg) (by rw [hfl]; omega) (by omega) (by omega) (by omega)) ?_; rintro _ newM ⟨rfl, rfl⟩))
    rw [hcc, markP_row hk]
    refine ⟨m - (i + 1), by omega, TabB 29 2 bo bt m k (markG k0 k g (i + 1)), ole_perm (List.Perm.swap _ _ _), i + 1, k0 + ((i * k : Nat) : Int) + k, by omega, rfl, by rw [hst]; push_cast; omega, rfl, rfl, rfl, rfl⟩
  · obtain rfl : i = m := by omega
    refine vw_nodup (fun hnd => ?_)
    repeat (first | refine vops_q tyOk rfl ?_ | refine vops_nil ?_ | refine vw_seq ?_ | refine vw_region (by kernel_rfl) ?_ | refine vops_guardT rfl rfl ?_ | refine vops_guardF rfl rfl ?_ | refine vops_guardU rfl rfl ?_ | with_reducible refine bs_nbeq rfl ?_ | with_reducible refine bs_true ?_ | with_reducible refine bs_false ?_ | with_reducible refine bs_ntrue ?_ | with_reducible refine bs_nfalse ?_ | refine vops_p tyOk rfl (by (try simp only [inR]); omega) ?_ | refine vw_cond rfl ?_ | refine vw_skip ?_ | refine vw_block ?_ | refine vw_ret ?_ | refine vw_exit ?_)
    refine out1 rfl rfl hnd (fun _ h => h) ⟨by show Value.int .i64 c = _; rw [hcc], ?_⟩
    have : flatN i k (markG k0 k g i) = flatN i k fun a b => k0 + ((a * k + b : Nat) : Int) := flatN_congr fun a b ha _ => by unfold markG; rw [if_pos ha]
    unfold TabB; rw [this]
theorem c_markT (v : Value) (ls : List (List Int)) (k0 : Int) (new : Own) (w : World) (hN : NewT 29 2 ls v new) (ho : OwnOk new w) (hl : ls.length ≤ 1048576) (hs : sumLen ls ≤ 1048576) (h0 : 0 ≤ k0) (h1 : k0 ≤ 1073741824) :
    Calls Try.prog 36 [v, .int .i64 k0].toArray w (ResM w new (MarkedT 29 2 ls k0 v)) := by
  rcases hN with h | ⟨m, k, g, rfl, hk, hmk, bo, bt, rfl, rfl⟩
  · exact resM_mono (c_markInt64SS v ls k0 new w h ho hl hs h0 h1) fun u n h => ⟨h.1, .inl h.2⟩
  · refine resM_mono (c_markTab bo bt m k g k0 w ho hk hmk h0 h1) ?_
    rintro u n ⟨rfl, rfl⟩
    exact ⟨by rw [sumLen_tab], .inr ⟨m, k, _, markLL_tab k0 k g m, hk, hmk, bo, bt, rfl, rfl⟩⟩

/-! squares, as the laws take them -/
end Go.Proofs.Ytnammdmiljjhjaa

/- A part of the proof: P22. No conditions of its own. -/
namespace Go.Proofs.Ytnammdmiljjhjaa
open Go.VL
attribute [local irreducible] VWr VOps VD Calls

/-- The pairs of a round, as far as the team k. -/
def pairsTo (r : List Int) (k : Nat) : List (List Int) := ((List.range k).filter fun (a : Nat) => decide ((a : Int) < r.getD a 0)).map fun (a : Nat) => [(a : Int), r.getD a 0]
/-- What pairsIn hands on. -/
def pairVals (n : Int) (r : List Int) : List (List Value) := (pairsTo r n.toNat).map ints
end Go.Proofs.Ytnammdmiljjhjaa

/- A part of the proof: P23. No conditions of its own. -/
namespace Go.Proofs.Ytnammdmiljjhjaa
open Go.VL
attribute [local irreducible] VWr VOps VD Calls

noncomputable def pairsOf (n : Int) (r : List Int) : List (List Int) × Int := if IsRd n r then (pairsTo r n.toNat, 0) else ([], 2)
end Go.Proofs.Ytnammdmiljjhjaa

/- A part of the proof: P3. No conditions of its own. -/
namespace Go.Proofs.Ytnammdmiljjhjaa
open Go.VL
attribute [local irreducible] VWr VOps VD Calls

open Classical in
/-- The code of a schedule and the number of a round. -/
noncomputable def codeOf (n : Int) (rs : List (List Int)) (i : Int) : Int := if IsSch n rs then (if 0 ≤ i ∧ i < rs.length then 0 else 2) else 1
/-- The free teams of a round, as far as k. -/
def freeOf (r : List Int) (k : Nat) : List Int := collect (fun a => decide (r.getD a 0 = (a : Int))) (fun a => (a : Int)) k
open Classical in
noncomputable def freeTeams (n : Int) (rs : List (List Int)) (i : Int) : List Int × Int :=
  if IsSch n rs then (if 0 ≤ i ∧ i < rs.length then (freeOf (rs.getD i.toNat []) n.toNat, 0) else ([], 2)) else ([], 1)

end Go.Proofs.Ytnammdmiljjhjaa

/- A part of the proof: P7. No conditions of its own. -/
namespace Go.Proofs.Ytnammdmiljjhjaa
open Go.VL
attribute [local irreducible] VWr VOps VD Calls

end Go.Proofs.Ytnammdmiljjhjaa

/- A part of the proof: P8. No conditions of its own. -/
namespace Go.Proofs.Ytnammdmiljjhjaa
open Go.VL
attribute [local irreducible] VWr VOps VD Calls

open Classical in
noncomputable def addRound (n : Int) (rs : List (List Int)) (r : List Int) : (Int × List (List Int)) × Int :=
  if IsSch n rs then (if IsRd n r then (if rs.length = 40 then ((0, []), 3) else ((n, rs ++ [r]), 0)) else ((0, []), 2)) else ((0, []), 1)
end Go.Proofs.Ytnammdmiljjhjaa

/- A part of the proof: P9. No conditions of its own. -/
namespace Go.Proofs.Ytnammdmiljjhjaa
open Go.VL
attribute [local irreducible] VWr VOps VD Calls

open Classical in
noncomputable def dropRound (n : Int) (rs : List (List Int)) (i : Int) : (Int × List (List Int)) × Int :=
  if IsSch n rs then (if 0 ≤ i ∧ i < rs.length then ((n, (rs.take i.toNat).drop 0 ++ (rs.take rs.length).drop (i.toNat + 1)), 0) else ((0, []), 2)) else ((0, []), 1)
end Go.Proofs.Ytnammdmiljjhjaa

/- A part of the proof: P13. No conditions of its own. -/
namespace Go.Proofs.Ytnammdmiljjhjaa
open Go.VL
attribute [local irreducible] VWr VOps VD Calls

def robinR (n : Int) : Int := n - 1 + n % 2
/-- The rule of the circle, over what was there, as far as k. -/
def circTo (base : List Int) (i m k : Int) : List Int := (List.range 14).map fun (j : Nat) => if (j : Int) < k then (2 * i + m - j) % m else base.getD j 0
/-- A round of the circle. -/
def circRow (n i : Int) : List Int := (List.range 14).map fun (j : Nat) => if n % 2 = 0 ∧ (j : Int) = n - 1 then i else if n % 2 = 0 ∧ (j : Int) = i then n - 1 else if (j : Int) < robinR n then (2 * i + robinR n - j) % robinR n else 0
/-- The rounds of the circle. -/
def circRows (n : Int) : List (List Int) := (List.range (robinR n).toNat).map fun (i : Nat) => circRow n i
open Classical in
noncomputable def circle (n : Int) : (Int × List (List Int)) × Int := if 2 ≤ n ∧ n ≤ 14 then ((n, circRows n), 0) else ((0, []), 2)
end Go.Proofs.Ytnammdmiljjhjaa

/- A part of the proof: P11. No conditions of its own. -/
namespace Go.Proofs.Ytnammdmiljjhjaa
open Go.VL
attribute [local irreducible] VWr VOps VD Calls

end Go.Proofs.Ytnammdmiljjhjaa

