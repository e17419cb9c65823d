import Derived.Test.YtlfflmoegfibgaaSX
import Derived.Test.YtlfflmoegfibgaaVLLol
import Derived.Test.YtlfflmoegfibgaaVLA
/- Parts of the proof, one after another. No conditions of their own. -/
/- A part of the proof: P30. No conditions of its own. -/
namespace Go.Proofs.Ytlfflmoegfibgaa
open Go.VL
attribute [local irreducible] VWr VOps VD Calls

/-- The round whose turn it is, and the other one. -/
def cur (r q : List Int) (t : Nat) : List Int := if t % 2 = 0 then r else q
def oth (r q : List Int) (t : Nat) : List Int := if t % 2 = 0 then q else r
theorem cur_par {r q : List Int} {t s : Nat} (h : t % 2 = s % 2) : cur r q t = cur r q s := by unfold cur; rw [h]
def mv (r q : List Int) (t : Nat) (x : Int) : Int := (cur r q t).getD x.toNat 0
theorem mv_ok {n : Int} {r q : List Int} (hr : IsRd n r) (hq : IsRd n q) (t : Nat) {x : Int} (h0 : 0 ≤ x) (h1 : x < n) : 0 ≤ mv r q t x ∧ mv r q t x < n ∧ mv r q t (mv r q t x) = x := by
  have hc : IsRd n (cur r q t) := by unfold cur; split <;> assumption
  have h14 := hc.2.1
  have := (hc.2.2 x.toNat (by omega)).2 (by omega)
  unfold mv
  refine ⟨this.1, by omega, ?_⟩
  rw [this.2.2]; omega
/-- A chain of a, as far as it has come. -/
structure Ch (n : Int) (r q : List Int) (a : Int) (l : List Int) : Prop where
  ne : 0 < l.length
  first : l.getD 0 0 = a
  inn : ∀ x ∈ l, 0 ≤ x ∧ x < n
  step : ∀ i, i + 1 < l.length → l.getD (i + 1) 0 = mv r q i (l.getD i 0)
  nodup : l.Nodup
theorem getD_mem {l : List Int} {i : Nat} (h : i < l.length) : l.getD i 0 ∈ l := by
  rw [List.getD_eq_getElem?_getD, List.getElem?_eq_getElem h]; exact List.getElem_mem _
theorem getD_inj {l : List Int} (hn : l.Nodup) {i j : Nat} (hi : i < l.length) (hj : j < l.length) (h : l.getD i 0 = l.getD j 0) : i = j := by
  refine (List.getElem?_inj hi hn).1 ?_
  rw [List.getD_eq_getElem?_getD, List.getD_eq_getElem?_getD, List.getElem?_eq_getElem hi, List.getElem?_eq_getElem hj] at h
  rw [List.getElem?_eq_getElem hi, List.getElem?_eq_getElem hj]
  exact congrArg some h
theorem Ch.last {n : Int} {r q : List Int} {a : Int} {l : List Int} (h : Ch n r q a l) : 0 ≤ l.getD (l.length - 1) 0 ∧ l.getD (l.length - 1) 0 < n := h.inn _ (getD_mem (by have := h.ne; omega))
theorem getD_app {l : List Int} {x : Int} {i : Nat} (h : i < l.length) : (l ++ [x]).getD i 0 = l.getD i 0 := by
  rw [List.getD_eq_getElem?_getD, List.getElem?_append_left h, ← List.getD_eq_getElem?_getD]
theorem getD_end {l : List Int} {x : Int} {i : Nat} (h : i = l.length) : (l ++ [x]).getD i 0 = x := by
  subst h; rw [List.getD_eq_getElem?_getD, List.getElem?_append_right (Nat.le_refl _), Nat.sub_self]; rfl
theorem Ch.snoc {n : Int} {r q : List Int} (hr : IsRd n r) (hq : IsRd n q) {a x : Int} {l : List Int} (h : Ch n r q a l) (hx : x = mv r q (l.length - 1) (l.getD (l.length - 1) 0)) (hxa : x ≠ a) (hxl : x ≠ l.getD (l.length - 1) 0) : Ch n r q a (l ++ [x]) := by
  have hne := h.ne
  have hlast := h.last
  have hmv := mv_ok hr hq (l.length - 1) hlast.1 hlast.2
  have hnot : x ∉ l := fun hm => by
    obtain ⟨k, hk⟩ := List.mem_iff_getElem?.1 hm
    have hkl := (List.getElem?_eq_some_iff.1 hk).1
    have hkd : l.getD k 0 = x := by rw [List.getD_eq_getElem?_getD, hk]; rfl
    have hk0 : k ≠ 0 := fun e => hxa (by rw [← hkd, e, h.first])
    have hkm : k ≠ l.length - 1 := fun e => hxl (by rw [← hkd, e])
    have hback : mv r q (l.length - 1) x = l.getD (l.length - 1) 0 := by rw [hx]; exact hmv.2.2
    by_cases hp : (l.length - 1) % 2 = k % 2
    · have h1 := h.step k (by omega)
      have h2 : mv r q k (l.getD k 0) = l.getD (l.length - 1) 0 := by rw [hkd, ← hback]; unfold mv; rw [cur_par hp]
      have := getD_inj h.nodup (show k + 1 < l.length by omega) (show l.length - 1 < l.length by omega) (h1.trans h2)
      omega
    · have h1 := h.step (k - 1) (by omega)
      rw [show k - 1 + 1 = k by omega] at h1
      have hb := h.inn _ (getD_mem (show k - 1 < l.length by omega))
      have h3 := (mv_ok hr hq (k - 1) hb.1 hb.2).2.2
      rw [← h1, hkd] at h3
      have h4 : mv r q (k - 1) x = l.getD (l.length - 1) 0 := by rw [← hback]; unfold mv; rw [cur_par (show (k - 1) % 2 = (l.length - 1) % 2 by omega)]
      have := getD_inj h.nodup (show k - 1 < l.length by omega) (show l.length - 1 < l.length by omega) (h3.symm.trans h4)
      omega
  refine ⟨by simp, by rw [getD_app hne]; exact h.first, fun y hy => ?_, fun i hi => ?_, ?_⟩
  · rcases List.mem_append.1 hy with hy | hy
    · exact h.inn y hy
    · have : y = x := by simpa using hy
      rw [this, hx]; exact ⟨hmv.1, hmv.2.1⟩
  · rw [List.length_append] at hi
    simp only [List.length_cons, List.length_nil] at hi
    by_cases hil : i + 1 < l.length
    · rw [getD_app hil, getD_app (by omega)]; exact h.step i hil
    · rw [getD_end (by omega), getD_app (by omega), hx]
      rw [show l.length - 1 = i by omega]
  · rw [List.nodup_append]
    refine ⟨h.nodup, by simp, fun y hy z hz e => ?_⟩
    have : z = x := by simpa using hz
    subst this; subst e; exact hnot hy
theorem pigeon : ∀ (n : Nat) (l : List Int), l.Nodup → (∀ x ∈ l, 0 ≤ x ∧ x < (n : Int)) → l.length ≤ n
  | 0, l, _, h => by
    match l, h with
    | [], _ => exact Nat.le_refl _
    | x :: l, h => have := h x (by simp); omega
  | n + 1, l, hn, h => by
    by_cases hm : (n : Int) ∈ l
    · have h1 := pigeon n (l.erase (n : Int)) (hn.erase _) (fun x hx => by
        have hx2 := (hn.mem_erase_iff).1 hx
        have := h x hx2.2
        have hne := hx2.1
        omega)
      rw [List.length_erase_of_mem hm] at h1
      omega
    · have := pigeon n l hn (fun x hx => by
        have h1 := h x hx
        have h2 : x ≠ n := fun e => hm (e ▸ hx)
        omega)
      omega
def chainGo (r q : List Int) (a : Int) : Nat → List Int → List Int
  | 0, l => l
  | f + 1, l => if mv r q (l.length - 1) (l.getD (l.length - 1) 0) = a ∨ mv r q (l.length - 1) (l.getD (l.length - 1) 0) = l.getD (l.length - 1) 0 then l else chainGo r q a f (l ++ [mv r q (l.length - 1) (l.getD (l.length - 1) 0)])
/-- The chain of a. -/
def chain (r q : List Int) (a : Int) : List Int := chainGo r q a 15 [a]
theorem Ch.one {n : Int} {r q : List Int} {a : Int} (h0 : 0 ≤ a) (h1 : a < n) : Ch n r q a [a] := ⟨by simp, rfl, fun x hx => by
  have : x = a := by simpa using hx
  subst this; exact ⟨h0, h1⟩, fun i hi => by simp at hi, by simp⟩
theorem chainGo_ch {n : Int} {r q : List Int} {a : Int} (hr : IsRd n r) (hq : IsRd n q) : ∀ (f : Nat) (l : List Int), Ch n r q a l → Ch n r q a (chainGo r q a f l)
  | 0, l, h => h
  | f + 1, l, h => by
    unfold chainGo
    split
    · exact h
    · rename_i hc
      exact chainGo_ch hr hq f _ (h.snoc hr hq rfl (fun e => hc (.inl e)) (fun e => hc (.inr e)))
theorem chain_ch {n : Int} {r q : List Int} {a : Int} (hr : IsRd n r) (hq : IsRd n q) (h0 : 0 ≤ a) (h1 : a < n) : Ch n r q a (chain r q a) := chainGo_ch hr hq _ _ (Ch.one h0 h1)

end Go.Proofs.Ytlfflmoegfibgaa

/- A part of the proof: P31. No conditions of its own. -/
namespace Go.Proofs.Ytlfflmoegfibgaa
open Go.VL
attribute [local irreducible] VWr VOps VD Calls

open Classical in
noncomputable def roundsCode (n : Int) (rs : List (List Int)) : Int := if (2 ≤ n ∧ n ≤ 14) ∧ ∀ r ∈ rs, IsRd n r then 0 else 2
open Classical in
noncomputable def chainFrom (n : Int) (r q : List Int) (a : Int) : List Int × Int := if IsRd n r ∧ IsRd n q ∧ 0 ≤ a ∧ a < n then (chain r q a, 0) else ([], 2)
end Go.Proofs.Ytlfflmoegfibgaa

/- A part of the proof: P32. No conditions of its own. -/
namespace Go.Proofs.Ytlfflmoegfibgaa
open Go.VL
attribute [local irreducible] VWr VOps VD Calls

end Go.Proofs.Ytlfflmoegfibgaa

/-! What two rounds join. -/
namespace Go.Proofs.Ytlfflmoegfibgaa
open Go.VL
attribute [local irreducible] VWr VOps VD Calls

/-- The chain is at its end. -/
def Ends (r q : List Int) (a : Int) (l : List Int) : Prop := mv r q (l.length - 1) (l.getD (l.length - 1) 0) = a ∨ mv r q (l.length - 1) (l.getD (l.length - 1) 0) = l.getD (l.length - 1) 0
/-- A set of teams that joins do not leave. -/
def Closed (n : Int) (r q : List Int) (S : Int → Prop) : Prop := ∀ x, 0 ≤ x → x < n → S x → S (r.getD x.toNat 0) ∧ S (q.getD x.toNat 0)
theorem mv_even {r q : List Int} {t : Nat} {x : Int} (h : t % 2 = 0) : mv r q t x = r.getD x.toNat 0 := by unfold mv cur; rw [if_pos h]
theorem mv_odd {r q : List Int} {t : Nat} {x : Int} (h : ¬ t % 2 = 0) : mv r q t x = q.getD x.toNat 0 := by unfold mv cur; rw [if_neg h]
/-- The teams to which joins lead from a. -/
def InComp (r q : List Int) (a x : Int) : Prop := x ∈ chain r q a ∨ x ∈ chain q r a
instance (r q : List Int) (a x : Int) : Decidable (InComp r q a x) := by unfold InComp; infer_instance
theorem InComp.range {n : Int} {r q : List Int} {a x : Int} (hr : IsRd n r) (hq : IsRd n q) (h0 : 0 ≤ a) (h1 : a < n) (h : InComp r q a x) : 0 ≤ x ∧ x < n := by
  rcases h with h | h
  · exact (chain_ch hr hq h0 h1).inn x h
  · exact (chain_ch hq hr h0 h1).inn x h
theorem Ch.least {n : Int} {r q : List Int} {a : Int} {l : List Int} (h : Ch n r q a l) {S : Int → Prop} (hS : Closed n r q S) (ha : S a) : ∀ i, i < l.length → S (l.getD i 0)
  | 0, _ => by rw [h.first]; exact ha
  | i + 1, hi => by
    have ih := Ch.least h hS ha i (by omega)
    have hb := h.inn _ (getD_mem (show i < l.length by omega))
    have := hS _ hb.1 hb.2 ih
    rw [h.step i hi]
    by_cases hp : i % 2 = 0
    · rw [mv_even hp]; exact this.1
    · rw [mv_odd hp]; exact this.2
theorem Closed.back {n : Int} {r q : List Int} (hr : IsRd n r) (hq : IsRd n q) {S : Int → Prop} (hS : Closed n r q S) {x : Int} (h0 : 0 ≤ x) (h1 : x < n) : (S (r.getD x.toNat 0) → S x) ∧ (S (q.getD x.toNat 0) → S x) := by
  have a1 := mv_ok hr hq 0 h0 h1
  have a2 := mv_ok hr hq 1 h0 h1
  rw [mv_even rfl] at a1
  rw [mv_odd (by decide)] at a2
  constructor
  · intro h
    have := (hS _ a1.1 a1.2.1 h).1
    rw [mv_even rfl] at a1
    rwa [a1.2.2] at this
  · intro h
    have := (hS _ a2.1 a2.2.1 h).2
    rw [mv_odd (by decide)] at a2
    rwa [a2.2.2] at this

/-! sorted lists -/
/-- The component of a, ascending. -/
def compOf (n : Int) (r q : List Int) (a : Int) : List Int := ((List.range n.toNat).map fun (i : Nat) => (i : Int)).filter fun x => decide (InComp r q a x)
/-- The components, as far as the team i. -/
def comps (n : Int) (r q : List Int) : Nat → List (List Int)
  | 0 => []
  | i + 1 => if ∃ c ∈ comps n r q i, (i : Int) ∈ c then comps n r q i else comps n r q i ++ [compOf n r q i]
/-- What the components so far have. -/
def Met (n : Int) (r q : List Int) (i : Nat) (x : Int) : Prop := ∃ c ∈ comps n r q i, x ∈ c
end Go.Proofs.Ytlfflmoegfibgaa

/- A part of the proof: P34. No conditions of its own. -/
namespace Go.Proofs.Ytlfflmoegfibgaa
open Go.VL
attribute [local irreducible] VWr VOps VD Calls

set_option maxRecDepth 100000 in
theorem c_l01Own (v : Value) (l : List Int) (w : World) (hv : RdI w v l) (hl : l.length ≤ 1048576) : Calls Try.prog 115 [v].toArray w (Res w (NewI 2 l)) := by
  obtain ⟨a, cap, rfl⟩ := hv.len
  refine calls_of_vw Try.func115 rfl Try.ntmps115 (by simp) ?_
  repeat (first | refine vops_q tyOk rfl ?_ | refine vops_nil ?_ | refine vw_seq ?_ | refine vw_region (by kernel_rfl) ?_)
  refine vops_build0 tyOk rfl rfl (fun be hbe => ?_)
  repeat (first | refine vops_q tyOk rfl ?_)
  refine vops_appendL (k := 1) (q := []) (q2 := l) tyOk rfl rfl (List.cons_ne_nil _ _) rfl rfl (by decide) rfl NewF.empty (by repeat (first | exact pm_here | exact pm_last | apply pm_next | apply pm_past)) rfl (fun w' hg => rdI_F (hv.same hg.fr)) (by omega) (fun p' cap' new' hN' => ?_)
  repeat (first | refine vops_q tyOk rfl ?_ | refine vops_nil ?_ | refine vw_ret ?_)
  refine out1 rfl rfl (SlAt.nodup hN') (by repeat (first | exact sub_hereL | exact sub_refl | apply sub_cons | apply sub_app)) ?_
  have e : NewF 2 1 l.length l (.slice p' (0 + l.length) cap') new' := by
    have := hN'
    rw [Nat.zero_add] at this ⊢
    exact this
  exact e

/-- Two neighbours, changed. -/
def swp (m : List Int) (k : Nat) : List Int := (m.set (k + 1) (m.getD k 0)).set k (m.getD (k + 1) 0)
/-- Sorted as far as i, but for what stands at k. -/
def Srt (m : List Int) (i k : Nat) : Prop := ∀ j j', j < j' → j' ≤ i → j' ≠ k → m.getD j 0 ≤ m.getD j' 0
/-- A new list that is l in order. -/
def SortedI (l : List Int) (v : Value) (new : Own) : Prop := ∃ m p cap, m.Perm l ∧ m.Pairwise (· ≤ ·) ∧ v = .slice p m.length cap ∧ NewI 2 m v new

end Go.Proofs.Ytlfflmoegfibgaa

/- A part of the proof: P24. No conditions of its own. -/
namespace Go.Proofs.Ytlfflmoegfibgaa
open Go.VL
attribute [local irreducible] VWr VOps VD Calls

/-- In how many of the rounds a meets b. -/
def cnt (l : List (List Int)) (a b : Nat) : Nat := if a = b then 0 else (l.filter fun r => decide (r.getD a 0 = (b : Int))).length
theorem cnt_le (l : List (List Int)) (a b : Nat) : cnt l a b ≤ l.length := by
  unfold cnt; split
  · omega
  · exact List.length_filter_le _ _
theorem cnt_snoc (l : List (List Int)) (r : List Int) (a b : Nat) : cnt (l ++ [r]) a b = cnt l a b + (if a ≠ b ∧ r.getD a 0 = (b : Int) then 1 else 0) := by
  unfold cnt
  by_cases hab : a = b
  · simp [hab]
  · rw [if_neg hab, if_neg hab, List.filter_append, List.length_append]
    congr 1
    by_cases hr : r.getD a 0 = (b : Int)
    · rw [if_pos ⟨hab, hr⟩]; simp only [List.filter_cons, decide_eq_true hr, if_true, List.filter_nil, List.length_cons, List.length_nil]
    · rw [if_neg fun h => hr h.2]; simp only [List.filter_cons, decide_eq_false hr, Bool.false_eq_true, if_false, List.filter_nil, List.length_nil]
/-- A table. -/
def tabOf (n : Nat) (g : Nat → Nat → Int) : List (List Int) := (List.range n).map fun a => (List.range n).map fun b => g a b
theorem tabOf_length (n : Nat) (g : Nat → Nat → Int) : (tabOf n g).length = n := by simp [tabOf]
theorem tabOf_get {n : Nat} {g : Nat → Nat → Int} {a : Nat} (h : a < n) : (tabOf n g)[a]? = some ((List.range n).map fun b => g a b) := by simp [tabOf, h]
theorem row_length (n : Nat) (g : Nat → Int) : ((List.range n).map g).length = n := by simp
theorem row_get {n : Nat} {g : Nat → Int} {b : Nat} (h : b < n) : ((List.range n).map g).getD b 0 = g b := by simp [h]
theorem row_set {n : Nat} {g : Nat → Int} {b : Nat} {v : Int} : ((List.range n).map g).set b v = (List.range n).map fun x => if x = b then v else g x := by
  apply List.ext_getElem (by simp)
  intro j h1 h2
  rw [List.getElem_set]
  simp only [List.getElem_map, List.getElem_range]
  by_cases hj : b = j
  · rw [if_pos hj, if_pos hj.symm]
  · rw [if_neg hj, if_neg (Ne.symm hj)]
theorem tabOf_mem {n : Nat} {g : Nat → Nat → Int} {l : List Int} (h : l ∈ tabOf n g) : l.length = n := by
  obtain ⟨a, _, rfl⟩ := List.mem_map.1 h; simp
theorem sumLen_const {k : Nat} : ∀ {ls : List (List Int)}, (∀ l ∈ ls, l.length = k) → sumLen ls = ls.length * k
  | [], _ => by simp [sumLen]
  | l :: ls, h => by
    simp only [sumLen, List.length_cons, h l (by simp), sumLen_const (ls := ls) fun q hq => h q (by simp [hq]), Nat.add_mul]; omega
abbrev meetRow (n : Nat) (l : List (List Int)) (a : Nat) : List Int := (List.range n).map fun b => (cnt l a b : Int)
abbrev meetTab (n : Nat) (l : List (List Int)) : List (List Int) := tabOf n fun a b => (cnt l a b : Int)
theorem meetRow_yes {n : Nat} {l : List (List Int)} {r : List Int} {a b : Nat} (hab : a ≠ b) (hr : r.getD a 0 = (b : Int)) : (meetRow n l a).set b ((cnt l a b : Int) + 1) = meetRow n (l ++ [r]) a := by
  rw [row_set]
  apply List.map_congr_left
  intro x _
  rw [cnt_snoc]
  by_cases hx : x = b
  · subst hx; rw [if_pos rfl, if_pos ⟨hab, hr⟩]; omega
  · rw [if_neg hx, if_neg fun h => hx (by have := h.2; omega)]; omega
theorem meetRow_no {n : Nat} {l : List (List Int)} {r : List Int} {a : Nat} (hr : r.getD a 0 = (a : Int)) : meetRow n (l ++ [r]) a = meetRow n l a := by
  apply List.map_congr_left
  intro x _
  rw [cnt_snoc, if_neg fun h => h.1 (by have := h.2; omega)]; omega
theorem meetRow_nil (n a : Nat) : meetRow n [] a = List.replicate n 0 := by
  apply List.ext_getElem (by simp)
  intro j h1 h2
  simp [cnt]

set_option maxHeartbeats 2000000 in
set_option maxRecDepth 100000 in
theorem c_l01Meetings (k : Nat) (v : Value) (rs : List (List Int)) (hS : IsSch k rs) (w : World) (hv : RdS w v rs) (hr : ∀ r ∈ rs, r.length = 14) :
    Calls Try.prog 151 [.agg #[.int .i64 k, v]].toArray w (Res w (NewLL 38 2 (meetTab k rs))) := by
  obtain ⟨a, cap, rfl⟩ := hv.len
  have hk14 := hS.2.1
  have hk2 := hS.1
  have hl40 := hS.2.2.1
  refine calls_of_vw Try.func151 rfl Try.ntmps151 (by simp) ?_
  refine vw_seq (vw_region (by kernel_rfl) (vops_box [.int .i64 k, .slice a rs.length cap] rfl (fun b0 hb0 => ?_)))
  repeat (first | refine vops_q tyOk rfl ?_ | refine vops_nil ?_ | refine vw_seq ?_ | refine vw_region (by kernel_rfl) ?_)
  refine vops_build0 tyOk rfl rfl (fun be hbe => ?_)
  repeat (first | refine vops_q tyOk rfl ?_ | refine vops_nil ?_ | refine vw_seq ?_ | refine vw_region (by kernel_rfl) ?_ | refine vw_block ?_)
  refine vw_loopW (fun m f own => ∃ (i : Nat) (p : Option Addr) (cp : Nat) (vs : List Value) (ns : List Own) (outer : Own), i ≤ k ∧ m = k - i ∧ f 4 = .int .i64 i ∧ f 1 = .pointer (some ⟨b0, 0, none⟩) ∧ f 3 = .slice p i cp ∧
      Go.VL.RowsAt 2 ((meetTab k rs).take i) vs ns ∧ SlAt 38 1 (.slice p i cp) i vs outer [] ∧ own = outer ++ (ns.flatten ++ [(b0, ⟨[.int .i64 k, .slice a rs.length cap], 32, 2, none⟩)])) k
    ⟨[(be, _)] ++ ([] ++ [(b0, _)]), (by repeat (first | exact ole_nil | exact ole_refl | (apply ole_cons; (repeat (first | exact pm1_here | apply pm1_next | apply pm1_past))) | (apply ole_app; (repeat (first | exact pm_here | exact pm_last | apply pm_next | apply pm_past))))), 0, _, _, [], [], [(be, _)], by omega, by omega, rfl, rfl, rfl, by simp [Go.VL.RowsAt], SlAt.empty, rfl⟩ ?_
  rintro m f own ⟨i, p, cp, vs, ns, outer, hi, rfl, h4, h1, h3, hR, hO, rfl⟩
  rw [upd_of h4, upd_of h1, upd_of h3]
  repeat (first | refine vops_q tyOk rfl ?_ | refine vops_nil ?_ | refine vw_seq ?_ | refine vw_region (by kernel_rfl) ?_ | refine vw_cond rfl ?_ | ((show VOps _ _ _ _ (⟨some _, Go.Op.load _ _, _, _, _, none⟩ :: _) _ _); refine vops_loadM tyOk rfl rfl rfl (by repeat (first | exact mem_here | apply mem_next | apply mem_past)) (by rfl) ?_))
  refine bs_dec (fun hlt => ?_) (fun hlt => ?_)
  · repeat (first | refine vops_q tyOk rfl ?_ | refine vops_nil ?_ | refine vw_seq ?_ | refine vw_region (by kernel_rfl) ?_ | refine vw_skip ?_ | refine vw_block ?_ | refine vops_makeRows (k := 1) (n := k) tyOk rfl rfl rfl (by omega) rfl rfl rfl (by show 8 * _ ≤ _; omega) (by omega) (fun br hbr => ?_) | ((show VOps _ _ _ _ (⟨some _, Go.Op.load _ _, _, _, _, none⟩ :: _) _ _); refine vops_loadM tyOk rfl rfl rfl (by repeat (first | exact mem_here | apply mem_next | apply mem_past)) (by rfl) ?_))
    refine vw_loopW (fun m f own => ∃ (j : Nat), j ≤ rs.length ∧ m = rs.length - j ∧ f 6 = .int .i64 j ∧ f 5 = .slice (some ⟨br, 0, none⟩) k k ∧ f 4 = .int .i64 i ∧ f 1 = .pointer (some ⟨b0, 0, none⟩) ∧ f 3 = .slice p i cp ∧
        own = (br, ⟨ints (meetRow k (rs.take j) i), 2, k * 1, none⟩) :: (outer ++ (ns.flatten ++ [(b0, ⟨[.int .i64 k, .slice a rs.length cap], 32, 2, none⟩)]))) rs.length
      ⟨_, ole_refl, 0, by omega, by omega, rfl, rfl, rfl, rfl, rfl, by rw [List.take_zero, meetRow_nil, Nat.mul_one]⟩ ?_
    rintro m f own ⟨j, hj, rfl, h6, h5, h4, h1, h3, rfl⟩
    rw [upd_of h6, upd_of h5, upd_of h4, upd_of h1, upd_of h3]
    repeat (first | refine vops_q tyOk rfl ?_ | refine vops_nil ?_ | refine vw_seq ?_ | refine vw_region (by kernel_rfl) ?_ | refine vw_cond rfl ?_ | ((show VOps _ _ _ _ (⟨some _, Go.Op.load _ _, _, _, _, none⟩ :: _) _ _); refine vops_loadM tyOk rfl rfl rfl (by repeat (first | exact mem_here | apply mem_next | apply mem_past)) (by rfl) ?_))
    refine bs_dec (fun hlt2 => ?_) (fun hlt2 => ?_)
    · obtain ⟨r, hri⟩ : ∃ r, rs[j]? = some r := ⟨_, List.getElem?_eq_getElem (by omega)⟩
      have hrl := hr r (List.mem_of_getElem? hri)
      have hrd := (hS.2.2.2 j r hri).2.2 i (by omega)
      have hrd2 := hrd.2 (by omega)
      obtain ⟨b2, o, cap', he, hrow⟩ := hv.row hr hri
      cases he
      have hst : rs.take (j + 1) = rs.take j ++ [r] := by rw [List.take_add_one, hri]; rfl
      obtain ⟨y, hy⟩ : ∃ y : Nat, r.getD i 0 = (y : Int) := ⟨(r.getD i 0).toNat, by omega⟩
      have hld : ∀ z, z = (i : Int).toNat → w.cell? ⟨b2, o + j * 14 + z, none⟩ = some (.int .i64 y) := fun z hz => by
        rw [show z = i by omega, ← hy]; exact hrow i _ (ints_get (by omega))
      have hcl := cnt_le (rs.take j) i y
      have hcl2 : (rs.take j).length ≤ 40 := by rw [List.length_take]; omega
      have hrgl : (meetRow k (rs.take j) i).length = k := row_length _ _
      have hcell : (ints (meetRow k (rs.take j) i))[0 + (y : Int).toNat]? = some (.int .i64 (cnt (rs.take j) i y)) := by
        rw [show 0 + (y : Int).toNat = y by omega, ints_get (by rw [row_length]; omega), row_get (by omega)]
      repeat (first | refine vops_q tyOk rfl ?_ | refine vops_nil ?_ | refine vw_seq ?_ | refine vw_region (by kernel_rfl) ?_ | refine vops_p tyOk rfl (by (try simp only [inR]); omega) ?_ | refine vw_cond rfl ?_ | refine vw_skip ?_ | refine vw_block ?_ | refine vops_load tyOk rfl rfl rfl (sees_old (hld _ rfl) (by simp)) ?_ | ((show VOps _ _ _ _ (⟨some _, Go.Op.load _ _, _, _, _, none⟩ :: _) _ _); refine vops_loadM tyOk rfl rfl rfl (by repeat (first | exact mem_here | apply mem_next | apply mem_past)) (by rfl) ?_))
      refine bs_ndec (fun hyi => ?_) (fun hyi => ?_)
      · repeat (first | refine vops_q tyOk rfl ?_ | refine vops_nil ?_ | refine vw_region (by kernel_rfl) ?_ | refine vops_p tyOk rfl (by (try simp only [inR]); omega) ?_ | refine vw_skip ?_)
        refine ⟨rs.length - (j + 1), by omega, _, ole_refl, j + 1, by omega, rfl, rfl, rfl, rfl, rfl, rfl, ?_⟩
        rw [hst, meetRow_no (by omega)]
      · repeat (first | refine vops_q tyOk rfl ?_ | refine vops_nil ?_ | refine vw_region (by kernel_rfl) ?_ | refine vops_p tyOk rfl (by (try simp only [inR]); omega) ?_ | refine vops_loadM tyOk rfl rfl rfl (by repeat (first | exact mem_here | apply mem_next | apply mem_past)) (by exact hcell) ?_ | ((show VOps _ _ _ _ (⟨none, Go.Op.store _ _ _, _, _, _, none⟩ :: _) _ _); refine vops_storeIM tyOk rfl rfl rfl rfl (by repeat (first | exact upd_here | apply upd_next | apply upd_past)) (by omega) ?_))
        refine ⟨rs.length - (j + 1), by omega, _, ole_refl, j + 1, by omega, rfl, rfl, rfl, rfl, rfl, rfl, ?_⟩
        rw [hst, ← meetRow_yes (b := y) (by omega) hy]; rfl
    · obtain rfl : j = rs.length := by omega
      have hget := tabOf_get (n := k) (g := fun a b => (cnt rs a b : Int)) (a := i) (by omega)
      have hst : (meetTab k rs).take (i + 1) = (meetTab k rs).take i ++ [meetRow k rs i] := by rw [List.take_add_one, hget]; rfl
      repeat (first | refine vops_q tyOk rfl ?_ | refine vops_nil ?_ | refine vw_region (by kernel_rfl) ?_ | refine vops_p tyOk rfl (by (try simp only [inR]); omega) ?_ | refine vw_exit ?_ | refine vops_litV tyOk rfl rfl (List.cons_ne_nil _ _) rfl rfl rfl (fun bt hbt => ?_) | refine vops_appendV tyOk rfl rfl (List.cons_ne_nil _ _) rfl rfl (by decide) rfl hO (by repeat (first | exact pm_here | exact pm_last | apply pm_next | apply pm_past)) rfl (by repeat (first | exact mem_here | apply mem_next | apply mem_past)) rfl (by omega) (fun p' cap' outer' hO' => ?_))
      refine ⟨k - (i + 1), by omega, outer' ++ (ns.flatten ++ ((br, ⟨ints (meetRow k (rs.take rs.length) i), 2, k * 1, none⟩) :: [(b0, ⟨[.int .i64 k, .slice a rs.length cap], 32, 2, none⟩)])), (by repeat (first | exact ole_nil | exact ole_refl | (apply ole_cons; (repeat (first | exact pm1_here | apply pm1_next | apply pm1_past))) | (apply ole_app; (repeat (first | exact pm_here | exact pm_last | apply pm_next | apply pm_past))))), i + 1, p', cap', vs ++ [.slice (some ⟨br, 0, none⟩) k k], ns ++ [[(br, ⟨ints (meetRow k (rs.take rs.length) i), 2, k * 1, none⟩)]], outer', by omega, by omega, rfl, rfl, rfl, ?_, hO', ?_⟩
      · rw [hst, List.take_length]
        exact RowsAt.snoc (NewI.lit (n := k) (cap := k) (row_length _ _) (Nat.le_refl _) (by simp only [maxLen]; omega)) hR
      · rw [flat_snoc, List.append_assoc]; rfl
  · obtain rfl : i = k := by omega
    refine vw_nodup (fun hnd => ?_)
    repeat (first | refine vops_q tyOk rfl ?_ | refine vops_nil ?_ | refine vw_seq ?_ | refine vw_region (by kernel_rfl) ?_ | refine vw_ret ?_ | refine vw_exit ?_)
    rw [List.take_of_length_le (by rw [tabOf_length]; omega)] at hR
    exact outLL rfl rfl hR hO (by rw [tabOf_length]) (nodup_sub hnd ((List.sublist_append_left _ _).append_left _)) (fun q hq => by rw [← List.append_assoc]; exact List.mem_append_left _ hq)
end Go.Proofs.Ytlfflmoegfibgaa

/- A part of the proof: P25. No conditions of its own. -/
namespace Go.Proofs.Ytlfflmoegfibgaa
open Go.VL
attribute [local irreducible] VWr VOps VD Calls

theorem cnt_eq (l : List (List Int)) (x y : Nat) : cnt l x y = (l.filter fun r => decide (x ≠ y ∧ r.getD x 0 = (y : Int))).length := by
  unfold cnt
  by_cases h : x = y
  · subst h
    have : (l.filter fun r => decide (x ≠ x ∧ r.getD x 0 = (x : Int))) = [] := List.filter_eq_nil_iff.2 fun r _ => by simp
    rw [if_pos rfl, this]; rfl
  · rw [if_neg h]
    congr 1
    apply List.filter_congr
    intro r _
    simp [h]
/-- How often x and y are a pair. -/
def hits (ps : List (List Int)) (x y : Nat) : Nat := (ps.filter fun p => decide ((p.getD 0 0 = (x : Int) ∧ p.getD 1 0 = (y : Int)) ∨ (p.getD 0 0 = (y : Int) ∧ p.getD 1 0 = (x : Int)))).length
theorem hits_le (ps : List (List Int)) (x y : Nat) : hits ps x y ≤ ps.length := List.length_filter_le _ _
theorem hits_snoc (ps : List (List Int)) (a b : Int) (x y : Nat) : hits (ps ++ [[a, b]]) x y = hits ps x y + (if (a = (x : Int) ∧ b = (y : Int)) ∨ (a = (y : Int) ∧ b = (x : Int)) then 1 else 0) := by
  unfold hits
  rw [List.filter_append, List.length_append]
  congr 1
  by_cases h : (a = (x : Int) ∧ b = (y : Int)) ∨ (a = (y : Int) ∧ b = (x : Int))
  · rw [if_pos h, List.filter_cons, if_pos (decide_eq_true (by simpa using h))]; rfl
  · rw [if_neg h, List.filter_cons, if_neg (by simpa using h)]; rfl
theorem hits_to (r : List Int) (x y : Nat) : ∀ k : Nat, hits (pairsTo r k) x y = (if x < k ∧ (x : Int) < r.getD x 0 ∧ r.getD x 0 = (y : Int) then 1 else 0) + (if y < k ∧ (y : Int) < r.getD y 0 ∧ r.getD y 0 = (x : Int) then 1 else 0)
  | 0 => by simp [pairsTo, hits]
  | k + 1 => by
    have ih := hits_to r x y k
    by_cases hk : (k : Int) < r.getD k 0
    · rw [pairsTo_yes hk, hits_snoc, ih]
      by_cases hx : x = k
      · subst hx
        by_cases hy : y = x
        · subst hy; repeat' split
          all_goals omega
        · repeat' split
          all_goals omega
      · by_cases hy : y = k
        · subst hy; repeat' split
          all_goals omega
        · repeat' split
          all_goals omega
    · rw [pairsTo_no hk, ih]
      by_cases hx : x = k
      · subst hx
        by_cases hy : y = x
        · subst hy; repeat' split
          all_goals omega
        · repeat' split
          all_goals omega
      · by_cases hy : y = k
        · subst hy; repeat' split
          all_goals omega
        · repeat' split
          all_goals omega
theorem hits_round {n : Int} {r : List Int} (h : IsRd n r) {x y : Nat} (hx : (x : Int) < n) (hy : (y : Int) < n) : hits (pairsTo r n.toNat) x y = if x ≠ y ∧ r.getD x 0 = (y : Int) then 1 else 0 := by
  have h14 := h.2.1
  have ax := (h.2.2 x (by omega)).2 hx
  have ay := (h.2.2 y (by omega)).2 hy
  have i1 : r.getD x 0 = (y : Int) → r.getD y 0 = (x : Int) := fun e => by
    have := ax.2.2; rw [e] at this; simpa using this
  have i2 : r.getD y 0 = (x : Int) → r.getD x 0 = (y : Int) := fun e => by
    have := ay.2.2; rw [e] at this; simpa using this
  rw [hits_to]
  by_cases e : r.getD x 0 = (y : Int)
  · have e2 := i1 e
    repeat' split
    all_goals omega
  · have e2 : ¬ r.getD y 0 = (x : Int) := fun h => e (i2 h)
    repeat' split
    all_goals omega

/-! sums -/
def sumF (f : Nat → Int) : Nat → Nat → Int
  | _, 0 => 0
  | s, n + 1 => f s + sumF f (s + 1) n
theorem sumF_congr {f g : Nat → Int} : ∀ (n s : Nat), (∀ i, s ≤ i → f i = g i) → sumF f s n = sumF g s n
  | 0, _, _ => rfl
  | n + 1, s, h => by rw [sumF, sumF, h s (Nat.le_refl _), sumF_congr n (s + 1) fun i hi => h i (by omega)]
theorem sumF_one {f g : Nat → Int} {j : Nat} (h : ∀ i, i ≠ j → g i = f i) : ∀ (n s : Nat), s ≤ j → j < s + n → sumF g s n = sumF f s n + (g j - f j)
  | 0, s, h1, h2 => by omega
  | n + 1, s, h1, h2 => by
    rw [sumF, sumF]
    by_cases hs : s = j
    · subst hs
      rw [sumF_congr (f := g) (g := f) n (s + 1) fun i hi => h i (by omega)]; omega
    · rw [h s hs, sumF_one h n (s + 1) (by omega) (by omega)]; omega
theorem sumF_le {f g : Nat → Int} (h : ∀ i, f i ≤ g i) : ∀ (n s : Nat), sumF f s n ≤ sumF g s n
  | 0, _ => Int.le_refl _
  | n + 1, s => by have := sumF_le h n (s + 1); have := h s; simp only [sumF]; omega
theorem sumF_zero : ∀ (n s : Nat), sumF (fun _ => 0) s n = 0
  | 0, _ => rfl
  | n + 1, s => by simp only [sumF, sumF_zero n (s + 1)]; omega
def sumL : List Int → Int
  | [] => 0
  | x :: l => x + sumL l
theorem sumF_list {f : Nat → Int} : ∀ (l : List Int) (s : Nat), (∀ (i : Nat) (e : Int), l[i]? = some e → f (s + i) = e) → sumF f s l.length = sumL l
  | [], _, _ => rfl
  | x :: l, s, h => by
    show f s + sumF f (s + 1) l.length = x + sumL l
    rw [sumF_list l (s + 1) fun i e hi => by have := h (i + 1) e (by simpa using hi); rwa [show s + (i + 1) = s + 1 + i by omega] at this]
    have := h 0 x rfl
    rw [Nat.add_zero] at this
    rw [this]
theorem sumL_app : ∀ (a b : List Int), sumL (a ++ b) = sumL a + sumL b
  | [], b => by simp [sumL]
  | x :: a, b => by simp only [List.cons_append, sumL, sumL_app a b]; omega
theorem sumL_set : ∀ (l : List Int) (i : Nat) (x e : Int), l[i]? = some e → sumL (l.set i x) = sumL l + (x - e)
  | [], i, x, e, h => by simp at h
  | y :: l, 0, x, e, h => by
    have : y = e := by simpa using h
    subst this; simp only [List.set_cons_zero, sumL]; omega
  | y :: l, i + 1, x, e, h => by
    simp only [List.set_cons_succ, sumL, sumL_set l i x e (by simpa using h)]; omega
/-- What the entries with F tell, together. -/
def wts (F : List Int → Bool) (es : Ents) : List Int := es.map fun e => if F e.1 then e.2 else 0
theorem wts_laid (F : List Int → Bool) (es : Ents) (k : List Int) : sumL (wts F (es.laid k)) = sumL (wts F es) := by
  unfold Ents.laid
  split
  · rfl
  · unfold wts
    rw [List.map_append, sumL_app]; simp [sumL]
theorem wts_incr (F : List Int → Bool) (es : Ents) (k : List Int) : sumL (wts F (incr es k)) = sumL (wts F es) + (if F k then 1 else 0) := by
  have h := laid_at es k
  unfold incr
  have hm : wts F ((es.laid k).set (es.at k) (k, es.get k + 1)) = (wts F (es.laid k)).set (es.at k) (if F k then es.get k + 1 else 0) := by
    unfold wts; rw [List.map_set]
  rw [hm, sumL_set _ _ _ (if F k then es.get k else 0) (by unfold wts; rw [List.getElem?_map, h]; rfl), wts_laid]
  split <;> omega
theorem wts_foldl (F : List Int → Bool) : ∀ (rs : List (List Int)) (es : Ents), sumL (wts F (rs.foldl incr es)) = sumL (wts F es) + ((rs.filter F).length : Int)
  | [], es => by simp
  | r :: rs, es => by
    rw [List.foldl_cons, wts_foldl F rs, wts_incr, List.filter_cons]
    split <;> simp <;> omega
theorem wts_tally (F : List Int → Bool) (rs : List (List Int)) : sumL (wts F (tally rs)) = ((rs.filter F).length : Int) := by
  have := wts_foldl F rs []
  simpa [tally, wts, sumL] using this
/-- What the entry j adds to the place x, y. -/
def wt (es : Ents) (x y j : Nat) : Int := (wts (fun r => decide (x ≠ y ∧ r.getD x 0 = (y : Int))) es).getD j 0
/-- .. and the entries seen. -/
def seenSum (es : Ents) (seen : Array Nat) (x y : Nat) : Int := sumF (fun j => if seen.contains j then wt es x y j else 0) 0 es.length
theorem wt_at {es : Ents} {x y j : Nat} {r : List Int} {c : Int} (h : es[j]? = some (r, c)) : wt es x y j = if x ≠ y ∧ r.getD x 0 = (y : Int) then c else 0 := by
  unfold wt wts
  rw [List.getD_eq_getElem?_getD, List.getElem?_map, h]
  simp only [Option.map_some, Option.getD_some, decide_eq_true_eq]
theorem wt_none {es : Ents} {x y j : Nat} (h : es[j]? = none) : wt es x y j = 0 := by
  unfold wt wts
  rw [List.getD_eq_getElem?_getD, List.getElem?_map, h]; rfl
theorem wt_pos {rs : List (List Int)} (x y j : Nat) : 0 ≤ wt (tally rs) x y j := by
  cases h : (tally rs)[j]? with
  | none => rw [wt_none h]; omega
  | some e =>
    obtain ⟨r, c⟩ := e
    have := (tally_keys (List.mem_of_getElem? h)).2.1
    rw [wt_at h]; split <;> omega
theorem sum_all (rs : List (List Int)) (x y : Nat) : sumF (wt (tally rs) x y) 0 (tally rs).length = (cnt rs x y : Int) := by
  have h := sumF_list (f := wt (tally rs) x y) (wts (fun r => decide (x ≠ y ∧ r.getD x 0 = (y : Int))) (tally rs)) 0 (fun i e hi => by
    unfold wt; rw [Nat.zero_add, List.getD_eq_getElem?_getD, hi]; rfl)
  rw [show (wts (fun r => decide (x ≠ y ∧ r.getD x 0 = (y : Int))) (tally rs)).length = (tally rs).length by simp [wts]] at h
  rw [h, wts_tally, cnt_eq]
theorem seenSum_all {rs : List (List Int)} {seen : Array Nat} (h : ∀ m, m < (tally rs).length → seen.contains m = true) (x y : Nat) : seenSum (tally rs) seen x y = (cnt rs x y : Int) := by
  rw [← sum_all]
  unfold seenSum
  refine sumF_congr _ _ fun i _ => ?_
  by_cases hi : i < (tally rs).length
  · rw [if_pos (h i hi)]
  · rw [wt_none (List.getElem?_eq_none (by omega)), ite_self]
theorem seenSum_le (rs : List (List Int)) (seen : Array Nat) (x y : Nat) : 0 ≤ seenSum (tally rs) seen x y ∧ seenSum (tally rs) seen x y ≤ rs.length := by
  constructor
  · rw [← sumF_zero (tally rs).length 0]
    refine sumF_le (fun i => ?_) _ _
    have := wt_pos (rs := rs) x y i
    split <;> omega
  · have h1 : seenSum (tally rs) seen x y ≤ sumF (wt (tally rs) x y) 0 (tally rs).length := sumF_le (fun i => by
      have := wt_pos (rs := rs) x y i
      split <;> omega) _ _
    rw [sum_all] at h1
    have := cnt_le rs x y
    omega
theorem seenSum_push {rs : List (List Int)} {seen : Array Nat} {j : Nat} (hj : j < (tally rs).length) (hs : seen.contains j = false) (x y : Nat) : seenSum (tally rs) (seen.push j) x y = seenSum (tally rs) seen x y + wt (tally rs) x y j := by
  unfold seenSum
  rw [sumF_one (f := fun j => if seen.contains j then wt (tally rs) x y j else 0) (j := j) (fun i hi => by
    show (if (seen.push j).contains i then _ else _) = (if seen.contains i then _ else _)
    rw [contains_push]; simp [hi]) _ _ (Nat.zero_le _) (by omega)]
  have h1 : (seen.push j).contains j = true := by rw [contains_push]; simp
  simp only [h1, hs, if_true, Bool.false_eq_true, if_false]; omega
theorem seenSum_none (es : Ents) (x y : Nat) : seenSum es #[] x y = 0 :=
  (sumF_congr (g := fun _ => 0) es.length 0 fun i _ => by simp).trans (sumF_zero es.length 0)
theorem tabOf_congr {n : Nat} {f g : Nat → Nat → Int} (h : ∀ x y, x < n → y < n → f x y = g x y) : tabOf n f = tabOf n g := by
  unfold tabOf
  apply List.map_congr_left
  intro x hx
  apply List.map_congr_left
  intro y hy
  exact h x y (List.mem_range.1 hx) (List.mem_range.1 hy)
theorem tabOf_set {n : Nat} {g : Nat → Nat → Int} {a b : Nat} {v : Int} : (tabOf n g).set a (((List.range n).map fun y => g a y).set b v) = tabOf n fun x y => if x = a ∧ y = b then v else g x y := by
  rw [row_set]
  apply List.ext_getElem (by simp [tabOf])
  intro i h1 h2
  rw [List.getElem_set]
  simp only [tabOf, List.getElem_map, List.getElem_range]
  by_cases hi : a = i
  · subst hi; simp
  · rw [if_neg hi]
    apply List.map_congr_left
    intro y _
    rw [if_neg fun h => hi h.1.symm]

/-! a table of one's own -/
def TabAt (ei : Nat) (tab : List (List Int)) (vs : List Value) (own : Own) : Prop := ∃ ns, Go.VL.RowsAt ei tab vs ns ∧ own.Perm ns.flatten
theorem TabAt.row {ei : Nat} {tab : List (List Int)} {vs : List Value} {own : Own} (h : TabAt ei tab vs own) {i : Nat} {row : List Int} (hi : tab[i]? = some row) (h0 : 0 < row.length) :
    ∃ br cap R, vs[i]? = some (.slice (some ⟨br, 0, none⟩) row.length cap) ∧ own.Perm ((br, ⟨ints row, ei, cap * 1, none⟩) :: R) ∧ row.length ≤ cap ∧ ∀ row' : List Int, row'.length = row.length → TabAt ei (tab.set i row') vs ((br, ⟨ints row', ei, cap * 1, none⟩) :: R) := by
  obtain ⟨ns, hR, hp⟩ := h
  obtain ⟨u, n, ns1, ns2, h1, rfl, h3, h4⟩ := RowsAt.split hR hi
  obtain ⟨p, cap, rfl⟩ := SlAt.form h3
  obtain ⟨br, rfl, rfl, hc1, hc2, _⟩ := NewF.blk (NewI.f h3) h0
  refine ⟨br, cap, ns1.flatten ++ ns2.flatten, h1, hp.trans ?_, hc1, fun row' hl => ⟨ns1 ++ [(br, ⟨ints row', ei, cap * 1, none⟩)] :: ns2, h4 _ _ ?_, ?_⟩⟩
  · rw [List.flatten_append, List.flatten_cons]; exact List.perm_middle
  · rw [← hl] at hc1 ⊢; exact NewI.lit rfl hc1 hc2
  · rw [List.flatten_append, List.flatten_cons]; exact List.perm_middle.symm
theorem perm_front {x y : Nat × Blk} {A R S C : Own} (h : (x :: R).Perm (y :: S)) : (x :: (A ++ (R ++ C))).Perm (y :: (A ++ (S ++ C))) :=
  (List.perm_middle (l₁ := A)).symm.trans (((h.append_right C).append_left A).trans (List.perm_middle (l₁ := A)))
theorem perm_pull {x : Nat × Blk} {X A R C : Own} (h : X.Perm (x :: R)) : (A ++ (X ++ C)).Perm (x :: (A ++ (R ++ C))) :=
  ((h.append_right C).append_left A).trans (List.perm_middle (l₁ := A))
end Go.Proofs.Ytlfflmoegfibgaa

/- A part of the proof: P26. No conditions of its own. -/
namespace Go.Proofs.Ytlfflmoegfibgaa
open Go.VL
attribute [local irreducible] VWr VOps VD Calls

theorem rd_le {n : Int} {r : List Int} (h : IsRd n r) {a : Nat} (ha : (a : Int) < n) : 0 ≤ r.getD a 0 ∧ r.getD a 0 < n := by
  have := (h.2.2 a (by have := h.2.1; omega)).2 ha
  omega
theorem mem_pairs {r p : List Int} {k : Nat} (h : p ∈ pairsTo r k) : ∃ a : Nat, a < k ∧ (a : Int) < r.getD a 0 ∧ p = [(a : Int), r.getD a 0] := by
  obtain ⟨a, ha, rfl⟩ := List.mem_map.1 h
  have := List.mem_filter.1 ha
  exact ⟨a, List.mem_range.1 this.1, by simpa using this.2, rfl⟩
theorem vals_get {vs : List Value} {i : Nat} {u : Value} {z : Nat} (h : vs[i]? = some u) (hz : z = i) : vs[z]? = some u := by subst hz; exact h

/-- The table when q pairs of the entry have been counted. -/
def pairG (rs : List (List Int)) (seen : Array Nat) (c : Int) (key : List Int) (n q : Nat) (x y : Nat) : Int := seenSum (tally rs) seen x y + c * (hits ((pairsTo key n).take q) x y : Int)
theorem mul_bound {c : Int} {h : Nat} (h0 : 0 ≤ c) (h1 : c ≤ 40) (h2 : h ≤ 14) : 0 ≤ c * (h : Int) ∧ c * (h : Int) ≤ 560 := by
  refine ⟨Int.mul_nonneg h0 (by omega), ?_⟩
  have : c * (h : Int) ≤ 40 * 14 := Int.mul_le_mul h1 (by omega) (by omega) (by omega)
  omega
theorem pairG_bound {rs : List (List Int)} {seen : Array Nat} {c : Int} {key : List Int} {n q : Nat} (x y : Nat) (hl : rs.length ≤ 40) (h0 : 0 ≤ c) (h1 : c ≤ 40) (hn : n ≤ 14) : 0 ≤ pairG rs seen c key n q x y ∧ pairG rs seen c key n q x y ≤ 600 := by
  have a := seenSum_le rs seen x y
  have b := mul_bound (h := hits ((pairsTo key n).take q) x y) h0 h1 (by
    have h1 := hits_le ((pairsTo key n).take q) x y
    have h2 := pairsTo_le key n
    have h3 : ((pairsTo key n).take q).length ≤ (pairsTo key n).length := by rw [List.length_take]; omega
    omega)
  unfold pairG; omega
theorem pairG_zero (rs : List (List Int)) (seen : Array Nat) (c : Int) (key : List Int) (n x y : Nat) : pairG rs seen c key n 0 x y = seenSum (tally rs) seen x y := by
  unfold pairG; simp [hits]
theorem pairG_step {rs : List (List Int)} {seen : Array Nat} {c : Int} {key : List Int} {n q a b : Nat} (hst : (pairsTo key n).take (q + 1) = (pairsTo key n).take q ++ [[(a : Int), (b : Int)]]) (hab : a ≠ b) {g1 : Nat → Nat → Int}
    (h1 : g1 = fun x z => if x = a ∧ z = b then pairG rs seen c key n q a b + c else pairG rs seen c key n q x z) (x z : Nat) :
    (if x = b ∧ z = a then g1 b a + c else g1 x z) = pairG rs seen c key n (q + 1) x z := by
  have key1 : pairG rs seen c key n (q + 1) x z = pairG rs seen c key n q x z + (if ((a : Int) = (x : Int) ∧ (b : Int) = (z : Int)) ∨ ((a : Int) = (z : Int) ∧ (b : Int) = (x : Int)) then c else 0) := by
    unfold pairG
    rw [hst, hits_snoc]
    by_cases hc : ((a : Int) = (x : Int) ∧ (b : Int) = (z : Int)) ∨ ((a : Int) = (z : Int) ∧ (b : Int) = (x : Int))
    · rw [if_pos hc, if_pos hc]; push_cast; rw [Int.mul_add, Int.mul_one]; omega
    · rw [if_neg hc, if_neg hc]; simp
  rw [key1]
  subst h1
  by_cases h2 : x = b ∧ z = a
  · obtain ⟨rfl, rfl⟩ := h2
    rw [if_pos ⟨rfl, rfl⟩, if_pos (by omega)]
    show (if x = z ∧ z = x then _ else _) + c = _
    rw [if_neg (by omega)]
  · rw [if_neg h2]
    show (if x = a ∧ z = b then _ else _) = _
    by_cases h3 : x = a ∧ z = b
    · obtain ⟨rfl, rfl⟩ := h3
      rw [if_pos ⟨rfl, rfl⟩, if_pos (by omega)]
    · rw [if_neg h3, if_neg (by omega)]; omega

set_option maxHeartbeats 4000000 in
set_option maxRecDepth 100000 in
theorem c_meetingTable (k : Nat) (v : Value) (rs : List (List Int)) (hS : IsSch k rs) (w : World) (hv : RdS w v rs) (hr : ∀ r ∈ rs, r.length = 14) :
    Calls Try.prog 96 [.agg #[.int .i64 k, v]].toArray w (Res w (NewLL 38 2 (meetTab k rs))) := by
  obtain ⟨a, cap, rfl⟩ := hv.len
  have hk14 := hS.2.1
  have hk2 := hS.1
  have hl40 := hS.2.2.1
  refine calls_of_vw Try.func96 rfl Try.ntmps96 (by simp) ?_
  refine vw_seq (vw_region (by kernel_rfl) (vops_box [.int .i64 k, .slice a rs.length cap] rfl (fun b1 hb1 => ?_)))
  repeat (first | refine vops_q tyOk rfl ?_ | refine vops_nil ?_ | refine vw_seq ?_ | refine vw_region (by kernel_rfl) ?_ | ((show VOps _ _ _ _ (⟨some _, Go.Op.load _ _, _, _, _, none⟩ :: _) _ _); refine vops_loadM tyOk rfl rfl rfl (by repeat (first | exact mem_here | apply mem_next | apply mem_past)) (by rfl) ?_))
  refine vops_make (n := k) tyOk rfl rfl (List.cons_ne_nil _ _) rfl rfl (by show 24 * _ ≤ _; omega) (by omega) (fun bo hbo => ?_)
  have hmade : (madeCells ([Value.slice none 0 0] : List Value).toArray (k * 1)).toList = List.replicate k (Value.slice none 0 0) := by
    rw [Nat.mul_one]; exact made_same _ 1 _ (by omega)
  repeat (first | refine vops_q tyOk rfl ?_ | refine vops_nil ?_ | refine vw_seq ?_ | refine vw_region (by kernel_rfl) ?_ | refine vw_block ?_ | refine vops_allocZ [.slice none 0 0] tyOk rfl rfl (by simp) (fun b3 hb3 => ?_) | ((show VOps _ _ _ _ (⟨some _, Go.Op.load _ _, _, _, _, none⟩ :: _) _ _); refine vops_loadM tyOk rfl rfl rfl (by repeat (first | exact mem_here | apply mem_next | apply mem_past)) (by rfl) ?_) | ((show VOps _ _ _ _ (⟨none, Go.Op.store _ _ _, _, _, _, none⟩ :: _) _ _); refine vops_storeM tyOk rfl rfl rfl rfl rfl (by repeat (first | exact upd_here | apply upd_next | apply upd_past)) (by simp) ?_))
  refine vw_loopW (fun m f own => ∃ (i : Nat) (vs : List Value) (ns : List Own), i ≤ k ∧ m = k - i ∧ f 14 = .int .i64 i ∧ f 13 = .int .i64 k ∧ f 1 = .pointer (some ⟨b1, 0, none⟩) ∧ f 3 = .pointer (some ⟨b3, 0, none⟩) ∧ Go.VL.RowsAt 2 ((tabOf k fun _ _ => 0).take i) vs ns ∧
      own = (b3, ⟨[.slice (some ⟨bo, 0, none⟩) k k], 25, 1, none⟩) :: (bo, ⟨vs ++ List.replicate (k - i) (.slice none 0 0), 38, k * 1, none⟩) :: (ns.flatten ++ [(b1, ⟨[.int .i64 k, .slice a rs.length cap], 32, 2, none⟩)])) k
    ⟨_, ole_refl, 0, [], [], by omega, by omega, rfl, rfl, rfl, rfl, by simp [Go.VL.RowsAt], by rw [List.nil_append, Nat.sub_zero, ← hmade]; rfl⟩ ?_
  · rintro m f own ⟨i, vs, ns, hi, rfl, h14, h13, h1, h3, hR, rfl⟩
    rw [upd_of h14, upd_of h13, upd_of h1, upd_of h3]
    have hvl : vs.length = i := by rw [hR.len.1, List.length_take, tabOf_length, Nat.min_eq_left hi]
    repeat (first | refine vops_q tyOk rfl ?_ | refine vops_nil ?_ | refine vw_seq ?_ | refine vw_region (by kernel_rfl) ?_ | refine vw_cond rfl ?_)
    refine bs_dec (fun h5 => ?_) (fun h5 => ?_)
    · have hrep : List.replicate (k - i) (Value.slice none 0 0) = .slice none 0 0 :: List.replicate (k - (i + 1)) (.slice none 0 0) := by
        rw [show k - i = (k - (i + 1)) + 1 by omega, List.replicate_succ]
      have hst : (tabOf k fun _ _ => 0).take (i + 1) = (tabOf k fun _ _ => 0).take i ++ [List.replicate k 0] := by
        rw [List.take_add_one, tabOf_get (by omega)]
        have : ((List.range k).map fun _ => (0 : Int)) = List.replicate k 0 := by
          apply List.ext_getElem (by simp)
          intro j h1 h2; simp
        rw [this]; rfl
      have hidx : 0 + (i : Int).toNat = i := by omega
      repeat (first | refine vops_q tyOk rfl ?_ | refine vops_nil ?_ | refine vw_seq ?_ | refine vw_region (by kernel_rfl) ?_ | refine vw_skip ?_ | refine vw_block ?_)
      refine vw_draw [0, 1, 2, 3, 4, 5, 6] (by kernel_rfl) (by kernel_rfl) (by kernel_rfl) rfl ?_
      repeat' (first | refine vd_q tyOk rfl (by first | trivial | rfl) rfl (by kernel_rfl) (by kernel_rfl) ?_ | refine vd_p tyOk rfl (by first | trivial | rfl) rfl (by kernel_rfl) (by kernel_rfl) (by (try simp only [inR]); omega) ?_ | refine vops_nil ?_ | refine vd_nil (by kernel_rfl) ?_ | refine ⟨fun _ _ _ h => List.mem_cons_of_mem _ h, ?_⟩ | refine vd_load tyOk rfl (by first | trivial | rfl) rfl rfl rfl (by kernel_rfl) (by kernel_rfl) (by kernel_rfl) (sees_mem (by repeat (first | exact mem_here | apply mem_next | apply mem_past)) (by rfl)) (by repeat (first | exact sub_hereL | exact sub_refl | apply sub_cons | apply sub_app)) ?_ | refine ⟨fun h => Bool.noConfusion (show false = true from h), ?_⟩ | refine vops_makeRows (k := 1) (n := k) tyOk rfl rfl rfl (by omega) rfl rfl rfl (by show 8 * _ ≤ _; omega) (by omega) (fun br hbr => ?_) | refine vops_storeM (o := i) tyOk rfl rfl (by exact congrArg (fun x => Value.pointer (some ⟨bo, x, none⟩)) hidx) rfl rfl (by repeat (first | exact upd_here | apply upd_next | apply upd_past)) (by rw [List.length_append, List.length_replicate]; omega) ?_ | refine vd_one rfl (by kernel_rfl) (by kernel_rfl) rfl ?_)
      repeat (first | refine vops_q tyOk rfl ?_ | refine vops_nil ?_ | refine vw_region (by kernel_rfl) ?_ | refine vops_p tyOk rfl (by (try simp only [inR]); omega) ?_)
      have hz : List.replicate (k * 1) (0 : Int) = List.replicate k 0 := by rw [Nat.mul_one]
      rw [hz]
      refine ⟨k - (i + 1), by omega, (b3, ⟨[.slice (some ⟨bo, 0, none⟩) k k], 25, 1, none⟩) :: (bo, ⟨(vs ++ [.slice (some ⟨br, 0, none⟩) k k]) ++ List.replicate (k - (i + 1)) (.slice none 0 0), 38, k * 1, none⟩) :: (ns.flatten ++ ((br, ⟨ints (List.replicate k 0), 2, k * 1, none⟩) :: [(b1, ⟨[.int .i64 k, .slice a rs.length cap], 32, 2, none⟩)])), ?_, i + 1, vs ++ [.slice (some ⟨br, 0, none⟩) k k], ns ++ [[(br, ⟨ints (List.replicate k 0), 2, k * 1, none⟩)]], by omega, rfl, rfl, rfl, rfl, rfl, ?_, by rw [flat_snoc, List.append_assoc ns.flatten]; rfl⟩
      · rw [hrep, set_next hvl]; exact (by repeat (first | exact ole_nil | exact ole_refl | (apply ole_cons; (repeat (first | exact pm1_here | apply pm1_next | apply pm1_past))) | (apply ole_app; (repeat (first | exact pm_here | exact pm_last | apply pm_next | apply pm_past)))))
      · rw [hst]; exact RowsAt.snoc (NewI.lit (n := k) (cap := k) (by simp) (Nat.le_refl _) (by simp only [maxLen]; omega)) hR
    · obtain rfl : i = k := by omega
      rw [Nat.sub_self, List.replicate_zero, List.append_nil]
      rw [List.take_of_length_le (by rw [tabOf_length]; omega)] at hR
      repeat (first | refine vops_q tyOk rfl ?_ | refine vw_seq ?_ | refine vw_region (by kernel_rfl) ?_ | refine vw_exit ?_ | (apply vops_call ent138 rfl; (intro w' hg; exact c_timesOfRounds _ rs w' (hv.same hg.fr) hr (by omega)); (rintro _ newN ⟨bm, rfl, rfl⟩)) | ((show VOps _ _ _ _ (⟨some _, Go.Op.load _ _, _, _, _, none⟩ :: _) _ _); refine vops_loadM tyOk rfl rfl rfl (by repeat (first | exact mem_here | apply mem_next | apply mem_past)) (by rfl) ?_))
      refine vops_range 0 mapT rfl rfl (fun bi hbi => ?_)
      repeat (first | refine vops_nil ?_ | refine vw_block ?_)
      have hT0 : TabAt 2 (tabOf i fun x y => seenSum (tally rs) #[] x y) vs ns.flatten := ⟨ns, by rw [tabOf_congr (g := fun _ _ => 0) fun x y _ _ => seenSum_none _ x y]; exact hR, List.Perm.refl _⟩
      refine vw_loopW (fun m f own => ∃ (seen : Array Nat) (X : Own), m = ((List.range (tally rs).length).filter (fun j => !seen.contains j)).length ∧ f 27 = .pointer (some ⟨bi, 0, none⟩) ∧ f 1 = .pointer (some ⟨b1, 0, none⟩) ∧ f 3 = .pointer (some ⟨b3, 0, none⟩) ∧ TabAt 2 (tabOf i fun x y => seenSum (tally rs) seen x y) vs X ∧
          own = (bi, ⟨[], 0, 0, some (itObj bm (tally rs) seen)⟩) :: (bm, ⟨[], 0, 0, some (mapObj (tally rs))⟩) :: (b3, ⟨[.slice (some ⟨bo, 0, none⟩) i i], 25, 1, none⟩) :: (bo, ⟨vs, 38, i * 1, none⟩) :: (X ++ [(b1, ⟨[.int .i64 i, .slice a rs.length cap], 32, 2, none⟩)])) _
        ⟨_, ole_refl, #[], ns.flatten, rfl, rfl, rfl, rfl, hT0, rfl⟩ ?_
      rintro m f own ⟨seen, X, rfl, h27, h1, h3, hTab, rfl⟩
      rw [upd_of h27, upd_of h1, upd_of h3]
      refine vw_seq (vw_region (by kernel_rfl) (vops_next 1 0 rfl rfl rfl (fun hseen => ?_) (fun j key c hj hjs => ?_)))
      · refine vops_nodup (fun hnd => ?_)
        repeat (first | refine vops_q tyOk rfl ?_ | refine vops_nil ?_ | refine vw_seq ?_ | refine vw_region (by kernel_rfl) ?_ | with_reducible refine bs_false ?_ | refine vw_cond rfl ?_ | refine vw_ret ?_ | refine vw_exit ?_ | ((show VOps _ _ _ _ (⟨some _, Go.Op.load _ _, _, _, _, none⟩ :: _) _ _); refine vops_loadM tyOk rfl rfl rfl (by repeat (first | exact mem_here | apply mem_next | apply mem_past)) (by rfl) ?_))
        obtain ⟨ns', hR', hp'⟩ := hTab
        have e : (tabOf i fun x y => seenSum (tally rs) seen x y) = meetTab i rs := tabOf_congr fun x y _ _ => seenSum_all hseen x y
        rw [e] at hR'
        have hpp : ([(bo, (⟨vs, 38, i * 1, none⟩ : Blk))] ++ ns'.flatten).Perm ((bo, ⟨vs, 38, i * 1, none⟩) :: X) := List.Perm.cons _ hp'.symm
        refine outLL (outer := [(bo, ⟨vs, 38, i * 1, none⟩)]) rfl rfl hR' ⟨by rw [hvl, Nat.mul_one], .inr ⟨bo, i, rfl, Nat.le_refl _, by simp only [maxLen]; omega, rfl⟩⟩ (by rw [tabOf_length]) ?_ (fun q hq => ?_)
        · refine (hpp.map Prod.fst).nodup_iff.2 (nodup_sub hnd ?_)
          exact ((List.sublist_append_left X _).cons_cons _).cons _ |>.cons _ |>.cons _
        · have := hpp.mem_iff.1 hq
          rcases List.mem_cons.1 this with h | h
          · rw [h]; simp
          · simp [h]
      have hkm := (tally_keys (List.mem_of_getElem? hj))
      have hkl := hr key hkm.1
      obtain ⟨jr, hjr⟩ := List.mem_iff_getElem?.1 hkm.1
      have hkr := hS.2.2.2 jr key hjr
      have hlj : j < (tally rs).length := (List.getElem?_eq_some_iff.1 hj).1
      have hc0 : 0 ≤ c := hkm.2.1
      have hc40 : c ≤ 40 := by have := hkm.2.2; simp only at this; omega
      repeat (first | refine vops_q tyOk rfl ?_ | refine vops_nil ?_ | refine vw_seq ?_ | refine vw_region (by kernel_rfl) ?_ | with_reducible refine bs_true ?_ | refine vw_cond rfl ?_ | refine vw_skip ?_ | refine vw_block ?_ | refine vops_entry 1 0 rfl rfl rfl hj ?_ | refine vops_allocZ (ints (List.replicate 14 0)) tyOk rfl rfl (by simp [ints]) (fun b5 hb5 => ?_) | refine vops_allocZ [.int .i64 0] tyOk rfl rfl (by simp) (fun b6 hb6 => ?_) | refine vops_loadNM tyOk rfl rfl rfl (by repeat (first | exact mem_here | apply mem_next | apply mem_past)) (by rw [ints_length]; exact hkl) ?_ | (apply vops_call ent145 rfl; (intro w' hg; exact c_pairsIn i key w'); (rintro _ newN ⟨b2, b4, rfl, rfl, hne⟩)) | ((show VOps _ _ _ _ (⟨some _, Go.Op.load _ _, _, _, _, none⟩ :: _) _ _); refine vops_loadM tyOk rfl rfl rfl (by repeat (first | exact mem_here | apply mem_next | apply mem_past)) (by rfl) ?_) | ((show VOps _ _ _ _ (⟨none, Go.Op.store _ _ _, _, _, _, none⟩ :: _) _ _); first | refine vops_storeM tyOk rfl rfl rfl rfl rfl (by repeat (first | exact upd_here | apply upd_next | apply upd_past)) (by simp) ?_ | refine vops_storeAM tyOk rfl rfl rfl (by first | rfl | (rw [ints_length]; first | assumption | omega | (rw [ints_length]; first | assumption | omega | simp [*])) | simp [*]) (by first | exact ints_one | simp [Value.oneCell']) (by repeat (first | exact upd_here | apply upd_next | apply upd_past)) (by first | rfl | (rw [ints_length]; first | assumption | omega | (rw [ints_length]; first | assumption | omega | simp [*])) | simp [*]) ?_))
      have hi14 : i ≤ 14 := by omega
      have htn : ((i : Int)).toNat = i := Int.toNat_natCast i
      refine vw_le (own' := (b6, ⟨[.int .i64 c], 2, 1, none⟩) :: (bi, ⟨[], 0, 0, some (itObj bm (tally rs) (seen.push j))⟩) :: (bm, ⟨[], 0, 0, some (mapObj (tally rs))⟩) :: (b3, ⟨[.slice (some ⟨bo, 0, none⟩) i i], 25, 1, none⟩) :: (bo, ⟨vs, 38, i * 1, none⟩) :: (X ++ ((b1, ⟨[.int .i64 i, .slice a rs.length cap], 32, 2, none⟩) :: PairsCap i key b2 b4))) (by repeat (first | exact ole_nil | exact ole_refl | (apply ole_cons; (repeat (first | exact pm1_here | apply pm1_next | apply pm1_past))) | (apply ole_app; (repeat (first | exact pm_here | exact pm_last | apply pm_next | apply pm_past))))) ?_
      refine vw_rangeFunc (ts := [37, 38]) (own0 := (b6, ⟨[.int .i64 c], 2, 1, none⟩) :: (bi, ⟨[], 0, 0, some (itObj bm (tally rs) (seen.push j))⟩) :: (bm, ⟨[], 0, 0, some (mapObj (tally rs))⟩) :: (b3, ⟨[.slice (some ⟨bo, 0, none⟩) i i], 25, 1, none⟩) :: (bo, ⟨vs, 38, i * 1, none⟩) :: (X ++ [(b1, ⟨[.int .i64 i, .slice a rs.length cap], 32, 2, none⟩)])) (cap := PairsCap i key b2 b4) rfl ent175 (it_pairs i key (by omega) hk14 hkl b2 b4) (List.Perm.of_eq (by simp)) (by simp) (fun x hx => by
          obtain ⟨q, hq, rfl⟩ := List.mem_map.1 hx
          rw [ints_length, pairsTo_pair hq]; rfl)
        (fun q own => ∃ X : Own, TabAt 2 (tabOf i (pairG rs seen c key i q)) vs X ∧ own = (b6, ⟨[.int .i64 c], 2, 1, none⟩) :: (bi, ⟨[], 0, 0, some (itObj bm (tally rs) (seen.push j))⟩) :: (bm, ⟨[], 0, 0, some (mapObj (tally rs))⟩) :: (b3, ⟨[.slice (some ⟨bo, 0, none⟩) i i], 25, 1, none⟩) :: (bo, ⟨vs, 38, i * 1, none⟩) :: (X ++ [(b1, ⟨[.int .i64 i, .slice a rs.length cap], 32, 2, none⟩)]))
        (fun _ _ => False) ⟨X, by rw [tabOf_congr fun x y _ _ => pairG_zero rs seen c key i x y]; exact hTab, rfl⟩ ?_ ?_ (fun c o h => h.elim)
      · rintro l q x ownc w1 hx ⟨X1, hTab1, rfl⟩ hg1
        unfold pairVals at hx
        rw [List.getElem?_map] at hx
        obtain ⟨p, hp, rfl⟩ := Option.map_eq_some_iff.1 hx
        rw [htn] at hp
        obtain ⟨a', ha', hlt', rfl⟩ := mem_pairs (List.mem_of_getElem? hp)
        have hyb := rd_le hkr (a := a') (by omega)
        obtain ⟨y, hy⟩ : ∃ y : Nat, key.getD a' 0 = (y : Int) := ⟨(key.getD a' 0).toNat, by omega⟩
        rw [hy] at hp hlt' hyb ⊢
        have hst : (pairsTo key i).take (q + 1) = (pairsTo key i).take q ++ [[(a' : Int), (y : Int)]] := by rw [List.take_add_one, hp]; rfl
        have hgb := pairG_bound (rs := rs) (seen := seen) (c := c) (key := key) (n := i) (q := q) a' y hl40 hc0 hc40 hi14
        have hgb2 := pairG_bound (rs := rs) (seen := seen) (c := c) (key := key) (n := i) (q := q) y a' hl40 hc0 hc40 hi14
        obtain ⟨g, hg⟩ : ∃ g, g = pairG rs seen c key i q := ⟨_, rfl⟩
        rw [← hg] at hTab1 hgb hgb2
        simp only [ints, List.map_cons, List.map_nil, updL]
        repeat (first | refine vops_q tyOk rfl ?_ | refine vops_nil ?_ | refine vw_seq ?_ | refine vw_region (by kernel_rfl) ?_)
        intro w2 hg2
        obtain ⟨br, cr, R, hv1, hp1, _, hnew1⟩ := hTab1.row (tabOf_get (a := a') (by omega)) (by rw [row_length]; omega)
        rw [row_length] at hv1
        have hva := vals_get hv1 (show 0 + (a' : Int).toNat = a' by omega)
        have hcell : (ints ((List.range i).map fun b => g a' b))[0 + (y : Int).toNat]? = some (.int .i64 (g a' y)) := by
          rw [show 0 + (y : Int).toNat = y by omega, ints_get (by rw [row_length]; omega), row_get (by omega)]
        refine vw_perm (own' := (br, ⟨ints ((List.range i).map fun b => g a' b), 2, cr * 1, none⟩) :: ((b6, ⟨[.int .i64 c], 2, 1, none⟩) :: (bi, ⟨[], 0, 0, some (itObj bm (tally rs) (seen.push j))⟩) :: (bm, ⟨[], 0, 0, some (mapObj (tally rs))⟩) :: (b3, ⟨[.slice (some ⟨bo, 0, none⟩) i i], 25, 1, none⟩) :: (bo, ⟨vs, 38, i * 1, none⟩) :: (R ++ [(b1, ⟨[.int .i64 i, .slice a rs.length cap], 32, 2, none⟩)]))) (perm_pull (A := [(b6, ⟨[.int .i64 c], 2, 1, none⟩), (bi, ⟨[], 0, 0, some (itObj bm (tally rs) (seen.push j))⟩), (bm, ⟨[], 0, 0, some (mapObj (tally rs))⟩), (b3, ⟨[.slice (some ⟨bo, 0, none⟩) i i], 25, 1, none⟩), (bo, ⟨vs, 38, i * 1, none⟩)]) hp1) ?_
        repeat (first | refine vw_seq ?_ | refine vw_block ?_)
        refine vw_draw [0, 1, 2, 3, 4, 5, 6, 7, 8, 9, 10] (by kernel_rfl) (by kernel_rfl) (by kernel_rfl) rfl ?_
        repeat' (first | refine vd_q tyOk rfl (by first | trivial | rfl) rfl (by kernel_rfl) (by kernel_rfl) ?_ | refine vd_p tyOk rfl (by first | trivial | rfl) rfl (by kernel_rfl) (by kernel_rfl) (by (try simp only [inR]); omega) ?_ | refine vops_nil ?_ | refine vd_nil (by kernel_rfl) ?_ | refine vd_load tyOk rfl (by first | trivial | rfl) rfl rfl rfl (by kernel_rfl) (by kernel_rfl) (by kernel_rfl) (sees_mem (by repeat (first | exact mem_here | apply mem_next | apply mem_past)) (by rfl)) (by repeat (first | exact sub_hereL | exact sub_refl | apply sub_cons | apply sub_app)) ?_ | refine ⟨fun h => Bool.noConfusion (show false = true from h), ?_⟩ | refine vd_load tyOk rfl (by first | trivial | rfl) rfl rfl rfl (by kernel_rfl) (by kernel_rfl) (by kernel_rfl) (sees_mem (by repeat (first | exact mem_here | apply mem_next | apply mem_past)) (by exact hva)) (by repeat (first | exact sub_hereL | exact sub_refl | apply sub_cons | apply sub_app)) ?_ | refine vd_load tyOk rfl (by first | trivial | rfl) rfl rfl rfl (by kernel_rfl) (by kernel_rfl) (by kernel_rfl) (sees_mem (by repeat (first | exact mem_here | apply mem_next | apply mem_past)) (by exact hcell)) (by repeat (first | exact sub_hereL | exact sub_refl | apply sub_cons | apply sub_app)) ?_ | refine vops_storeIM tyOk rfl rfl rfl rfl (by repeat (first | exact upd_here | apply upd_next | apply upd_past)) (by rw [row_length]; omega) ?_ | refine vd_one rfl (by kernel_rfl) (by kernel_rfl) rfl ?_)
        obtain ⟨g1, hg1d⟩ : ∃ g1 : Nat → Nat → Int, g1 = fun x z => if x = a' ∧ z = y then g a' y + c else g x z := ⟨_, rfl⟩
        have hTab2 := hnew1 (((List.range i).map fun b => g a' b).set (y : Int).toNat (g a' y + c)) (by rw [List.length_set])
        rw [show (tabOf i g).set a' (((List.range i).map fun b => g a' b).set (y : Int).toNat (g a' y + c)) = tabOf i g1 by rw [Int.toNat_natCast, tabOf_set, hg1d]] at hTab2
        obtain ⟨br2, cr2, R2, hv2, hp2, _, hnew2⟩ := hTab2.row (tabOf_get (a := y) (by omega)) (by rw [row_length]; omega)
        rw [row_length] at hv2
        have hvb := vals_get hv2 (show 0 + (y : Int).toNat = y by omega)
        have hgya : g1 y a' = g y a' := by rw [hg1d]; show (if y = a' ∧ a' = y then _ else _) = _; rw [if_neg (by omega)]
        have hcell2 : (ints ((List.range i).map fun b => g1 y b))[0 + (a' : Int).toNat]? = some (.int .i64 (g1 y a')) := by
          rw [show 0 + (a' : Int).toNat = a' by omega, ints_get (by rw [row_length]; omega), row_get (by omega)]
        refine vw_perm (own' := (br2, ⟨ints ((List.range i).map fun b => g1 y b), 2, cr2 * 1, none⟩) :: ((b6, ⟨[.int .i64 c], 2, 1, none⟩) :: (bi, ⟨[], 0, 0, some (itObj bm (tally rs) (seen.push j))⟩) :: (bm, ⟨[], 0, 0, some (mapObj (tally rs))⟩) :: (b3, ⟨[.slice (some ⟨bo, 0, none⟩) i i], 25, 1, none⟩) :: (bo, ⟨vs, 38, i * 1, none⟩) :: (R2 ++ [(b1, ⟨[.int .i64 i, .slice a rs.length cap], 32, 2, none⟩)]))) (perm_front (A := [(b6, ⟨[.int .i64 c], 2, 1, none⟩), (bi, ⟨[], 0, 0, some (itObj bm (tally rs) (seen.push j))⟩), (bm, ⟨[], 0, 0, some (mapObj (tally rs))⟩), (b3, ⟨[.slice (some ⟨bo, 0, none⟩) i i], 25, 1, none⟩), (bo, ⟨vs, 38, i * 1, none⟩)]) hp2) ?_
        skip
        refine vw_draw [0, 1, 2, 3, 4, 5, 6, 7, 8, 9, 10] (by kernel_rfl) (by kernel_rfl) (by kernel_rfl) rfl ?_
        repeat' (first | refine vd_q tyOk rfl (by first | trivial | rfl) rfl (by kernel_rfl) (by kernel_rfl) ?_ | refine vd_p tyOk rfl (by first | trivial | rfl) rfl (by kernel_rfl) (by kernel_rfl) (by (try simp only [inR]); omega) ?_ | refine vops_nil ?_ | refine vd_nil (by kernel_rfl) ?_ | refine vd_load tyOk rfl (by first | trivial | rfl) rfl rfl rfl (by kernel_rfl) (by kernel_rfl) (by kernel_rfl) (sees_mem (by repeat (first | exact mem_here | apply mem_next | apply mem_past)) (by rfl)) (by repeat (first | exact sub_hereL | exact sub_refl | apply sub_cons | apply sub_app)) ?_ | refine ⟨fun h => Bool.noConfusion (show false = true from h), ?_⟩ | refine vd_load tyOk rfl (by first | trivial | rfl) rfl rfl rfl (by kernel_rfl) (by kernel_rfl) (by kernel_rfl) (sees_mem (by repeat (first | exact mem_here | apply mem_next | apply mem_past)) (by exact hvb)) (by repeat (first | exact sub_hereL | exact sub_refl | apply sub_cons | apply sub_app)) ?_ | refine vd_load tyOk rfl (by first | trivial | rfl) rfl rfl rfl (by kernel_rfl) (by kernel_rfl) (by kernel_rfl) (sees_mem (by repeat (first | exact mem_here | apply mem_next | apply mem_past)) (by exact hcell2)) (by repeat (first | exact sub_hereL | exact sub_refl | apply sub_cons | apply sub_app)) ?_ | refine vops_storeIM tyOk rfl rfl rfl rfl (by repeat (first | exact upd_here | apply upd_next | apply upd_past)) (by rw [row_length]; omega) ?_ | refine vd_one rfl (by kernel_rfl) (by kernel_rfl) rfl ?_)
        skip
        have hTab3 := hnew2 (((List.range i).map fun b => g1 y b).set (a' : Int).toNat (g1 y a' + c)) (by rw [List.length_set])
        rw [show (tabOf i g1).set y (((List.range i).map fun b => g1 y b).set (a' : Int).toNat (g1 y a' + c)) = tabOf i (pairG rs seen c key i (q + 1)) by
          rw [Int.toNat_natCast, tabOf_set]
          exact tabOf_congr fun x z _ _ => pairG_step hst (by omega) (by rw [hg1d, hg]) x z] at hTab3
        exact ⟨(b6, ⟨[.int .i64 c], 2, 1, none⟩) :: (bi, ⟨[], 0, 0, some (itObj bm (tally rs) (seen.push j))⟩) :: (bm, ⟨[], 0, 0, some (mapObj (tally rs))⟩) :: (b3, ⟨[.slice (some ⟨bo, 0, none⟩) i i], 25, 1, none⟩) :: (bo, ⟨vs, 38, i * 1, none⟩) :: (((br2, ⟨ints (((List.range i).map fun b => g1 y b).set (a' : Int).toNat (g1 y a' + c)), 2, cr2 * 1, none⟩) :: R2) ++ [(b1, ⟨[.int .i64 i, .slice a rs.length cap], 32, 2, none⟩)]), ole_perm (perm_pull (A := [(b6, ⟨[.int .i64 c], 2, 1, none⟩), (bi, ⟨[], 0, 0, some (itObj bm (tally rs) (seen.push j))⟩), (bm, ⟨[], 0, 0, some (mapObj (tally rs))⟩), (b3, ⟨[.slice (some ⟨bo, 0, none⟩) i i], 25, 1, none⟩), (bo, ⟨vs, 38, i * 1, none⟩)]) (List.Perm.refl _)).symm, _, hTab3, rfl⟩
      · rintro own' ⟨X1, hTab1, rfl⟩
        have hlv : (pairVals i key).length = (pairsTo key i).length := by simp [pairVals]
        rw [hlv] at hTab1
        have hfin : tabOf i (pairG rs seen c key i (pairsTo key i).length) = tabOf i fun x y => seenSum (tally rs) (seen.push j) x y := tabOf_congr fun x y hx hy => by
          unfold pairG
          rw [List.take_length, seenSum_push hlj hjs, wt_at hj]
          have := hits_round hkr (x := x) (y := y) (by omega) (by omega)
          rw [htn] at this
          rw [this]
          split <;> simp
        rw [hfin] at hTab1
        skip
        refine ⟨_, ?_, (bi, ⟨[], 0, 0, some (itObj bm (tally rs) (seen.push j))⟩) :: (bm, ⟨[], 0, 0, some (mapObj (tally rs))⟩) :: (b3, ⟨[.slice (some ⟨bo, 0, none⟩) i i], 25, 1, none⟩) :: (bo, ⟨vs, 38, i * 1, none⟩) :: (X1 ++ [(b1, ⟨[.int .i64 i, .slice a rs.length cap], 32, 2, none⟩)]), ?_, seen.push j, X1, rfl, rfl, rfl, rfl, hTab1, rfl⟩
        · refine filter_lt _ _ (fun x hx => ?_) j (by show (!seen.contains j) = true; rw [hjs]; rfl) (by show (!(seen.push j).contains j) = false; rw [contains_push]; simp) _ (List.mem_range.2 hlj)
          simp only [contains_push, Bool.not_or, Bool.and_eq_true] at hx
          exact hx.1
        · simp only [List.cons_append, List.append_assoc, List.nil_append]; exact (by repeat (first | exact ole_nil | exact ole_refl | (apply ole_cons; (repeat (first | exact pm1_here | apply pm1_next | apply pm1_past))) | (apply ole_app; (repeat (first | exact pm_here | exact pm_last | apply pm_next | apply pm_past)))))
end Go.Proofs.Ytlfflmoegfibgaa

/- A part of the proof: P27. No conditions of its own. -/
namespace Go.Proofs.Ytlfflmoegfibgaa
open Go.VL
attribute [local irreducible] VWr VOps VD Calls

open Classical in
noncomputable def meetingsOf (n : Int) (rs : List (List Int)) : List (List Int) × Int := if IsSch n rs then (meetTab n.toNat rs, 0) else ([], 1)
end Go.Proofs.Ytlfflmoegfibgaa

/- A part of the proof: P28. No conditions of its own. -/
namespace Go.Proofs.Ytlfflmoegfibgaa
open Go.VL
attribute [local irreducible] VWr VOps VD Calls

/-- Each two meet once. -/
def AllMeet (k : Nat) (rs : List (List Int)) : Prop := (rs.length : Int) = robinR k ∧ ∀ a b : Nat, a < k → b < k → a ≠ b → cnt rs a b = 1
theorem cnt_symm {k : Nat} {rs : List (List Int)} (hS : ∀ (i : Nat) (r : List Int), rs[i]? = some r → IsRd k r) {a b : Nat} (ha : a < k) (hb : b < k) : cnt rs a b = cnt rs b a := by
  unfold cnt
  by_cases hab : a = b
  · rw [if_pos hab, if_pos hab.symm]
  · rw [if_neg hab, if_neg (Ne.symm hab)]
    congr 1
    apply List.filter_congr
    intro r hr
    obtain ⟨i, hi⟩ := List.mem_iff_getElem?.1 hr
    have h := hS i r hi
    have h14 := h.2.1
    have aa := (h.2.2 a (by omega)).2 (by omega)
    have bb := (h.2.2 b (by omega)).2 (by omega)
    refine decide_eq_decide.2 ⟨fun e => ?_, fun e => ?_⟩
    · have := aa.2.2; rw [e] at this; simpa using this
    · have := bb.2.2; rw [e] at this; simpa using this
open Classical in
noncomputable def robin (n : Int) (rs : List (List Int)) : Bool × Int := if IsSch n rs then (decide (AllMeet n.toNat rs), 0) else (false, 1)
theorem out_bc {P : Program} {Γ : Ctx} {f : Nat → Value} {own : Own} {n t u : Nat} {fn : Func} {b b' : Bool} {c : Int} {r : Bool × Int} (h : fn.results = #[.tmp t, .tmp u]) (hv : f t = .bool b) (hx : f u = .int .i64 c) (hb : b = b') (hr : r = (b', c)) : Out P Γ n fn (Is (.tuple #[.bool r.1, .int .i64 r.2])) .ret f own := by
  subst hb; subst hr
  exact out2 (new := []) h hv hx List.nodup_nil sub_nil ⟨rfl, rfl⟩
/-- Where a table of one's own has the place i, j. -/
theorem tab_cell {k : Nat} {g : Nat → Nat → Int} {vs : List Value} {ns : List Own} {i : Nat} (hR : Go.VL.RowsAt 2 (tabOf k g) vs ns) (hi : i < k) :
    ∃ br cap ns1 ns2, vs[i]? = some (.slice (some ⟨br, 0, none⟩) k cap) ∧ ns = ns1 ++ [(br, ⟨ints ((List.range k).map fun b => g i b), 2, cap * 1, none⟩)] :: ns2 := by
  obtain ⟨u, n, ns1, ns2, h1, rfl, h3, _⟩ := RowsAt.split hR (tabOf_get hi)
  obtain ⟨p, cap, rfl⟩ := SlAt.form h3
  obtain ⟨br, rfl, rfl, _, _, _⟩ := NewF.blk (NewI.f h3) (by rw [row_length]; omega)
  rw [row_length] at h1
  exact ⟨br, cap, ns1, ns2, h1, rfl⟩
theorem mem_flat {x : Nat × Blk} {ns1 ns2 : List Own} {n : Own} (h : x ∈ n) : x ∈ (ns1 ++ n :: ns2).flatten := by
  rw [List.flatten_append, List.flatten_cons]
  exact List.mem_append_right _ (List.mem_append_left _ h)
theorem outer_blk {e k : Nat} {p : Option Addr} {cp : Nat} {vs : List Value} {outer : Own} (h : SlAt e 1 (.slice p k cp) k vs outer []) (hk : 0 < k) : ∃ bo, p = some ⟨bo, 0, none⟩ ∧ outer = [(bo, ⟨vs, e, cp * 1, none⟩)] := by
  rcases h.2 with ⟨_, h, _⟩ | ⟨bo, cap', h, h2, h3, h4⟩
  · omega
  · cases h; exact ⟨bo, rfl, h4⟩

open Classical in
set_option maxHeartbeats 2000000 in
set_option maxRecDepth 100000 in
theorem c_l01Robin (k : Nat) (v : Value) (rs : List (List Int)) (hS : IsSch k rs) (w : World) (hv : RdS w v rs) (hr : ∀ r ∈ rs, r.length = 14) :
    Calls Try.prog 164 [.agg #[.int .i64 k, v]].toArray w (Res w (Is (.bool (decide (AllMeet k rs))))) := by
  obtain ⟨a, cap, rfl⟩ := hv.len
  have hk14 := hS.2.1
  have hk2 := hS.1
  have hl40 := hS.2.2.1
  have hl : (rs.length : Int) ≤ 40 := by omega
  refine calls_of_vw Try.func164 rfl Try.ntmps164 (by simp) ?_
  refine vw_seq (vw_region (by kernel_rfl) (vops_box [.int .i64 k, .slice a rs.length cap] rfl (fun b0 hb0 => ?_)))
  repeat (first | refine vops_q tyOk rfl ?_ | refine vops_nil ?_ | refine vw_seq ?_ | refine vw_region (by kernel_rfl) ?_ | refine vops_p tyOk rfl (by (try simp only [inR]); omega) ?_ | refine vw_cond rfl ?_ | ((show VOps _ _ _ _ (⟨some _, Go.Op.load _ _, _, _, _, none⟩ :: _) _ _); refine vops_loadM tyOk rfl rfl rfl (by repeat (first | exact mem_here | apply mem_next | apply mem_past)) (by rfl) ?_))
  refine bs_ndec2 (fun h => ?_) (fun h => ?_)
  · repeat (first | refine vops_q tyOk rfl ?_ | refine vops_nil ?_ | refine vw_seq ?_ | refine vw_region (by kernel_rfl) ?_ | refine vw_ret ?_)
    exact rv_bool rfl rfl (decide_eq_false fun hh => h (by have := hh.1; unfold robinR at this; omega)).symm
  have hrob : (rs.length : Int) = robinR k := by unfold robinR; omega
  repeat (first | refine vw_seq ?_ | refine vw_region (by kernel_rfl) ?_ | refine vw_skip ?_ | ((show VOps _ _ _ _ (⟨some _, Go.Op.load _ _, _, _, _, none⟩ :: _) _ _); refine vops_loadNM tyOk rfl rfl rfl (by repeat (first | exact mem_here | apply mem_next | apply mem_past)) (by first | rfl | (rw [ints_length]; first | assumption | omega | (rw [ints_length]; first | assumption | omega | simp [*])) | simp [*]) ?_))
  apply vops_call ent151 rfl
  · intro w' hg; exact c_l01Meetings k _ rs hS w' (hv.same hg.fr) hr
  rintro _ newN ⟨vs, ns, outer, hR, hO, rfl⟩
  obtain ⟨p, cp, rfl⟩ := hO.form
  rw [tabOf_length] at hO
  obtain ⟨bo, rfl, rfl⟩ := outer_blk hO (by omega)
  rw [tabOf_length]
  repeat (first | refine vops_q tyOk rfl ?_ | refine vops_nil ?_ | refine vw_seq ?_ | refine vw_region (by kernel_rfl) ?_ | refine vw_block ?_)
  refine vw_loopW (fun m f own => ∃ i : Nat, i ≤ k ∧ m = k - i ∧ f 5 = .int .i64 i ∧ f 1 = .pointer (some ⟨b0, 0, none⟩) ∧ f 4 = .slice (some ⟨bo, 0, none⟩) k cp ∧ own = (bo, ⟨vs, 38, cp * 1, none⟩) :: (ns.flatten ++ [(b0, ⟨[.int .i64 k, .slice a rs.length cap], 32, 2, none⟩)]) ∧
      ∀ x y : Nat, x < i → y < k → x ≠ y → cnt rs x y = 1) k
    ⟨_, ole_perm (by simp), 0, by omega, by omega, rfl, rfl, rfl, rfl, fun x y hx => by omega⟩ ?_
  rintro m f own ⟨i, hi, rfl, h5, h1, h4, rfl, hall⟩
  rw [upd_of h5, upd_of h1, upd_of h4]
  repeat (first | refine vops_q tyOk rfl ?_ | refine vops_nil ?_ | refine vw_seq ?_ | refine vw_region (by kernel_rfl) ?_ | refine vw_cond rfl ?_ | ((show VOps _ _ _ _ (⟨some _, Go.Op.load _ _, _, _, _, none⟩ :: _) _ _); refine vops_loadM tyOk rfl rfl rfl (by repeat (first | exact mem_here | apply mem_next | apply mem_past)) (by rfl) ?_))
  refine bs_dec (fun hlt => ?_) (fun hlt => ?_)
  · have hik : i < k := by omega
    obtain ⟨br, cr, ns1, ns2, hv1, rfl⟩ := tab_cell hR hik
    have hva := vals_get hv1 (show 0 + (i : Int).toNat = i by omega)
    repeat (first | refine vops_q tyOk rfl ?_ | refine vops_nil ?_ | refine vw_seq ?_ | refine vw_region (by kernel_rfl) ?_ | refine vw_skip ?_ | refine vw_block ?_)
    refine vw_loopW (fun m f own => ∃ j : Nat, j ≤ k ∧ m = k - j ∧ f 6 = .int .i64 j ∧ f 5 = .int .i64 i ∧ f 1 = .pointer (some ⟨b0, 0, none⟩) ∧ f 4 = .slice (some ⟨bo, 0, none⟩) k cp ∧ own = (bo, ⟨vs, 38, cp * 1, none⟩) :: ((ns1 ++ [(br, ⟨ints ((List.range k).map fun b => (cnt rs i b : Int)), 2, cr * 1, none⟩)] :: ns2).flatten ++ [(b0, ⟨[.int .i64 k, .slice a rs.length cap], 32, 2, none⟩)]) ∧
        ∀ y : Nat, y < j → i ≠ y → cnt rs i y = 1) k
      ⟨_, ole_refl, 0, by omega, by omega, rfl, rfl, rfl, rfl, rfl, fun y hy => by omega⟩ ?_
    rintro m f own ⟨j, hj, rfl, h6, h5, h1, h4, rfl, hall2⟩
    rw [upd_of h6, upd_of h5, upd_of h1, upd_of h4]
    have hcell : (ints ((List.range k).map fun b => (cnt rs i b : Int)))[0 + (j : Int).toNat]? = (if j < k then some (.int .i64 (cnt rs i j : Int)) else none) := by
      rw [show 0 + (j : Int).toNat = j by omega]
      by_cases hjk : j < k
      · rw [if_pos hjk, ints_get (by rw [row_length]; omega), row_get hjk]
      · rw [if_neg hjk]; exact List.getElem?_eq_none (by rw [ints_length, row_length]; omega)
    repeat (first | refine vops_q tyOk rfl ?_ | refine vops_nil ?_ | refine vw_seq ?_ | refine vw_region (by kernel_rfl) ?_ | refine vw_cond rfl ?_ | ((show VOps _ _ _ _ (⟨some _, Go.Op.load _ _, _, _, _, none⟩ :: _) _ _); refine vops_loadM tyOk rfl rfl rfl (by repeat (first | exact mem_here | apply mem_next | apply mem_past)) (by rfl) ?_))
    refine bs_dec (fun hlt2 => ?_) (fun hlt2 => ?_)
    · rw [if_pos (by omega)] at hcell
      by_cases hij : i = j
      · subst hij
        repeat (first | refine vops_q tyOk rfl ?_ | refine vw_seq ?_ | refine vw_region (by kernel_rfl) ?_ | refine vops_guardT rfl rfl ?_ | refine vw_skip ?_ | refine vw_block ?_)
        refine bs_ndec2 (fun h => absurd rfl h) (fun _ => ?_)
        repeat (first | refine vops_q tyOk rfl ?_ | refine vops_nil ?_ | refine vw_region (by kernel_rfl) ?_ | refine vops_guardT rfl rfl ?_ | with_reducible refine bs_false ?_ | refine vops_p tyOk rfl (by (try simp only [inR]); omega) ?_ | refine vw_cond rfl ?_ | refine vw_skip ?_)
        exact ⟨k - (i + 1), by omega, _, ole_refl, i + 1, by omega, rfl, rfl, rfl, rfl, rfl, rfl, fun y hy hne => by
          by_cases hyi : y = i
          · exact absurd hyi.symm hne
          · exact hall2 y (by omega) hne⟩
      · repeat (first | refine vops_q tyOk rfl ?_ | refine vw_seq ?_ | refine vw_region (by kernel_rfl) ?_ | refine vops_guardT rfl rfl ?_ | refine vw_skip ?_ | refine vw_block ?_)
        refine bs_ndec2 (fun h => ?_) (fun h => by omega)
        repeat (first | refine vops_q tyOk rfl ?_ | refine vops_nil ?_ | refine vops_guardT rfl rfl ?_ | with_reducible refine bs_true ?_ | refine vops_p tyOk rfl (by (try simp only [inR]); omega) ?_ | refine vw_cond rfl ?_ | refine vops_loadM tyOk rfl rfl rfl (List.mem_cons_self) (by exact hva) ?_ | refine vops_loadM tyOk rfl rfl rfl (List.mem_cons_of_mem _ (List.mem_append_left _ (mem_flat List.mem_cons_self))) (by exact hcell) ?_)
        refine bs_ndec2 (fun h7 => ?_) (fun h7 => ?_)
        · repeat (first | refine vops_q tyOk rfl ?_ | refine vops_nil ?_ | refine vw_seq ?_ | refine vw_region (by kernel_rfl) ?_ | refine vw_ret ?_)
          exact rv_bool rfl rfl (decide_eq_false fun hh => h7 (by have := hh.2 i j hik (by omega) hij; omega)).symm
        · repeat (first | refine vops_q tyOk rfl ?_ | refine vops_nil ?_ | refine vw_region (by kernel_rfl) ?_ | refine vops_p tyOk rfl (by (try simp only [inR]); omega) ?_ | refine vw_skip ?_)
          exact ⟨k - (j + 1), by omega, _, ole_refl, j + 1, by omega, rfl, rfl, rfl, rfl, rfl, rfl, fun y hy hne => by
            by_cases hyj : y = j
            · subst hyj; omega
            · exact hall2 y (by omega) hne⟩
    · repeat (first | refine vops_q tyOk rfl ?_ | refine vops_nil ?_ | refine vw_region (by kernel_rfl) ?_ | refine vops_p tyOk rfl (by (try simp only [inR]); omega) ?_ | refine vw_exit ?_)
      refine ⟨k - (i + 1), by omega, _, ole_refl, i + 1, by omega, rfl, rfl, rfl, rfl, rfl, fun x y hx hy hne => ?_⟩
      by_cases hxi : x = i
      · subst hxi; exact hall2 y (by omega) hne
      · exact hall x y (by omega) hy hne
  · repeat (first | refine vops_q tyOk rfl ?_ | refine vops_nil ?_ | refine vw_seq ?_ | refine vw_region (by kernel_rfl) ?_ | refine vw_ret ?_ | refine vw_exit ?_)
    exact rv_bool rfl rfl (decide_eq_true ⟨hrob, fun x y hx hy hne => hall x y (by omega) hy hne⟩).symm

open Classical in
set_option maxHeartbeats 2000000 in
set_option maxRecDepth 100000 in
theorem c_impl_IsRoundRobin (n : Int) (v : Value) (rs : List (List Int)) (w : World) (hv : RdS w v rs) (hr : ∀ r ∈ rs, r.length = 14) (hl : rs.length ≤ 1048576) :
    Calls Try.prog 65 [.agg #[.int .i64 n, v]].toArray w (Res w (Is (.tuple #[.bool (robin n rs).1, .int .i64 (robin n rs).2]))) := by
  obtain ⟨a, cap, rfl⟩ := hv.len
  refine calls_of_vw Try.func65 rfl Try.ntmps65 (by simp) ?_
  refine vw_seq (vw_region (by kernel_rfl) (vops_box [.int .i64 n, .slice a rs.length cap] rfl (fun b0 hb0 => ?_)))
  repeat (first | refine vops_q tyOk rfl ?_ | refine vops_nil ?_ | refine vw_seq ?_ | refine vw_region (by kernel_rfl) ?_ | refine vw_cond rfl ?_ | (apply vops_callp ent75 rfl; (intro w' hg; exact c_IsSchedule n _ rs w' (hv.same hg.fr) hr hl)) | ((show VOps _ _ _ _ (⟨some _, Go.Op.load _ _, _, _, _, none⟩ :: _) _ _); refine vops_loadNM tyOk rfl rfl rfl (by repeat (first | exact mem_here | apply mem_next | apply mem_past)) (by first | rfl | (rw [ints_length]; first | assumption | omega | (rw [ints_length]; first | assumption | omega | simp [*])) | simp [*]) ?_))
  refine bs_ndec2 (fun h => ?_) (fun h => ?_)
  · repeat (first | refine vops_q tyOk rfl ?_ | refine vops_nil ?_ | refine vw_seq ?_ | refine vw_region (by kernel_rfl) ?_ | refine vw_ret ?_)
    exact out_bc rfl rfl rfl rfl (by rw [robin, if_neg h])
  obtain ⟨k, rfl⟩ : ∃ k : Nat, n = (k : Int) := ⟨n.toNat, by have := h.1; omega⟩
  have hk14 := h.2.1
  have hk2 := h.1
  have hl40 := h.2.2.1
  have hrb : ∀ b, (b = decide (AllMeet k rs)) → robin k rs = (b, 0) := fun b hb => by rw [robin, if_pos h, hb, Int.toNat_natCast]
  repeat (first | refine vw_seq ?_ | refine vw_skip ?_)
  refine vw_draw [0, 1, 2, 3, 4, 5, 6] (by kernel_rfl) (by kernel_rfl) (by kernel_rfl) rfl ?_
  repeat' (first | refine vd_q tyOk rfl (by first | trivial | rfl) rfl (by kernel_rfl) (by kernel_rfl) ?_ | refine vops_nil ?_ | refine vd_nil (by kernel_rfl) ?_ | refine ⟨fun _ _ _ h => h, ?_⟩ | refine vd_load tyOk rfl (by first | trivial | rfl) rfl rfl rfl (by kernel_rfl) (by kernel_rfl) (by kernel_rfl) (sees_mem (by repeat (first | exact mem_here | apply mem_next | apply mem_past)) (by rfl)) (by repeat (first | exact sub_hereL | exact sub_refl | apply sub_cons | apply sub_app)) ?_ | (apply vops_callp ent130 rfl; (intro w _; exact c_robinRounds _ hk2 hk14 w)) | refine vd_one rfl (by kernel_rfl) (by kernel_rfl) rfl ?_)
  repeat (first | refine vw_cond rfl ?_)
  refine bs_ndec2 (fun h2 => ?_) (fun h2 => ?_)
  · repeat (first | refine vops_q tyOk rfl ?_ | refine vops_nil ?_ | refine vw_seq ?_ | refine vw_region (by kernel_rfl) ?_ | refine vw_ret ?_)
    exact out_bc rfl rfl rfl rfl (hrb _ (decide_eq_false fun hh => h2 hh.1).symm)
  repeat (first | refine vw_seq ?_ | refine vw_region (by kernel_rfl) ?_ | refine vw_skip ?_ | ((show VOps _ _ _ _ (⟨some _, Go.Op.load _ _, _, _, _, none⟩ :: _) _ _); refine vops_loadNM tyOk rfl rfl rfl (by repeat (first | exact mem_here | apply mem_next | apply mem_past)) (by first | rfl | (rw [ints_length]; first | assumption | omega | (rw [ints_length]; first | assumption | omega | simp [*])) | simp [*]) ?_))
  apply vops_call ent96 rfl
  · intro w' hg; exact c_meetingTable k _ rs h w' (hv.same hg.fr) hr
  rintro _ newN ⟨vs, ns, outer, hR, hO, rfl⟩
  obtain ⟨p, cp, rfl⟩ := hO.form
  rw [tabOf_length] at hO
  obtain ⟨bo, rfl, rfl⟩ := outer_blk hO (by omega)
  rw [tabOf_length]
  repeat (first | refine vops_q tyOk rfl ?_ | refine vops_nil ?_ | refine vw_seq ?_ | refine vw_region (by kernel_rfl) ?_ | refine vw_block ?_ | ((show VOps _ _ _ _ (⟨some _, Go.Op.load _ _, _, _, _, none⟩ :: _) _ _); refine vops_loadM tyOk rfl rfl rfl (by repeat (first | exact mem_here | apply mem_next | apply mem_past)) (by rfl) ?_))
  refine vw_loopW (fun m f own => ∃ i : Nat, i ≤ k ∧ m = k - i ∧ f 21 = .int .i64 i ∧ f 20 = .int .i64 k ∧ f 4 = .slice (some ⟨bo, 0, none⟩) k cp ∧ own = (bo, ⟨vs, 38, cp * 1, none⟩) :: ns.flatten ∧
      ∀ x y : Nat, x < i → y < x → cnt rs x y = 1) k
    ⟨_, ole_last (A := (bo, ⟨vs, 38, cp * 1, none⟩) :: ns.flatten) (List.Perm.refl _), 0, by omega, by omega, rfl, rfl, rfl, rfl, fun x y hx => by omega⟩ ?_
  rintro m f own ⟨i, hi, rfl, h21, h20, h4, rfl, hall⟩
  rw [upd_of h21, upd_of h20, upd_of h4]
  repeat (first | refine vops_q tyOk rfl ?_ | refine vops_nil ?_ | refine vw_seq ?_ | refine vw_region (by kernel_rfl) ?_ | refine vw_cond rfl ?_)
  refine bs_dec (fun hlt => ?_) (fun hlt => ?_)
  · have hik : i < k := by omega
    obtain ⟨br, cr, ns1, ns2, hv1, rfl⟩ := tab_cell hR hik
    have hva := vals_get hv1 (show 0 + (i : Int).toNat = i by omega)
    repeat (first | refine vops_q tyOk rfl ?_ | refine vops_nil ?_ | refine vw_seq ?_ | refine vw_region (by kernel_rfl) ?_ | refine vw_skip ?_ | refine vw_block ?_)
    refine vw_loopW (fun m f own => ∃ j : Nat, j ≤ i ∧ m = i - j ∧ f 25 = .int .i64 j ∧ f 24 = .int .i64 i ∧ f 5 = .int .i64 i ∧ f 21 = .int .i64 i ∧ f 20 = .int .i64 k ∧ f 4 = .slice (some ⟨bo, 0, none⟩) k cp ∧ own = (bo, ⟨vs, 38, cp * 1, none⟩) :: (ns1 ++ [(br, ⟨ints ((List.range k).map fun b => (cnt rs i b : Int)), 2, cr * 1, none⟩)] :: ns2).flatten ∧
        ∀ y : Nat, y < j → cnt rs i y = 1) i
      ⟨_, ole_refl, 0, by omega, by omega, rfl, rfl, rfl, rfl, rfl, rfl, rfl, fun y hy => by omega⟩ ?_
    rintro m f own ⟨j, hj, rfl, h25, h24, h5, h21, h20, h4, rfl, hall2⟩
    rw [upd_of h25, upd_of h24, upd_of h5, upd_of h21, upd_of h20, upd_of h4]
    have hcell : (ints ((List.range k).map fun b => (cnt rs i b : Int)))[0 + (j : Int).toNat]? = some (.int .i64 (cnt rs i j : Int)) := by
      rw [show 0 + (j : Int).toNat = j by omega, ints_get (by rw [row_length]; omega), row_get (by omega)]
    repeat (first | refine vops_q tyOk rfl ?_ | refine vops_nil ?_ | refine vw_seq ?_ | refine vw_region (by kernel_rfl) ?_ | refine vw_cond rfl ?_)
    refine bs_dec (fun hlt2 => ?_) (fun hlt2 => ?_)
    · repeat (first | refine vops_q tyOk rfl ?_ | refine vops_nil ?_ | refine vw_seq ?_ | refine vw_region (by kernel_rfl) ?_ | refine vops_p tyOk rfl (by (try simp only [inR]); omega) ?_ | refine vw_cond rfl ?_ | refine vw_skip ?_ | refine vw_block ?_ | refine vops_loadM tyOk rfl rfl rfl (List.mem_cons_self) (by exact hva) ?_ | refine vops_loadM tyOk rfl rfl rfl (List.mem_cons_of_mem _ (mem_flat List.mem_cons_self)) (by exact hcell) ?_)
      refine bs_ndec2 (fun h7 => ?_) (fun h7 => ?_)
      · repeat (first | refine vops_q tyOk rfl ?_ | refine vops_nil ?_ | refine vw_seq ?_ | refine vw_region (by kernel_rfl) ?_ | refine vw_ret ?_)
        exact out_bc rfl rfl rfl rfl (hrb _ (decide_eq_false fun hh => h7 (by have := hh.2 i j hik (by omega) (by omega); omega)).symm)
      · repeat (first | refine vops_q tyOk rfl ?_ | refine vops_nil ?_ | refine vw_region (by kernel_rfl) ?_ | refine vops_p tyOk rfl (by (try simp only [inR]); omega) ?_ | refine vw_skip ?_)
        exact ⟨i - (j + 1), by omega, _, ole_refl, j + 1, by omega, rfl, rfl, rfl, rfl, rfl, rfl, rfl, rfl, fun y hy => by
          by_cases hyj : y = j
          · subst hyj; omega
          · exact hall2 y (by omega)⟩
    · repeat (first | refine vops_q tyOk rfl ?_ | refine vops_nil ?_ | refine vw_region (by kernel_rfl) ?_ | refine vops_p tyOk rfl (by (try simp only [inR]); omega) ?_ | refine vw_exit ?_)
      refine ⟨k - (i + 1), by omega, _, ole_refl, i + 1, by omega, rfl, rfl, rfl, rfl, rfl, fun x y hx hy => ?_⟩
      by_cases hxi : x = i
      · subst hxi; exact hall2 y (by omega)
      · exact hall x y (by omega) hy
  · repeat (first | refine vops_q tyOk rfl ?_ | refine vops_nil ?_ | refine vw_seq ?_ | refine vw_region (by kernel_rfl) ?_ | refine vw_ret ?_ | refine vw_exit ?_)
    refine out_bc rfl rfl rfl rfl (hrb _ (decide_eq_true ⟨h2, fun x y hx hy hne => ?_⟩).symm)
    by_cases hxy : y < x
    · exact hall x y (by omega) hxy
    · rw [cnt_symm (fun i r hi => h.2.2.2 i r hi) hx hy]; exact hall y x (by omega) (by omega)
end Go.Proofs.Ytlfflmoegfibgaa

