import Derived.Test.YtdgaabkgfbihpaaDoorSA
import Derived.Test.YtdgaabkgfbihpaaDoorVLPanic
import Derived.Test.YtdgaabkgfbihpaaDoorVLBools
import Derived.Test.YtdgaabkgfbihpaaDoorVLArr
import Derived.Test.YtdgaabkgfbihpaaDoorVLMarks
import Derived.Test.YtdgaabkgfbihpaaDoorProg
import Derived.LaidEql
import Derived.Stop.Asserts
import Derived.WalkKit
import Derived.RowKitTokens
import Derived.RecoverIn
/- Parts of the proof, one after another. No conditions of their own. -/
/- A part of the proof: Q1. No conditions of its own. -/
namespace Go.Proofs.YtdgaabkgfbihpaaDoor
open Go.VL
attribute [local irreducible] VWr VOps VD Calls Last

/-- A modulus that starters have. -/
def IsMod (m : Int) : Prop := 3 ≤ m ∧ m ≤ 13 ∧ m % 2 = 1
instance (m : Int) : Decidable (IsMod m) := by unfold IsMod; infer_instance
theorem c_isModulus (m : Int) (w : World) : Calls Tryd.prog 43 [Value.int .i64 m].toArray w (Res w (Is (.bool (decide (IsMod m))))) := by
  refine calls_of_vw Tryd.func43 rfl Tryd.ntmps43 (by simp) ?_
  repeat' (first | refine vops_q tyOk rfl ?_ | refine vops_nil ?_ | refine vw_seq ?_ | refine vw_region (by kernel_rfl) ?_ | refine vops_guardT rfl rfl ?_ | with_reducible refine bs_true ?_ | with_reducible refine bs_false ?_ | refine vops_p tyOk rfl (by (try simp only [inR]); omega) ?_ | refine vw_ret ?_ | (with_reducible refine bs_dec (fun _ => ?_) (fun _ => ?_)) <;> try (exfalso; omega))
  all_goals (refine rv_bool rfl rfl ?_; unfold IsMod; first | (symm; apply decide_eq_false; omega) | (symm; apply decide_eq_true; omega) | (apply decide_eq_decide.2; omega))
theorem c_isRest (a m : Int) (w : World) : Calls Tryd.prog 44 [Value.int .i64 a, .int .i64 m].toArray w (Res w (Is (.bool (decide (1 ≤ a ∧ a < m))))) := by
  refine calls_of_vw Tryd.func44 rfl Tryd.ntmps44 (by simp) ?_
  repeat' (first | refine vops_q tyOk rfl ?_ | refine vops_nil ?_ | refine vw_seq ?_ | refine vw_region (by kernel_rfl) ?_ | refine vops_guardT rfl rfl ?_ | with_reducible refine bs_true ?_ | with_reducible refine bs_false ?_ | refine vw_ret ?_ | (with_reducible refine bs_dec (fun _ => ?_) (fun _ => ?_)) <;> try (exfalso; omega))
  all_goals (refine rv_bool rfl rfl ?_; simp; omega)

/-- An error of the program's own, at a. -/
abbrev er (a : Addr) : Value := .iface 94 (.pointer (some a))
/-- The two errors with which the checks panic lie where the program's variables point, apart from each other. -/
structure Errs (w : World) (a0 a1 : Addr) : Prop where
  g0 : w.cell? ⟨0, 0, none⟩ = some (er a0)
  g1 : w.cell? ⟨1, 0, none⟩ = some (er a1)
  ne : a0 ≠ a1
  h0 : ∃ c t, w.heap[a0.block]? = some (.cells c t (0, 0))
  h1 : ∃ c t, w.heap[a1.block]? = some (.cells c t (0, 0))
theorem Errs.same {w w' : World} {a0 a1 : Addr} (h : Errs w a0 a1) (hf : Fr [] w w') : Errs w' a0 a1 := by
  obtain ⟨c0, t0, h0⟩ := h.h0
  obtain ⟨c1, t1, h1⟩ := h.h1
  refine ⟨hf.cell (by simp) h.g0, hf.cell (by simp) h.g1, h.ne, ⟨c0, t0, ?_⟩, ⟨c1, t1, ?_⟩⟩
  · rw [hf.block _ (Array.getElem?_eq_some_iff.1 h0).1 (by simp)]; exact h0
  · rw [hf.block _ (Array.getElem?_eq_some_iff.1 h1).1 (by simp)]; exact h1

/-- So many numbers in 1 .. m - 1. -/
def NumsOk (m : Int) (k : Nat) (l : List Int) : Prop := l.length = k ∧ ∀ j : Nat, j < l.length → 1 ≤ l.getD j 0 ∧ l.getD j 0 < m

open Classical in
set_option maxRecDepth 100000 in
theorem c_needNumbers (m : Int) (v : Value) (l : List Int) (k : Nat) (a0 a1 : Addr) (w : World) (hv : RdI w v l) (he : Errs w a0 a1) (hl : l.length ≤ 1048576) :
    Calls Tryd.prog 31 [Value.int .i64 m, v, .int .i64 k].toArray w (Need w (if NumsOk m k l then none else some (er a0))) := by
  obtain ⟨a, cap, rfl⟩ := hv.len
  refine calls_of_vwN Tryd.func31 rfl Tryd.ntmps31 (by simp) rfl ?_
  repeat (first | refine vops_q tyOk rfl ?_ | refine vops_nil ?_ | refine vw_seq ?_ | refine vw_region (by kernel_rfl) ?_ | refine vw_cond rfl ?_)
  refine bs_ndec2 (fun h => ?_) (fun h => ?_)
  · repeat (first | refine vw_regionP (o := ⟨_, .panic _, _, _, _, _⟩) rfl (by kernel_rfl) (by kernel_rfl) ?_ | refine last_panic rfl ?_ | refine vops_loadX Tryd.underlying70 rfl (sees_old he.g0 (by simp)) ?_ | refine vops_nil ?_)
    exact ⟨_, rfl, if_neg fun hh => h (by rw [hh.1])⟩
  repeat (first | refine vops_q tyOk rfl ?_ | refine vops_nil ?_ | refine vw_seq ?_ | refine vw_region (by kernel_rfl) ?_ | refine vw_skip ?_ | refine vw_block ?_)
  refine vw_loop (fun m' f own => ∃ i : Nat, i ≤ l.length ∧ m' = l.length - i ∧ f 15 = .int .i64 i ∧ f 14 = .int .i64 l.length ∧ f 13 = .slice a l.length cap ∧ f 0 = .int .i64 m ∧ own = [] ∧ ∀ j : Nat, j < i → 1 ≤ l.getD j 0 ∧ l.getD j 0 < m) l.length
    ⟨0, by omega, by omega, rfl, rfl, rfl, rfl, rfl, fun j hj => by omega⟩ ?_
  rintro m' f own ⟨i, hi, rfl, h15, h14, h13, h0, rfl, hall⟩
  rw [upd_of h15, upd_of h14, upd_of h13, upd_of h0]
  repeat (first | refine vops_q tyOk rfl ?_ | refine vops_nil ?_ | refine vw_seq ?_ | refine vw_region (by kernel_rfl) ?_ | refine vw_cond rfl ?_)
  refine bs_dec (fun h4 => ?_) (fun h4 => ?_)
  · have hil : i < l.length := by omega
    obtain ⟨b', o, cap', hee, hcell⟩ := hv.at (i := i) hil
    cases hee
    have hc := hcell i hil
    repeat (first | refine vops_load tyOk rfl rfl rfl (sees_old hc (by simp)) ?_ | (apply vops_callp ent44 rfl; (intro w _; exact c_isRest _ _ w)) | refine vops_q tyOk rfl ?_ | refine vops_nil ?_ | refine vw_seq ?_ | refine vw_region (by kernel_rfl) ?_ | refine vops_p tyOk rfl (by (try simp only [inR]); omega) ?_ | refine vw_cond rfl ?_ | refine vw_skip ?_ | refine vw_block ?_)
    refine bs_ndec2 (fun h6 => ?_) (fun h6 => ?_)
    · repeat (first | refine vw_regionP (o := ⟨_, .panic _, _, _, _, _⟩) rfl (by kernel_rfl) (by kernel_rfl) ?_ | refine last_panic rfl ?_ | refine vops_loadX Tryd.underlying70 rfl (sees_old he.g0 (by simp)) ?_ | refine vops_nil ?_)
      exact ⟨_, rfl, if_neg fun hh => h6 (hh.2 i hil)⟩
    repeat (first | refine vops_q tyOk rfl ?_ | refine vops_nil ?_ | refine vw_region (by kernel_rfl) ?_ | refine vops_p tyOk rfl (by (try simp only [inR]); omega) ?_ | refine vw_skip ?_)
    exact ⟨l.length - (i + 1), by omega, i + 1, by omega, rfl, rfl, rfl, rfl, rfl, rfl, fun j hj => by
      by_cases hji : j = i
      · subst hji; exact h6
      · exact hall j (by omega)⟩
  · repeat (first | refine vw_exit ?_)
    exact if_pos ⟨by omega, fun j hj => hall j (by omega)⟩
end Go.Proofs.YtdgaabkgfbihpaaDoor

/- A part of the proof: Q2. No conditions of its own. -/
namespace Go.Proofs.YtdgaabkgfbihpaaDoor
open Go.VL
attribute [local irreducible] VWr VOps VD Calls Last

/-- Pairs of two different numbers in 1 .. m - 1. -/
def PairOk (m : Int) (p : List Int) : Prop := NumsOk m 2 p ∧ p.getD 0 0 ≠ p.getD 1 0
def PairsOk (m : Int) (ls : List (List Int)) : Prop := ∀ (i : Nat) (p : List Int), ls[i]? = some p → PairOk m p

open Classical in
set_option maxHeartbeats 1000000 in
set_option maxRecDepth 100000 in
theorem c_needPairs (m : Int) (v : Value) (ls : List (List Int)) (a0 a1 : Addr) (w : World) (hv : RdII w v ls) (he : Errs w a0 a1) (hl : ls.length ≤ 1048576) (hll : ∀ l ∈ ls, l.length ≤ 1048576) :
    Calls Tryd.prog 30 [Value.int .i64 m, v].toArray w (Need w (if IsMod m ∧ PairsOk m ls then none else some (er a0))) := by
  obtain ⟨a, cap, rfl⟩ := hv.len
  refine calls_of_vwN Tryd.func30 rfl Tryd.ntmps30 (by simp) rfl ?_
  repeat (first | (apply vops_callp ent43 rfl; (intro w _; exact c_isModulus _ w)) | refine vops_q tyOk rfl ?_ | refine vops_nil ?_ | refine vw_seq ?_ | refine vw_region (by kernel_rfl) ?_ | refine vw_cond rfl ?_)
  refine bs_ndec2 (fun hm => ?_) (fun hm => ?_)
  · repeat (first | refine vw_regionP (o := ⟨_, .panic _, _, _, _, _⟩) rfl (by kernel_rfl) (by kernel_rfl) ?_ | refine last_panic rfl ?_ | refine vops_loadX Tryd.underlying70 rfl (sees_old he.g0 (by simp)) ?_ | refine vops_nil ?_)
    exact ⟨_, rfl, if_neg fun hh => hm hh.1⟩
  repeat (first | refine vops_q tyOk rfl ?_ | refine vops_nil ?_ | refine vw_seq ?_ | refine vw_region (by kernel_rfl) ?_ | refine vw_skip ?_ | refine vw_block ?_)
  refine vw_loop (fun m' f own => ∃ i : Nat, i ≤ ls.length ∧ m' = ls.length - i ∧ f 12 = .int .i64 i ∧ f 11 = .int .i64 ls.length ∧ f 10 = .slice a ls.length cap ∧ f 0 = .int .i64 m ∧ own = [] ∧ ∀ (j : Nat) (p : List Int), j < i → ls[j]? = some p → PairOk m p) ls.length
    ⟨0, by omega, by omega, rfl, rfl, rfl, rfl, rfl, fun j p hj => by omega⟩ ?_
  rintro m' f own ⟨i, hi, rfl, h12, h11, h10, h0, rfl, hall⟩
  rw [upd_of h12, upd_of h11, upd_of h10, upd_of h0]
  repeat (first | refine vops_q tyOk rfl ?_ | refine vops_nil ?_ | refine vw_seq ?_ | refine vw_region (by kernel_rfl) ?_ | refine vw_cond rfl ?_)
  refine bs_dec (fun h4 => ?_) (fun h4 => ?_)
  · obtain ⟨l, hli⟩ : ∃ l, ls[i]? = some l := ⟨_, List.getElem?_eq_getElem (by omega)⟩
    have hl2 := hll l (List.mem_of_getElem? hli)
    obtain ⟨b', o, cap', u, hee, hcu, hu⟩ := hv.at hli
    cases hee
    obtain ⟨a2, cap2, rfl⟩ := hu.len
    repeat (first | refine vops_load tyOk rfl rfl rfl (sees_old hcu (by simp)) ?_ | refine vw_regionP (o := ⟨_, .call ⟨.value (.func 31), _, _⟩, _, _, _, _⟩) rfl (by kernel_rfl) (by kernel_rfl) ?_ | (apply last_call ent31 rfl; (case h => (intro w' hg; exact c_needNumbers m _ l 2 a0 a1 w' (hu.same hg.fr) (he.same hg.fr) hl2))) | refine vops_q tyOk rfl ?_ | refine vops_nil ?_ | refine vw_seq ?_ | refine vw_region (by kernel_rfl) ?_ | refine vops_p tyOk rfl (by (try simp only [inR]); omega) ?_ | refine vw_skip ?_ | refine vw_block ?_)
    · intro hc
      have hn : NumsOk m 2 l := by
        by_cases hh : NumsOk m 2 l
        · exact hh
        · rw [if_neg hh] at hc; cases hc
      have hn1 : l.length = 2 := hn.1
      obtain ⟨bq, oq, cq, hq, hcell⟩ := hu.at (i := 0) (by omega)
      cases hq
      have hc0 := hcell 0 (by have := hn.1; omega)
      have hc1 := hcell 1 (by have := hn.1; omega)
      repeat (first | refine vw_seq ?_)
      refine vw_draw [0, 1, 2, 3, 4, 5, 6] (by kernel_rfl) (by kernel_rfl) (by kernel_rfl) rfl ?_
      repeat' (first | refine vd_q tyOk rfl (by first | trivial | rfl) rfl (by kernel_rfl) (by kernel_rfl) ?_ | refine vd_p tyOk rfl (by first | trivial | rfl) rfl (by kernel_rfl) (by kernel_rfl) (by (try simp only [inR]); omega) ?_ | refine vd_nil (by kernel_rfl) ?_ | refine vd_load tyOk rfl (by first | trivial | rfl) rfl rfl rfl (by kernel_rfl) (by kernel_rfl) (by kernel_rfl) (sees_old hc0 (by simp)) (by first | exact sub_refl | exact sub_cons sub_refl | exact sub_app sub_refl) ?_ | refine vd_load tyOk rfl (by first | trivial | rfl) rfl rfl rfl (by kernel_rfl) (by kernel_rfl) (by kernel_rfl) (sees_old hc1 (by simp)) (by first | exact sub_refl | exact sub_cons sub_refl | exact sub_app sub_refl) ?_)
      repeat (first | refine vw_cond rfl ?_)
      refine bs_dec (fun h6 => ?_) (fun h6 => ?_)
      · repeat (first | refine vw_regionP (o := ⟨_, .panic _, _, _, _, _⟩) rfl (by kernel_rfl) (by kernel_rfl) ?_ | refine last_panic rfl ?_ | refine vops_loadX Tryd.underlying70 rfl (sees_old he.g0 (by simp)) ?_ | refine vops_nil ?_)
        exact ⟨_, rfl, if_neg fun hh => (hh.2 i l hli).2 h6⟩
      repeat (first | refine vops_q tyOk rfl ?_ | refine vops_nil ?_ | refine vw_region (by kernel_rfl) ?_ | refine vops_p tyOk rfl (by (try simp only [inR]); omega) ?_ | refine vw_skip ?_)
      exact ⟨ls.length - (i + 1), by omega, i + 1, by omega, rfl, rfl, rfl, rfl, rfl, rfl, fun j p hj hp => by
        by_cases hji : j = i
        · subst hji
          obtain rfl : l = p := Option.some.inj (hli.symm.trans hp)
          exact ⟨hn, h6⟩
        · exact hall j p (by omega) hp⟩
    · intro v hc
      by_cases hh : NumsOk m 2 l
      · rw [if_pos hh] at hc; cases hc
      · rw [if_neg hh] at hc
        cases hc
        exact ⟨_, rfl, if_neg fun h => hh (h.2 i l hli).1⟩
  · repeat (first | refine vw_exit ?_)
    exact if_pos ⟨hm, fun j p hp => hall j p (by have := (List.getElem?_eq_some_iff.1 hp).1; omega) hp⟩
end Go.Proofs.YtdgaabkgfbihpaaDoor

/- A part of the proof: Q3. No conditions of its own. -/
namespace Go.Proofs.YtdgaabkgfbihpaaDoor
open Go.VL
attribute [local irreducible] VWr VOps VD Calls Last

/-- The numbers of the first i pairs. -/
def usedOf (ls : List (List Int)) (i : Nat) : List Int := (ls.take i).flatten
/-- Their differences, both ways. -/
def diffOf (m : Int) (ls : List (List Int)) (i : Nat) : List Int := ((ls.take i).map fun p => [p.getD 1 0 - p.getD 0 0, m - (p.getD 1 0 - p.getD 0 0)]).flatten
theorem usedOf_zero (ls : List (List Int)) : usedOf ls 0 = [] := by simp [usedOf]
theorem diffOf_zero (m : Int) (ls : List (List Int)) : diffOf m ls 0 = [] := by simp [diffOf]
theorem list_two {p : List Int} (h : p.length = 2) : p = [p.getD 0 0, p.getD 1 0] := by
  match p, h with
  | [x, y], _ => rfl
theorem usedOf_step {ls : List (List Int)} {i : Nat} {p : List Int} (h : ls[i]? = some p) (hp : p.length = 2) : usedOf ls (i + 1) = usedOf ls i ++ [p.getD 0 0] ++ [p.getD 1 0] := by
  unfold usedOf
  rw [List.take_add_one, h]
  simp only [Option.toList_some, List.flatten_append, List.flatten_cons, List.flatten_nil, List.append_nil, List.append_assoc]
  congr 1
  exact list_two hp
theorem diffOf_step {m : Int} {ls : List (List Int)} {i : Nat} {p : List Int} (h : ls[i]? = some p) : diffOf m ls (i + 1) = diffOf m ls i ++ [p.getD 1 0 - p.getD 0 0] ++ [m - (p.getD 1 0 - p.getD 0 0)] := by
  unfold diffOf
  rw [List.take_add_one, h]
  simp
/-- What a starter asks of its pair i. -/
def StAt (m : Int) (ls : List (List Int)) (i : Nat) (p : List Int) : Prop :=
  p.getD 0 0 < p.getD 1 0 ∧ (∀ q, 0 < i → ls[i - 1]? = some q → q.getD 0 0 < p.getD 0 0) ∧ p.getD 0 0 ∉ usedOf ls i ∧ p.getD 1 0 ∉ usedOf ls i ∧ p.getD 1 0 - p.getD 0 0 ∉ diffOf m ls i
/-- A starter, of pairs of two different numbers. -/
def Starter (m : Int) (ls : List (List Int)) : Prop := (ls.length : Int) = m / 2 ∧ ∀ (i : Nat) (p : List Int), ls[i]? = some p → StAt m ls i p
theorem used_prev {ls : List (List Int)} {i : Nat} {q : List Int} (hi : 0 < i) (h : ls[i - 1]? = some q) (hq : q.length = 2) : q.getD 0 0 ∈ usedOf ls i := by
  have := usedOf_step h hq
  rw [show i - 1 + 1 = i by omega] at this
  rw [this]; simp

open Classical in
set_option maxHeartbeats 2000000 in
set_option maxRecDepth 100000 in
theorem c_needStarter (m : Int) (v : Value) (ls : List (List Int)) (a0 a1 : Addr) (w : World) (hv : RdII w v ls) (he : Errs w a0 a1) (hm : IsMod m) (hp : PairsOk m ls) :
    Calls Tryd.prog 32 [Value.int .i64 m, v].toArray w (Need w (if Starter m ls then none else some (er a1))) := by
  obtain ⟨a, cap, rfl⟩ := hv.len
  obtain ⟨hm3, hm13, _⟩ := hm
  refine calls_of_vwN Tryd.func32 rfl Tryd.ntmps32 (by simp) rfl ?_
  repeat (first | refine vops_q tyOk rfl ?_ | refine vops_nil ?_ | refine vw_seq ?_ | refine vw_region (by kernel_rfl) ?_ | refine vops_p tyOk rfl (by (try simp only [inR]); omega) ?_ | refine vw_cond rfl ?_)
  refine bs_ndec2 (fun h => ?_) (fun hlen => ?_)
  · repeat (first | refine vw_regionP (o := ⟨_, .panic _, _, _, _, _⟩) rfl (by kernel_rfl) (by kernel_rfl) ?_ | refine last_panic rfl ?_ | refine vops_loadX Tryd.underlying70 rfl (sees_old he.g1 (by simp)) ?_ | refine vops_nil ?_)
    exact ⟨_, rfl, if_neg fun hh => h hh.1⟩
  repeat (first | refine vw_seq ?_ | refine vw_region (by kernel_rfl) ?_ | refine vw_skip ?_)
  refine vops_allocZ (bools (List.replicate 13 false)) tyOk rfl rfl (by simp [bools]) (fun b4 hb4 => ?_)
  refine vops_allocZ (bools (List.replicate 13 false)) tyOk rfl rfl (by simp [bools]) (fun b5 hb5 => ?_)
  repeat (first | refine vops_q tyOk rfl ?_ | refine vops_nil ?_ | refine vw_seq ?_ | refine vw_region (by kernel_rfl) ?_ | refine vw_block ?_)
  refine vw_loop (fun m' f own => ∃ (i : Nat) (N S : List Bool) (bf : Int), i ≤ ls.length ∧ m' = ls.length - i ∧ f 20 = .int .i64 i ∧ f 19 = .int .i64 ls.length ∧ f 18 = .slice a ls.length cap ∧ f 0 = .int .i64 m ∧ f 4 = .pointer (some ⟨b4, 0, none⟩) ∧ f 5 = .pointer (some ⟨b5, 0, none⟩) ∧ f 6 = .int .i64 bf ∧
      own = [(b5, ⟨bools S, 74, 13, none⟩), (b4, ⟨bools N, 74, 13, none⟩)] ∧ Marks 13 N (usedOf ls i) ∧ Marks 13 S (diffOf m ls i) ∧ (i = 0 ∧ bf = 0 ∨ 0 < i ∧ ∃ q, ls[i - 1]? = some q ∧ bf = q.getD 0 0) ∧
      ∀ (j : Nat) (p : List Int), j < i → ls[j]? = some p → StAt m ls j p) ls.length
    ⟨0, List.replicate 13 false, List.replicate 13 false, 0, by omega, by omega, rfl, rfl, rfl, rfl, rfl, rfl, rfl, rfl, by rw [usedOf_zero]; exact Marks.nil 13, by rw [diffOf_zero]; exact Marks.nil 13, .inl ⟨rfl, rfl⟩, fun j p hj => by omega⟩ ?_
  rintro m' f own ⟨i, N, S, bf, hi, rfl, h20, h19, h18, h0, h4, h5, h6, rfl, hN, hS, hbf, hall⟩
  rw [upd_of h20, upd_of h19, upd_of h18, upd_of h0, upd_of h4, upd_of h5, upd_of h6]
  have hNl := hN.len
  have hSl := hS.len
  repeat (first | refine vops_q tyOk rfl ?_ | refine vops_nil ?_ | refine vw_seq ?_ | refine vw_region (by kernel_rfl) ?_ | refine vw_cond rfl ?_)
  refine bs_dec (fun hlt => ?_) (fun hlt => ?_)
  · obtain ⟨l, hli⟩ : ∃ l, ls[i]? = some l := ⟨_, List.getElem?_eq_getElem (by omega)⟩
    have hpl := hp i l hli
    have hl2 : l.length = 2 := hpl.1.1
    have hx := hpl.1.2 0 (by omega)
    have hy := hpl.1.2 1 (by omega)
    have hxy := hpl.2
    obtain ⟨b', o, cap', u, hee, hcu, hu⟩ := hv.at hli
    cases hee
    obtain ⟨a2, cap2, rfl⟩ := hu.len
    obtain ⟨bq, oq, cq, hq, hcell⟩ := hu.at (i := 0) (by omega)
    cases hq
    have hc0 := hcell 0 (by omega)
    have hc1 := hcell 1 (by omega)
    have hno : ¬ StAt m ls i l → (if Starter m ls then none else some (er a1)) = some (er a1) := fun h => if_neg fun hh => h (hh.2 i l hli)
    repeat (first | refine vops_load tyOk rfl rfl rfl (sees_old hcu (by simp)) ?_ | refine vops_q tyOk rfl ?_ | refine vops_nil ?_ | refine vw_seq ?_ | refine vw_region (by kernel_rfl) ?_ | refine vops_p tyOk rfl (by (try simp only [inR]); omega) ?_ | refine vw_skip ?_ | refine vw_block ?_)
    refine vw_draw [0, 1, 2, 3, 4, 5, 6, 7] (by kernel_rfl) (by kernel_rfl) (by kernel_rfl) rfl ?_
    repeat' (first | refine vd_q tyOk rfl (by first | trivial | rfl) rfl (by kernel_rfl) (by kernel_rfl) ?_ | refine vd_p tyOk rfl (by first | trivial | rfl) rfl (by kernel_rfl) (by kernel_rfl) (by (try simp only [inR]); omega) ?_ | refine vd_nil (by kernel_rfl) ?_ | refine vd_load tyOk rfl (by first | trivial | rfl) rfl rfl rfl (by kernel_rfl) (by kernel_rfl) (by kernel_rfl) (sees_old hc0 (by simp)) (by repeat (first | exact sub_hereL | exact sub_refl | apply sub_cons | apply sub_app)) ?_ | refine vd_load tyOk rfl (by first | trivial | rfl) rfl rfl rfl (by kernel_rfl) (by kernel_rfl) (by kernel_rfl) (sees_old hc1 (by simp)) (by repeat (first | exact sub_hereL | exact sub_refl | apply sub_cons | apply sub_app)) ?_)
    repeat (first | refine vops_q tyOk rfl ?_ | refine vw_seq ?_ | refine vw_region (by kernel_rfl) ?_ | refine vops_guardF rfl rfl ?_)
    refine bs_dec (fun hA => ?_) (fun hA => ?_)
    · repeat (first | refine vw_regionP (o := ⟨_, .panic _, _, _, _, _⟩) rfl (by kernel_rfl) (by kernel_rfl) ?_ | refine last_panic rfl ?_ | refine vops_loadX Tryd.underlying70 rfl (sees_old he.g1 (by simp)) ?_ | refine vops_q tyOk rfl ?_ | refine vops_nil ?_ | refine vops_guardF rfl rfl ?_ | with_reducible refine bs_true ?_ | refine vw_cond rfl ?_)
      refine ⟨_, rfl, hno fun hh => ?_⟩
      rcases hbf with ⟨_, h⟩ | ⟨hi0, q, hq, h⟩
      · omega
      · have := hh.2.1 q hi0 hq
        omega
    repeat (first | refine vops_q tyOk rfl ?_ | refine vops_nil ?_ | refine vops_guardF rfl rfl ?_ | with_reducible refine bs_false ?_ | refine vw_cond rfl ?_)
    refine bs_dec (fun hB => ?_) (fun hB => ?_)
    · repeat (first | refine vw_regionP (o := ⟨_, .panic _, _, _, _, _⟩) rfl (by kernel_rfl) (by kernel_rfl) ?_ | refine last_panic rfl ?_ | refine vops_loadX Tryd.underlying70 rfl (sees_old he.g1 (by simp)) ?_ | refine vops_nil ?_)
      exact ⟨_, rfl, hno fun hh => by have := hh.1; omega⟩
    repeat (first | refine vops_loadM tyOk rfl rfl rfl (by repeat (first | exact mem_here | apply mem_next | apply mem_past)) (by exact bools_get (by omega)) ?_ | refine vops_q tyOk rfl ?_ | refine vops_nil ?_ | refine vw_seq ?_ | refine vw_region (by kernel_rfl) ?_ | refine vops_guardF rfl rfl ?_ | refine vops_p tyOk rfl (by (try simp only [inR]); omega) ?_ | refine vw_skip ?_)
    rw [hN.get (a := l.getD 0 0) (by omega) (by omega)]
    refine bs_dec (fun hC => ?_) (fun hC => ?_)
    · repeat (first | refine vw_regionP (o := ⟨_, .panic _, _, _, _, _⟩) rfl (by kernel_rfl) (by kernel_rfl) ?_ | refine last_panic rfl ?_ | refine vops_loadX Tryd.underlying70 rfl (sees_old he.g1 (by simp)) ?_ | refine vops_q tyOk rfl ?_ | refine vops_nil ?_ | refine vops_guardF rfl rfl ?_ | with_reducible refine bs_true ?_ | refine vw_cond rfl ?_)
      exact ⟨_, rfl, hno fun hh => hh.2.2.1 hC⟩
    repeat (first | refine vops_loadM tyOk rfl rfl rfl (by repeat (first | exact mem_here | apply mem_next | apply mem_past)) (by exact bools_get (by omega)) ?_ | refine vops_q tyOk rfl ?_ | refine vops_guardF rfl rfl ?_ | with_reducible refine bs_false ?_ | refine vops_p tyOk rfl (by (try simp only [inR]); omega) ?_)
    rw [hN.get (a := l.getD 1 0) (by omega) (by omega)]
    refine bs_dec (fun hD => ?_) (fun hD => ?_)
    · repeat (first | refine vw_regionP (o := ⟨_, .panic _, _, _, _, _⟩) rfl (by kernel_rfl) (by kernel_rfl) ?_ | refine last_panic rfl ?_ | refine vops_loadX Tryd.underlying70 rfl (sees_old he.g1 (by simp)) ?_ | refine vops_q tyOk rfl ?_ | refine vops_nil ?_ | refine vops_guardF rfl rfl ?_ | with_reducible refine bs_true ?_ | refine vw_cond rfl ?_)
      exact ⟨_, rfl, hno fun hh => hh.2.2.2.1 hD⟩
    repeat (first | refine vops_loadM tyOk rfl rfl rfl (by repeat (first | exact mem_here | apply mem_next | apply mem_past)) (by exact bools_get (by omega)) ?_ | refine vops_q tyOk rfl ?_ | refine vops_nil ?_ | refine vops_guardF rfl rfl ?_ | with_reducible refine bs_false ?_ | refine vops_p tyOk rfl (by (try simp only [inR]); omega) ?_ | refine vw_cond rfl ?_)
    rw [hS.get (a := l.getD 1 0 - l.getD 0 0) (by omega) (by omega)]
    refine bs_dec (fun hE => ?_) (fun hE => ?_)
    · repeat (first | refine vw_regionP (o := ⟨_, .panic _, _, _, _, _⟩) rfl (by kernel_rfl) (by kernel_rfl) ?_ | refine last_panic rfl ?_ | refine vops_loadX Tryd.underlying70 rfl (sees_old he.g1 (by simp)) ?_ | refine vops_nil ?_)
      exact ⟨_, rfl, hno fun hh => hh.2.2.2.2 hE⟩
    repeat (first | refine vops_storeBM tyOk rfl rfl rfl rfl (by repeat (first | exact upd_here | apply upd_next | apply upd_past)) (by first | omega | (rw [List.length_set]; omega)) ?_ | refine vops_q tyOk rfl ?_ | refine vops_nil ?_ | refine vw_seq ?_ | refine vw_region (by kernel_rfl) ?_ | refine vops_p tyOk rfl (by (try simp only [inR]); omega) ?_ | refine vw_skip ?_)
    refine ⟨ls.length - (i + 1), by omega, i + 1, _, _, l.getD 0 0, by omega, rfl, rfl, rfl, rfl, rfl, rfl, rfl, rfl, rfl, ?_, ?_, .inr ⟨by omega, l, hli, rfl⟩, fun j p hj hpj => ?_⟩
    · rw [usedOf_step hli hl2]
      exact (hN.set (by omega) (by omega)).set (by omega) (by omega)
    · rw [diffOf_step hli]
      exact (hS.set (by omega) (by omega)).set (by omega) (by omega)
    · by_cases hji : j = i
      · subst hji
        obtain rfl : l = p := Option.some.inj (hli.symm.trans hpj)
        refine ⟨by omega, fun q hq0 hq => ?_, hC, hD, hE⟩
        have hql := (hp _ q hq).1.1
        have hmem := used_prev hq0 hq hql
        have hne : q.getD 0 0 ≠ l.getD 0 0 := fun e => hC (by rw [← e]; exact hmem)
        rcases hbf with ⟨h, _⟩ | ⟨_, q', hq', h⟩
        · omega
        · obtain rfl : q = q' := Option.some.inj (hq.symm.trans hq')
          omega
      · exact hall j p (by omega) hpj
  · repeat (first | refine vw_exit ?_)
    exact if_pos ⟨by omega, fun j p hp => hall j p (by have := (List.getElem?_eq_some_iff.1 hp).1; omega) hp⟩
end Go.Proofs.YtdgaabkgfbihpaaDoor

/-! errors.Is at two errors of errors.New's make: Go's own text of it is walked (after the guide's worked text for such callers). -/
namespace Go.Proofs.YtdgaabkgfbihpaaDoor
open Go.RowKit Go.Extern.Stop Go.Stop Go.Extern

theorem isTypeOf (v : Value) (w : World) : (Extern.ReflectliteType.typeOf #[.iface 94 v]).run Tryd.prog w = .ok (.iface 84 (.agg #[.pointer (some ⟨2, 94, none⟩)])) w := by kernel_rfl
theorem isComparable (w : World) : ((Extern.ReflectliteType.method fun t => do Extern.Rtype.noPackHeld "Comparable" t; (fun a => Value.bool a.comparable) <$> typeInfo t) #[.agg #[.pointer (some ⟨2, 94, none⟩)]]).run Tryd.prog w = .ok (.bool true) w := by kernel_rfl
theorem isMethodComparable (v : Value) (w : World) : (Go.method 232 84 v "Comparable").run Tryd.prog w = .ok (70, v) w := by kernel_rfl
theorem isComp : (Tryd.prog.info? 94).map (·.comparable) = some true := by kernel_rfl
theorem isSize : (Tryd.prog.info? 120).map (·.size) = some 1 := by kernel_rfl
theorem noIsE (v : Value) (xT : TypeId) (w : World) : (Instr.typeAssert (.iface 94 v) xT 86 true).run Tryd.prog w = .ok (.tuple #[.nilIface, .bool false]) w := run_typeAssert_lacksB Tryd.underlying86 (by kernel_rfl) (by kernel_rfl) v xT w
theorem noUnwrapE (v : Value) (xT : TypeId) (w : World) : (Instr.typeAssert (.iface 94 v) xT 89 true).run Tryd.prog w = .ok (.tuple #[.nilIface, .bool false]) w := run_typeAssert_lacksB Tryd.underlying89 (by kernel_rfl) (by kernel_rfl) v xT w
theorem noUnwrapsE (v : Value) (xT : TypeId) (w : World) : (Instr.typeAssert (.iface 94 v) xT 91 true).run Tryd.prog w = .ok (.tuple #[.nilIface, .bool false]) w := run_typeAssert_lacksB Tryd.underlying91 (by kernel_rfl) (by kernel_rfl) v xT w

/-- errors.Is(x, x). -/
theorem is_same (a : Addr) (w : World) :
    Calls Tryd.prog 47 #[.iface 94 (.pointer (some a)), .iface 94 (.pointer (some a))] w fun e w' => e = .returned (.bool true) ∧ w' = w := by
  obtain ⟨i, hi, hcmp⟩ := Option.map_eq_some_iff.1 isComp
  obtain ⟨j, hj, hjs⟩ := Option.map_eq_some_iff.1 isSize
  have h8 := @run_callFunc_extern Tryd.prog 48 _ Extern.ReflectliteType.typeOf Tryd.func48 (by kernel_rfl) (by kernel_rfl) (by kernel_rfl) (by kernel_rfl)
  have h32 := @run_callFunc_extern Tryd.prog 70 _ (Extern.ReflectliteType.method fun t => do Extern.Rtype.noPackHeld "Comparable" t; pure (.bool (← typeInfo t).comparable)) Tryd.func70 (by kernel_rfl) (by kernel_rfl) (by kernel_rfl) (by kernel_rfl)
  have tT := isTypeOf
  have cT := isComparable
  have mR := isMethodComparable
  have heq := run_eql_iface_ptr_same (P := Tryd.prog) w a Tryd.underlying70 Tryd.underlying94 hi hcmp hj
  go_enter Tryd.func47, Tryd.ntmps47
  go_wp2
  refine wp_loop_rounds 1 ?_
  rw [rounds_succ]
  go_wp2
  go_ret
  exact ⟨rfl, rfl⟩

/-- errors.Is(x, y), two different ones: neither has Is nor Unwrap: false. -/
theorem is_other (a b : Addr) (ca cb : Array Value) (ta tb : TypeId) (w : World) (hne : a ≠ b) (ha : w.heap[a.block]? = some (.cells ca ta (0, 0))) (hb : w.heap[b.block]? = some (.cells cb tb (0, 0))) :
    Calls Tryd.prog 47 #[.iface 94 (.pointer (some a)), .iface 94 (.pointer (some b))] w fun e w' => e = .returned (.bool false) ∧ w' = w := by
  obtain ⟨i, hi, hcmp⟩ := Option.map_eq_some_iff.1 isComp
  obtain ⟨j, hj, hjs⟩ := Option.map_eq_some_iff.1 isSize
  have h8 := @run_callFunc_extern Tryd.prog 48 _ Extern.ReflectliteType.typeOf Tryd.func48 (by kernel_rfl) (by kernel_rfl) (by kernel_rfl) (by kernel_rfl)
  have h32 := @run_callFunc_extern Tryd.prog 70 _ (Extern.ReflectliteType.method fun t => do Extern.Rtype.noPackHeld "Comparable" t; pure (.bool (← typeInfo t).comparable)) Tryd.func70 (by kernel_rfl) (by kernel_rfl) (by kernel_rfl) (by kernel_rfl)
  have tT := isTypeOf
  have cT := isComparable
  have mR := isMethodComparable
  have nE := noIsE
  have uE := noUnwrapE
  have vE := noUnwrapsE
  have heq := run_eql_iface_ptr_other (P := Tryd.prog) w Tryd.underlying70 Tryd.underlying94 hi hcmp hj (by rw [hjs]; decide) hne ha hb
  go_enter Tryd.func47, Tryd.ntmps47
  go_wp2
  refine wp_loop_rounds 1 ?_
  rw [rounds_succ]
  go_wp2
  go_ret
  exact ⟨rfl, rfl⟩
end Go.Proofs.YtdgaabkgfbihpaaDoor

/- A part of the proof: Q5. No conditions of its own. -/
namespace Go.Proofs.YtdgaabkgfbihpaaDoor
open Go.VL Go.RowKit
attribute [local irreducible] VWr VOps VD Calls Last

theorem asserts (v : Value) (xT : TypeId) (w : World) : (Instr.typeAssert (.iface 94 v) xT 70 true).run Tryd.prog w = .ok (.tuple #[.iface 94 v, .bool true]) w := run_typeAssert_hasB Tryd.underlying70 (by kernel_rfl) v xT w

/-- The code for an error. -/
theorem c_code1 (a0 a1 : Addr) (w : World) (he : Errs w a0 a1) : Calls Tryd.prog 42 [er a1].toArray w (Res w (Is (.int .i64 1))) := by
  refine calls_of_vw Tryd.func42 rfl Tryd.ntmps42 (by simp) ?_
  repeat (first | refine vops_q tyOk rfl ?_ | refine vops_nil ?_ | refine vw_seq ?_ | refine vw_region (by kernel_rfl) ?_ | with_reducible refine bs_true ?_ | refine vw_cond rfl ?_ | refine vw_ret ?_ | refine vops_loadX Tryd.underlying70 rfl (sees_old he.g1 (by simp)) ?_ | (apply vops_callp ent47 rfl; (intro w' hg; exact ((is_same a1 w').mono fun e w2 ⟨h1, h2⟩ => by rw [h1, h2]; exact Res.pure (Fr.refl [] w')))))
  exact rv_int rfl rfl rfl
theorem c_code0 (a0 a1 : Addr) (w : World) (he : Errs w a0 a1) : Calls Tryd.prog 42 [er a0].toArray w (Res w (Is (.int .i64 2))) := by
  refine calls_of_vw Tryd.func42 rfl Tryd.ntmps42 (by simp) ?_
  repeat (first | refine vops_q tyOk rfl ?_ | refine vops_nil ?_ | refine vw_seq ?_ | refine vw_region (by kernel_rfl) ?_ | with_reducible refine bs_false ?_ | refine vw_cond rfl ?_ | refine vw_skip ?_ | refine vw_ret ?_ | refine vops_loadX Tryd.underlying70 rfl (sees_old he.g1 (by simp)) ?_ | (apply vops_callp ent47 rfl; (intro w' hg; obtain ⟨c0, t0, h0⟩ := (he.same hg.fr).h0; obtain ⟨c1, t1, h1⟩ := (he.same hg.fr).h1; exact ((is_other a0 a1 c0 c1 t0 t1 w' he.ne h0 h1).mono fun e w2 ⟨h1, h2⟩ => by rw [h1, h2]; exact Res.pure (Fr.refl [] w')))))
  exact rv_int rfl rfl rfl

set_option maxRecDepth 100000 in
/-- The deferred closure of the door, where a check has panicked. -/
theorem catch_pan (b : Nat) (x c : Int) (a : Addr) (e : TypeId) (w : World) (hb : w.heap[b]? = some (.cells #[.int .i64 x] e (0, 0))) (hc : Calls Tryd.prog 42 [er a].toArray w (Res w (Is (.int .i64 c)))) :
    CallsDIn Fence.wide 0 Tryd.prog 41 #[.pointer (some ⟨b, 0, none⟩)] (.panicking (pan (er a))) w fun e u' w' => e = .returned (.tuple #[]) ∧ u' = .panicking [{ v := er a, recovered := true }] ∧ Fr [b] w w' ∧ w'.cell? ⟨b, 0, none⟩ = some (.int .i64 c) := by
  refine callsDIn_of_wpSIn Tryd.func41 rfl trivial fun c₀ cs hu => ?_
  have hta := asserts
  refine wpSIn_seq ?_
  refine wpSIn_region ?_
  simp [wpOpsSIn, go_sem, recoverD, hu, Tryd.ntmps41, Exit.thenS, hta]
  refine wpSIn_seq ?_
  refine wpSIn_region ?_
  simp [wpOpsSIn, go_sem, Exit.thenS]
  refine wpSIn_cond (t := true) (by simp [Act.eval, Array.replicate]) ?_
  simp only [if_true]
  refine wpSIn_of_wpIn rfl ?_
  refine wpIn_region ?_
  have hcall := @run_callFunc Tryd.prog 42 ent42
  simp [wpOpsIn, Oper.wpIn, go_sem, hcall]
  refine ⟨trivial, rfl, callsIn_wide.2 (hc.mono ?_)⟩
  rintro en w1 ⟨v, new, rfl, hf, _, _, rfl, rfl⟩
  have hlt : b < w.heap.size := (Array.getElem?_eq_some_iff.1 hb).1
  have hb1 : w1.heap[b]? = some (.cells #[.int .i64 x] e (0, 0)) := (hf.block b hlt (by simp)).trans hb
  have hcell : w1.cell? ⟨b, 0, none⟩ = some (.int .i64 x) := by simp [World.cell?, hb1]
  have hz : w1.frozen? ⟨b, 0, none⟩ = false := by simp [World.frozen?, hb1]
  have hF : Fr [b] w (w1.setCell ⟨b, 0, none⟩ (.int .i64 c)) := (hf.mono (m := [b]) (by simp)).trans (fr_setCell w1 b 0 _) (fun x hx => .inl hx)
  have hG : (w1.setCell ⟨b, 0, none⟩ (.int .i64 c)).cell? ⟨b, 0, none⟩ = some (.int .i64 c) := World.cell?_setCell_same' _ _ _ (by rw [hcell]; rfl)
  simp [Oper.uponIn, go_sem, hcell, hz, bodyPostS, results, Tryd.results41, hF, hG]

set_option maxRecDepth 100000 in
/-- .. where none has. -/
theorem catch_idle (b : Nat) (w : World) :
    CallsDIn Fence.wide 0 Tryd.prog 41 #[.pointer (some ⟨b, 0, none⟩)] .returning w fun e u' w' => e = .returned (.tuple #[]) ∧ u' = .returning ∧ w' = w := by
  refine callsDIn_of_wpSIn Tryd.func41 rfl trivial fun c₀ cs hu => ?_
  have hta : ∀ (xT : TypeId) (w : World), (Instr.typeAssert .nilIface xT 70 true).run Tryd.prog w = .ok (.tuple #[.nilIface, .bool false]) w := fun xT w => by kernel_rfl
  refine wpSIn_seq ?_
  refine wpSIn_region ?_
  simp [wpOpsSIn, go_sem, recoverD, hu, Tryd.ntmps41, Exit.thenS, hta]
  refine wpSIn_seq ?_
  refine wpSIn_region ?_
  simp [wpOpsSIn, go_sem, Exit.thenS]
  refine wpSIn_cond (t := false) (by simp [Act.eval, Array.replicate]) ?_
  simp only [Bool.false_eq_true, if_false]
  refine wpSIn_of_wpIn rfl (wpIn_skip ?_)
  cases c₀
  simp_all [bodyPostS, results, Tryd.results41]

set_option maxRecDepth 100000 in
theorem c_codeAtDoor (g : Nat) (lb : List Value) (hent : Ent Tryd.prog g) (a0 a1 : Addr) (c : Option Value) (k : Int) (hk : c = none ∧ k = 0 ∨ c = some (er a0) ∧ k = 2 ∨ c = some (er a1) ∧ k = 1) (w : World) (he : Errs w a0 a1)
    (h : ∀ w', Fr [] w w' → Calls Tryd.prog g lb.toArray w' (Need w' c)) : Calls Tryd.prog 28 [.func (.func g) #[] lb.toArray].toArray w (Res w (Is (.int .i64 k))) := by
  refine callsIn_wide.1 (callsIn_of_wp_defers (n := 0) Tryd.func28 rfl trivial ?_)
  refine wpIn_seq ?_
  refine wpIn_region ?_
  simp [wpOpsIn, Oper.wpIn, go_sem, Tryd.ntmps28]
  refine wpIn_seq ?_
  refine wpIn_region ?_
  simp [wpOpsIn, Oper.wpIn, go_sem]
  refine wpIn_seq ?_
  refine wpIn_region ?_
  have hcall := @run_callFunc Tryd.prog g hent
  simp [wpOpsIn, Oper.wpIn, go_sem, hcall]
  have hfa : Fr [] w (w.alloc (.cells #[.int .i64 0] 2)) := ⟨rfl, rfl, rfl, by simp, fun b hb _ => heap_alloc_old _ _ hb⟩
  refine ⟨trivial, rfl, callsIn_wide.2 ((h _ hfa).mono ?_)⟩
  rintro en w1 ⟨hf1, hen⟩
  have hB : (w.alloc (.cells #[.int .i64 0] 2)).heap[w.heap.size]? = some (.cells #[.int .i64 0] 2 (0, 0)) := World.alloc_heap_new _ _
  have hB1 : w1.heap[w.heap.size]? = some (.cells #[.int .i64 0] 2 (0, 0)) := (hf1.block _ (by simp) (by simp)).trans hB
  have hw1 : Fr [] w w1 := hfa.trans hf1 (by simp)
  have hcat := @run_callFunc Tryd.prog 41 ent41
  have hinv : ∀ w2 : World, (invoke (.fn (.func 41) #[.pointer (some ⟨w.heap.size, 0, none⟩)]) #[]).run Tryd.prog w2 = .ok (.enter 41 #[.pointer (some ⟨w.heap.size, 0, none⟩)]) w2 := fun w2 => by simp [go_sem, hcat]
  -- behind the deferred call: the code is read
  have fin : ∀ (tm : Array Value) (w2 : World), tm.getD 2 undef = .pointer (some ⟨w.heap.size, 0, none⟩) → w2.cell? ⟨w.heap.size, 0, none⟩ = some (.int .i64 k) → Fr [w.heap.size] w1 w2 → LeavesIn Fence.wide 0 Tryd.prog Tryd.f28 tm (Res w (Is (.int .i64 k))) [] .returning w2 := fun tm w2 ht hc2 hf2 => by
    refine ⟨.int .i64 k, ?_, Res.pure (hw1.trans hf2 (by simp))⟩
    simp only [Array.getD_eq_getD_getElem?] at ht
    simp [results, Tryd.results28, go_sem, ht, hc2]
  cases c with
  | none =>
    have hen : en = .returned (.tuple #[]) := hen
    subst hen
    have hk0 : k = 0 := by
      rcases hk with ⟨_, h⟩ | ⟨h, _⟩ | ⟨h, _⟩
      · exact h
      · cases h
      · cases h
    subst hk0
    have hcell : w1.cell? ⟨w.heap.size, 0, none⟩ = some (.int .i64 0) := by simp [World.cell?, hB1]
    have hz : w1.frozen? ⟨w.heap.size, 0, none⟩ = false := by simp [World.frozen?, hB1]
    refine wpIn_seq ?_
    refine wpIn_region ?_
    simp [wpOpsIn, Oper.wpIn, go_sem, hcell, hz]
    refine wpIn_ret ?_
    show LeavesIn _ _ _ _ _ _ _ _ _
    refine leavesIn_cons (by simp) (fun h => by cases h) (hinv _) (fun _ _ => trivial) ?_
    refine (catch_idle w.heap.size _).mono ?_
    rintro e u' w2 ⟨rfl, rfl, rfl⟩
    exact fin _ _ (by simp [Array.replicate]) (World.cell?_setCell_same' _ _ _ (by rw [hcell]; rfl)) (fr_setCell w1 _ 0 _)
  | some v =>
    have hen : en = .panicked (pan v) := hen
    subst hen
    obtain ⟨a, rfl, hck⟩ : ∃ a, v = er a ∧ Calls Tryd.prog 42 [er a].toArray w1 (Res w1 (Is (.int .i64 k))) := by
      rcases hk with ⟨h, _⟩ | ⟨h, hk⟩ | ⟨h, hk⟩
      · cases h
      · cases h; rw [hk]; exact ⟨a0, rfl, c_code0 a0 a1 w1 (he.same hw1)⟩
      · cases h; rw [hk]; exact ⟨a1, rfl, c_code1 a0 a1 w1 (he.same hw1)⟩
    show LeavesIn _ _ _ _ _ _ _ _ _
    refine leavesIn_cons (by simp) (fun h => by cases h) (hinv _) (fun _ _ => trivial) ?_
    refine (catch_pan w.heap.size 0 k a _ w1 hB1 hck).mono ?_
    rintro e u' w2 ⟨rfl, rfl, hf2, hc2⟩
    exact fin _ w2 (by simp [Array.replicate]) hc2 hf2

/-! the code of pairs that are to be a starter -/
open Classical in
/-- 2: not as told; 1: no starter; 0: a starter. -/
noncomputable def stCode (m : Int) (ls : List (List Int)) : Int := if IsMod m ∧ PairsOk m ls then if Starter m ls then 0 else 1 else 2
/-- What the checks of a starter panic with. -/
noncomputable def stPan (m : Int) (ls : List (List Int)) (a0 a1 : Addr) : Option Value := if stCode m ls = 0 then none else if stCode m ls = 1 then some (er a1) else some (er a0)

end Go.Proofs.YtdgaabkgfbihpaaDoor

