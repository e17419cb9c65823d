import Derived.Test.YtbnanjkhpeneeaaP21
import Derived.Test.YtbnanjkhpeneeaaVLRanF
import Derived.Test.YtbnanjkhpeneeaaVLArr
/- Parts of the proof, one after another. No conditions of their own. -/
/- A part of the proof: P22. No conditions of its own. -/
namespace Go.Proofs.Ytbnanjkhpeneeaa
open Go.VL
attribute [local irreducible] VWr VOps VD Calls

/-- The pairs of a round, as far as the team k. -/
def pairsTo (r : List Int) (k : Nat) : List (List Int) := ((List.range k).filter fun (a : Nat) => decide ((a : Int) < r.getD a 0)).map fun (a : Nat) => [(a : Int), r.getD a 0]
theorem pairsTo_yes {r : List Int} {k : Nat} (h : (k : Int) < r.getD k 0) : pairsTo r (k + 1) = pairsTo r k ++ [[(k : Int), r.getD k 0]] := by
  unfold pairsTo
  rw [List.range_succ, List.filter_append, List.map_append]
  have : ([k].filter fun (a : Nat) => decide ((a : Int) < r.getD a 0)) = [k] := by simp only [List.filter_cons, decide_eq_true h, if_true, List.filter_nil]
  rw [this]; rfl
theorem pairsTo_no {r : List Int} {k : Nat} (h : ¬ (k : Int) < r.getD k 0) : pairsTo r (k + 1) = pairsTo r k := by
  unfold pairsTo
  rw [List.range_succ, List.filter_append, List.map_append]
  have : ([k].filter fun (a : Nat) => decide ((a : Int) < r.getD a 0)) = [] := by simp only [List.filter_cons, decide_eq_false h, Bool.false_eq_true, if_false, List.filter_nil]
  rw [this]; simp
theorem pairsTo_le (r : List Int) (k : Nat) : (pairsTo r k).length ≤ k := by
  have := List.length_filter_le (fun (a : Nat) => decide ((a : Int) < r.getD a 0)) (List.range k)
  simpa [pairsTo] using this
theorem pairsTo_mono {r : List Int} {k n : Nat} (h : k ≤ n) : ∃ t, pairsTo r n = pairsTo r k ++ t := by
  obtain ⟨d, rfl⟩ : ∃ d, n = k + d := ⟨n - k, by omega⟩
  clear h
  induction d with
  | zero => exact ⟨[], by simp⟩
  | succ d ih =>
    obtain ⟨t, ht⟩ := ih
    by_cases hc : ((k + d : Nat) : Int) < r.getD (k + d) 0
    · exact ⟨t ++ [_], by rw [show k + (d + 1) = k + d + 1 by omega, pairsTo_yes hc, ht, List.append_assoc]⟩
    · exact ⟨t, by rw [show k + (d + 1) = k + d + 1 by omega, pairsTo_no hc, ht]⟩
theorem pairsTo_at {r : List Int} {k n : Nat} (h : (k : Int) < r.getD k 0) (hk : k < n) : (pairsTo r n)[(pairsTo r k).length]? = some [(k : Int), r.getD k 0] := by
  obtain ⟨t, ht⟩ := pairsTo_mono (r := r) (k := k + 1) (n := n) (by omega)
  rw [ht, pairsTo_yes h, List.append_assoc, List.getElem?_append_right (Nat.le_refl _), Nat.sub_self]; rfl
theorem pairsTo_pair {r p : List Int} {k : Nat} (h : p ∈ pairsTo r k) : p.length = 2 := by
  obtain ⟨a, _, rfl⟩ := List.mem_map.1 h; rfl
/-- What pairsIn hands on. -/
def pairVals (n : Int) (r : List Int) : List (List Value) := (pairsTo r n.toNat).map ints
def PairsCap (n : Int) (r : List Int) (b2 b3 : Nat) : Own := [(b3, ⟨ints r, 25, (ints r).length, none⟩), (b2, ⟨[.int .i64 n], 2, 1, none⟩)]
theorem outNone {P : Program} {Γ : Ctx} {f : Nat → Value} {own : Own} {n : Nat} {fn : Func} {S : Value → Own → Prop} {new : Own} (h : fn.results = #[]) (hn : (ids new).Nodup) (hs : Sub new own) (hS : S (.tuple #[]) new) : Out P Γ n fn S .ret f own :=
  ⟨_, new, fun _ _ _ _ => results_none h _ _ _, hn, hs, hS⟩

end Go.Proofs.Ytbnanjkhpeneeaa

/- A part of the proof: P23. No conditions of its own. -/
namespace Go.Proofs.Ytbnanjkhpeneeaa
open Go.VL
attribute [local irreducible] VWr VOps VD Calls

noncomputable def pairsOf (n : Int) (r : List Int) : List (List Int) × Int := if IsRd n r then (pairsTo r n.toNat, 0) else ([], 2)
theorem sumLen_two : ∀ {ls : List (List Int)}, (∀ l ∈ ls, l.length = 2) → sumLen ls = ls.length * 2
  | [], _ => rfl
  | l :: ls, h => by
    simp only [sumLen, List.length_cons, h l (by simp), sumLen_two (ls := ls) fun q hq => h q (by simp [hq])]; omega
theorem pairsOf_ok (n : Int) (r : List Int) : (pairsOf n r).1.length ≤ 1048576 ∧ (∀ l ∈ (pairsOf n r).1, l.length ≤ 1048576) ∧ sumLen (pairsOf n r).1 ≤ 1048576 := by
  unfold pairsOf
  split
  · rename_i h
    have h14 := h.2.1
    have h1 := pairsTo_le r n.toNat
    refine ⟨by show (pairsTo r n.toNat).length ≤ _; omega, fun l hl => by rw [pairsTo_pair hl]; omega, ?_⟩
    show sumLen (pairsTo r n.toNat) ≤ _
    rw [sumLen_two fun l hl => pairsTo_pair hl]; omega
  · simp [sumLen]

end Go.Proofs.Ytbnanjkhpeneeaa

