import Derived.Test.YtbnanjkhpeneeaaP40
import Derived.Test.YtbnanjkhpeneeaaPT1
import Derived.Test.YtbnanjkhpeneeaaVLArr
/- A part of the proof: PT2. No conditions of its own. -/
namespace Go.Proofs.Ytbnanjkhpeneeaa
open Go.VL Go.RowKit
attribute [local irreducible] VWr VOps VD Calls

/-- The numbers of the teams of components. -/
def sizesOf (cs : List (List Int)) : List Int := cs.map fun c => (c.length : Int)
theorem sizesOf_length (cs : List (List Int)) : (sizesOf cs).length = cs.length := by simp [sizesOf]
theorem sizesOf_take {cs : List (List Int)} {i : Nat} {c : List Int} (h : cs[i]? = some c) : (sizesOf cs).take (i + 1) = (sizesOf cs).take i ++ [(c.length : Int)] := by
  rw [List.take_add_one]
  simp [sizesOf, h]
/-- .. the greater ones first. -/
def typeL (cs : List (List Int)) : List Int := (sizesOf cs).mergeSort fun x y => decide (y ≤ x)
theorem typeL_length (cs : List (List Int)) : (typeL cs).length = cs.length := by unfold typeL; rw [List.length_mergeSort, sizesOf_length]
/-- An ascending list, read from its end. -/
theorem typeL_of_sorted {cs : List (List Int)} {m : List Int} (hp : m.Perm (sizesOf cs)) (hs : m.Pairwise (· ≤ ·)) : m.reverse = typeL cs := by
  have h1 : (typeL cs).Pairwise (fun x y => y ≤ x) := by
    have := List.pairwise_mergeSort (le := fun x y : Int => decide (y ≤ x)) (fun a b c h1 h2 => by simp at *; omega) (fun a b => by simp; omega) (sizesOf cs)
    exact this.imp fun h => by simpa using h
  have h2 : m.reverse.Pairwise (fun x y => y ≤ x) := List.pairwise_reverse.2 hs
  have h3 : m.reverse.Perm (typeL cs) := (List.reverse_perm m).trans (hp.trans (List.mergeSort_perm _ _).symm)
  exact List.Perm.eq_of_pairwise (fun a b _ _ h1 h2 => Int.le_antisymm h2 h1) h2 h1 h3
noncomputable def typeR (n : Int) (r q : List Int) : List Int × Int := open Classical in if IsRd n r ∧ IsRd n q then (typeL (comps n r q n.toNat), 0) else ([], 2)
theorem type_len (n : Int) (r q : List Int) : (typeR n r q).1.length ≤ 1048576 := by
  unfold typeR
  split
  · rename_i h
    have := comps_length n r q n.toNat
    have := h.1.2.1
    show (typeL _).length ≤ _
    rw [typeL_length]; omega
  · simp
theorem comps_some (n : Int) (r q : List Int) : ∀ i : Nat, 1 ≤ (comps n r q (i + 1)).length := by
  intro i
  induction i with
  | zero =>
    have : comps n r q 1 = [] ++ [compOf n r q 0] := if_neg (fun h => by obtain ⟨c, hc, _⟩ := h; cases hc)
    rw [this]; simp
  | succ i ih =>
    by_cases h : Met n r q (i + 1) ((i + 1 : Nat) : Int)
    · have : comps n r q (i + 1 + 1) = comps n r q (i + 1) := if_pos h
      rw [this]; exact ih
    · have : comps n r q (i + 1 + 1) = comps n r q (i + 1) ++ [compOf n r q ((i + 1 : Nat) : Int)] := if_neg h
      rw [this, List.length_append]; omega

theorem c_sortD (b e cap : Nat) (l : List Int) (w : World) (ho : OwnOk [(b, (⟨ints l, e, cap, none⟩ : Blk))] w) (hl : l.length ≤ 1048576) (c : Nat) :
    Calls Try.prog 93 [.slice (some ⟨b, 0, none⟩) l.length c, .func (.func 94) #[] #[]].toArray w (ResM w [(b, ⟨ints l, e, cap, none⟩)] (fun u new => u = .tuple #[] ∧ new = [(b, ⟨ints (l.mergeSort fun x y => decide (y ≤ x)), e, cap, none⟩)])) := by
  have hb : b < w.heap.size := ho.lt (ids_mem List.mem_cons_self)
  have h := Any.slices_SortFunc Try.sortF (Value.int .i64) (fun _ => rfl) cfD swoD 94 #[] b 0 c l.toArray w (fun args w => run_callFunc ent94 args w) (CmpReads.lays (fun _ _ _ _ x y => closureD x y _)) (holds_of_own ho List.mem_cons_self) hb (by simp; omega)
  refine Calls.mono (show Calls Try.prog 93 _ w _ from h) ?_
  rintro en w' ⟨rfl, d', n, os, hp, hs, rfl⟩
  have e1 := Go.Sort.sorted_unique_holds swoD totD l.toArray d' hp hs
  have e2 : (fun x y : Int => !ltOf cfD y x) = fun x y => decide (y ≤ x) := by
    funext x y
    rw [ltD]
    by_cases h : y ≤ x
    · have h' : ¬ x < y := by omega
      simp [h, h']
    · have h' : x < y := by omega
      simp [h, h']
  rw [e2] at e1
  rw [← e1]
  exact resM_putRow ho (by rw [e1, List.length_mergeSort])
end Go.Proofs.Ytbnanjkhpeneeaa
