import Derived.Test.YtnammdmiljjhjaaVLLol
import Derived.Sort.Grow
/-! The library's sort and its like, over a list of numbers of one's own. -/
namespace Go.VL
open Go.RowKit

theorem toArray_get {l : List Int} {j : Nat} (h : j < l.length) : l.toArray[j]! = l.getD j 0 := by
  simp [List.getD_eq_getElem?_getD, h]
theorem holds_of_own {own : Own} {w : World} {b e cap : Nat} {l : List Int} (ho : OwnOk own w) (hm : (b, (⟨ints l, e, cap, none⟩ : Blk)) ∈ own) : Go.Sort.Holds (Value.int .i64) w b 0 l.toArray := by
  intro j hj
  have hj' : j < l.length := by simpa using hj
  obtain ⟨arr, h1, _, _⟩ := ho.row hm rfl
  refine ⟨?_, frozen_of_row w b (0 + j) arr e h1⟩
  rw [Nat.zero_add, toArray_get hj']
  exact cell_of_blk ho hm (ints_get hj')
theorem heap_putRow_same {w : World} {q b e : Nat} {d : Array Int} {arr : Array Value} (h : w.heap[b]? = some (.cells arr e (0, 0))) :
    (Go.Sort.putRow (Value.int .i64) (Go.Sort.ahead w q) b 0 d).heap[b]? = some (.cells (Go.Sort.putCells (Value.int .i64) 0 d arr) e (0, 0)) := by
  show (w.heap.modify b _)[b]? = _
  rw [Array.getElem?_modify, if_pos rfl, h]; rfl
theorem heap_putRow_other {w : World} {q b c : Nat} {d : Array Int} (h : c ≠ b) : (Go.Sort.putRow (Value.int .i64) (Go.Sort.ahead w q) b 0 d).heap[c]? = w.heap[c]? := by
  show (w.heap.modify b _)[c]? = _
  rw [Array.getElem?_modify, if_neg (Ne.symm h)]
/-- The list l becomes l', of the same length; new blocks may lie behind. -/
theorem resM_putRow {w : World} {b e cap q : Nat} {l l' : List Int} {v : Value} {os : Array Obj} (ho : OwnOk [(b, ⟨ints l, e, cap, none⟩)] w) (hl : l'.length = l.length) :
    ResM w [(b, ⟨ints l, e, cap, none⟩)] (fun u new => u = v ∧ new = [(b, ⟨ints l', e, cap, none⟩)]) (.returned v) (Go.Sort.grow (Go.Sort.putRow (Value.int .i64) (Go.Sort.ahead w q) b 0 l'.toArray) os) := by
  obtain ⟨arr, h1, h2, h3⟩ := ho.row List.mem_cons_self rfl
  have hlt : b < w.heap.size := (Array.getElem?_eq_some_iff.1 h1).1
  have hsz : (Go.Sort.putRow (Value.int .i64) (Go.Sort.ahead w q) b 0 l'.toArray).heap.size = w.heap.size := by rw [Go.Sort.size_putRow]; rfl
  refine ⟨v, [(b, ⟨ints l', e, cap, none⟩)], rfl, ⟨rfl, rfl, rfl, Nat.le_add_right _ _, by rw [Go.Sort.size_grow, hsz]; omega, fun c hc hne => ?_⟩, ⟨by simp [ids], fun c k hk => ?_⟩, fun c hc => .inl hc, rfl, rfl⟩
  · have hcb : c ≠ b := by simpa [ids] using hne
    rw [Go.Sort.heap_grow_old _ _ (by rw [hsz]; exact hc), heap_putRow_other hcb]
  · have hk' : (c, k) = (b, (⟨ints l', e, cap, none⟩ : Blk)) := by simpa using hk
    cases hk'
    refine Blk.ofRow ⟨Go.Sort.putCells (Value.int .i64) 0 l'.toArray arr, ?_, by simp only [Go.Sort.putCells, Array.size_mapIdx]; exact h2, fun i u hu => ?_⟩
    · rw [Go.Sort.heap_grow_old _ _ (by rw [hsz]; exact hlt)]; exact heap_putRow_same h1
    · have hi : i < l'.length := by rw [← ints_length]; exact (List.getElem?_eq_some_iff.1 hu).1
      rw [ints_get hi] at hu
      cases hu
      have ha := h3 i _ (ints_get (by omega : i < l.length))
      simp only [Go.Sort.putCells, Array.getElem?_mapIdx, ha, Option.map_some]
      rw [if_pos ⟨Nat.zero_le _, by simpa using hi⟩, Nat.sub_zero, toArray_get hi]
end Go.VL
