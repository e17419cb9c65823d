import Derived.Test.YtnammdmiljjhjaaVLSort
import Derived.Shelf.SlSortCmp.Whole1
/-! The library's sort at a part of a list, and at elements of one cell. -/
namespace Go.VL
open Go.RowKit
/-- A call that writes nothing of what was there leaves the world as it was, drawn further and grown. -/
theorem grow_of_fr {w w' : World} (h : Fr [] w w') : ∃ q os, w' = Go.Sort.grow (w.drewN q) os := by
  refine ⟨w'.drawn - w.drawn, w'.heap.extract w.heap.size w'.heap.size, ?_⟩
  have hh : w'.heap = w.heap ++ w'.heap.extract w.heap.size w'.heap.size := by
    have hs := h.size
    apply Array.ext_getElem?
    intro i
    rw [Array.getElem?_append]
    split
    · rename_i hi
      exact h.block i hi (by simp)
    · rename_i hi
      rw [Array.getElem?_extract]
      have e : w.heap.size + (i - w.heap.size) = i := by omega
      split
      · rw [e]
      · rw [Array.getElem?_eq_none (by omega)]
  obtain ⟨heap, tape, drawn, os, output⟩ := w
  obtain ⟨heap', tape', drawn', os', output'⟩ := w'
  have h1 := h.os
  have h2 := h.tape
  have h3 := h.output
  have h4 := h.drawn
  simp only at h1 h2 h3 h4 hh
  subst h1; subst h2; subst h3
  unfold Go.Sort.grow World.drewN
  simp only [World.mk.injEq, true_and, and_true]
  exact ⟨hh, by omega⟩
section
variable {α : Type} [Inhabited α] (enc : α → Value)
theorem heap_putRowG_same {w : World} {q b e off : Nat} {d : Array α} {arr : Array Value} (h : w.heap[b]? = some (.cells arr e (0, 0))) :
    (Go.Sort.putRow enc (Go.Sort.ahead w q) b off d).heap[b]? = some (.cells (Go.Sort.putCells enc off d arr) e (0, 0)) := by
  show (w.heap.modify b _)[b]? = _
  rw [Array.getElem?_modify, if_pos rfl, h]; rfl
theorem heap_putRowG_other {w : World} {q b c off : Nat} {d : Array α} (h : c ≠ b) : (Go.Sort.putRow enc (Go.Sort.ahead w q) b off d).heap[c]? = w.heap[c]? := by
  show (w.heap.modify b _)[c]? = _
  rw [Array.getElem?_modify, if_neg (Ne.symm h)]
theorem fr_sortWorld {w : World} {q b off : Nat} {d : Array α} {os : Array Obj} : Fr [b] w (Go.Sort.grow (Go.Sort.putRow enc (Go.Sort.ahead w q) b off d) os) := by
  have hsz : (Go.Sort.putRow enc (Go.Sort.ahead w q) b off d).heap.size = w.heap.size := by rw [Go.Sort.size_putRow]; rfl
  refine ⟨rfl, rfl, rfl, Nat.le_add_right _ _, by rw [Go.Sort.size_grow, hsz]; omega, fun c hc hne => ?_⟩
  rw [Go.Sort.heap_grow_old _ _ (by rw [hsz]; exact hc), heap_putRowG_other enc (by simpa using hne)]
/-- Some cells become others; new blocks may lie behind. -/
theorem resM_putRowG {w : World} {b e cap q off : Nat} {cells cells' : List Value} {d : Array α} {v : Value} {os : Array Obj} (ho : OwnOk [(b, ⟨cells, e, cap, none⟩)] w) (hlt : b < w.heap.size) (hl : cells'.length = cells.length)
    (hrow : ∃ arr : Array Value, w.heap[b]? = some (.cells arr e (0, 0)) ∧ arr.size = cap ∧ ∀ (i : Nat) (v : Value), cells[i]? = some v → arr[i]? = some v)
    (hc : ∀ (i : Nat) (u : Value), cells'[i]? = some u → if off ≤ i ∧ i < off + d.size then u = enc d[i - off]! else cells[i]? = some u) :
    ResM w [(b, ⟨cells, e, cap, none⟩)] (fun u new => u = v ∧ new = [(b, ⟨cells', e, cap, none⟩)]) (.returned v) (Go.Sort.grow (Go.Sort.putRow enc (Go.Sort.ahead w q) b off d) os) := by
  have _ := ho
  obtain ⟨arr, h1, h2, h3⟩ := hrow
  have hsz : (Go.Sort.putRow enc (Go.Sort.ahead w q) b off d).heap.size = w.heap.size := by rw [Go.Sort.size_putRow]; rfl
  refine ⟨v, [(b, ⟨cells', e, cap, none⟩)], rfl, fr_sortWorld enc, ⟨by simp [ids], fun c k hk => ?_⟩, fun c hc => .inl hc, rfl, rfl⟩
  have hk' : (c, k) = (b, (⟨cells', e, cap, none⟩ : Blk)) := by simpa using hk
  cases hk'
  refine Blk.ofRow ⟨Go.Sort.putCells enc off d arr, ?_, by simp only [Go.Sort.putCells, Array.size_mapIdx]; exact h2, fun i u hu => ?_⟩
  · rw [Go.Sort.heap_grow_old _ _ (by rw [hsz]; exact hlt)]; exact heap_putRowG_same enc h1
  · have hi : i < cells.length := by rw [← hl]; exact (List.getElem?_eq_some_iff.1 hu).1
    have ha := h3 i _ (List.getElem?_eq_getElem hi)
    have := hc i u hu
    simp only [Go.Sort.putCells, Array.getElem?_mapIdx, ha, Option.map_some]
    split
    · rename_i hh
      rw [if_pos hh] at this
      rw [this]
    · rename_i hh
      rw [if_neg hh, List.getElem?_eq_getElem hi] at this
      exact this
end
/-- A part of a list of numbers of one's own, as the library's sort takes it. -/
theorem holds_part {w : World} {b e cap off : Nat} {l S : List Int} (ho : OwnOk [(b, (⟨ints l, e, cap, none⟩ : Blk))] w) (h0 : 0 < l.length) (hS : ∀ j, j < S.length → off + j < l.length ∧ l.getD (off + j) 0 = S.getD j 0) : Go.Sort.Holds (Value.int .i64) w b off S.toArray := by
  intro j hj
  have hj' : j < S.length := by simpa using hj
  obtain ⟨h1, h2⟩ := hS j hj'
  have hk : (⟨ints l, e, cap, none⟩ : Blk).obj = none := rfl
  have _ := h0
  obtain ⟨arr, g1, _, _⟩ := ho.row List.mem_cons_self hk
  refine ⟨?_, frozen_of_row w b (off + j) arr e g1⟩
  rw [toArray_get hj', ← h2]
  exact cell_of_blk ho List.mem_cons_self (ints_get h1)
theorem resM_part {w : World} {b e cap q off : Nat} {l S l' : List Int} {v : Value} {os : Array Obj} (ho : OwnOk [(b, ⟨ints l, e, cap, none⟩)] w) (hl : l'.length = l.length)
    (hS : ∀ i, i < l'.length → l'.getD i 0 = if off ≤ i ∧ i < off + S.length then S.getD (i - off) 0 else l.getD i 0) :
    ResM w [(b, ⟨ints l, e, cap, none⟩)] (fun u new => u = v ∧ new = [(b, ⟨ints l', e, cap, none⟩)]) (.returned v) (Go.Sort.grow (Go.Sort.putRow (Value.int .i64) (Go.Sort.ahead w q) b off S.toArray) os) := by
  refine resM_putRowG (Value.int .i64) ho (ho.lt (ids_mem List.mem_cons_self)) (by rw [ints_length, ints_length]; exact hl) (ho.row List.mem_cons_self rfl) (fun i u hu => ?_)
  have hi : i < l'.length := by rw [← ints_length]; exact (List.getElem?_eq_some_iff.1 hu).1
  rw [ints_get hi] at hu
  cases hu
  have := hS i hi
  simp only [List.size_toArray]
  split
  · rename_i hh
    rw [if_pos hh] at this
    rw [this, toArray_get (by omega)]
  · rename_i hh
    rw [if_neg hh] at this
    rw [this]
    exact ints_get (by omega)
end Go.VL
