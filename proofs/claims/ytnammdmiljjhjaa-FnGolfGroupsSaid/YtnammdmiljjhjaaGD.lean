import Derived.Shelf.SlGeneric
import Derived.Ground.SlgnProg
import Derived.Shelf.SortG.Plain
import Derived.Shelf.SortG.SortNone
import Derived.Test.YtnammdmiljjhjaaTab
import Derived.Shelf.Lay
import Derived.Shelf.SlSortCmp.Whole1
import Derived.Ground.SlsfProg
import Derived.Test.YtnammdmiljjhjaaSA
import Derived.Test.YtnammdmiljjhjaaVLSort
import Derived.Lib.RowBridge
import Derived.Test.YtnammdmiljjhjaaVLA
/- Parts of the proof, one after another. No conditions of their own. -/
/- A part of the proof: XS0. No conditions of its own. -/
namespace Go.Proofs
open Go.Shelf
shelf_lay_g SlLaysN.n53 Slgn 53 at Try 61 as Try.sortI
end Go.Proofs

/- A part of the proof: XS2. No conditions of its own. -/
namespace Go.Proofs
open Go.Shelf
shelf_lay_g SlLaysF.n6 Slsf 6 at Try 70 as Try.sortF
end Go.Proofs

/- A part of the proof: XS1. No conditions of its own. -/
namespace Go.Proofs.Ytnammdmiljjhjaa
open Go.VL
attribute [local irreducible] VWr VOps VD Calls

theorem c_sortI (b e cap : Nat) (l : List Int) (w : World) (ho : OwnOk [(b, (⟨ints l, e, cap, none⟩ : Blk))] w) (hl : l.length ≤ 1048576) (c : Nat) :
    Calls Try.prog 61 [.slice (some ⟨b, 0, none⟩) l.length c].toArray w (ResM w [(b, ⟨ints l, e, cap, none⟩)] (fun u new => u = .tuple #[] ∧ new = [(b, ⟨ints (l.mergeSort fun x y => decide (x ≤ y)), e, cap, none⟩)])) := by
  have hb : b < w.heap.size := ho.lt (ids_mem List.mem_cons_self)
  have h := AnyG.slices_Sort_int Try.sortI b 0 c l w (holds_of_own ho List.mem_cons_self) hb (by omega)
  refine Calls.mono (show Calls Try.prog 61 _ w _ from h) ?_
  rintro en w' ⟨rfl, n, os, rfl⟩
  exact resM_putRow ho (List.length_mergeSort _)
end Go.Proofs.Ytnammdmiljjhjaa

