import Derived.Test.YtgaaiplodbnnjaaDoorSB
import Derived.Test.YtgaaiplodbnnjaaDoorSA
import Derived.Test.YtgaaiplodbnnjaaDoorCards
import Derived.Test.YtgaaiplodbnnjaaDoorTie
import Derived.Test.YtgaaiplodbnnjaaDoorHead
import Derived.ProofKit
import Derived.WalkSmall
import Derived.MakeChecks
import Derived.Stop.LaidTwo
import Derived.SevenTiedAt
import Derived.Test.YtgaaiplodbnnjaaDoorVLArr
/-! What the listed variables give: the two errors with which the checks panic. -/
namespace Go.Proofs.YtgaaiplodbnnjaaDoor
open Go.VL Go.ChangeShapes Go.WideShapes Go.ChangeAt Go.RowKit

theorem gE0 : Tryd.prog.globalNamed "loop.example/g01379/impl.errNotAsTold" = some 0 := by kernel_rfl
theorem gE1 : Tryd.prog.globalNamed "loop.example/g01379/impl.errNoStarter" = some 1 := by kernel_rfl
theorem gE0Type : (Tryd.prog.globals[0]?).map (·.type) = some 79 := by kernel_rfl
theorem gE1Type : (Tryd.prog.globals[1]?).map (·.type) = some 79 := by kernel_rfl
theorem cellsE : Tryd.prog.cellsOf 155 = 1 := by kernel_rfl
theorem cellsS : Tryd.prog.cellsOf 9 = 1 := by kernel_rfl
theorem starE : "*" ++ "errors.errorString" = "*errors.errorString" := by decide
theorem rowE (u : TypeId) (h : Tryd.prog.typeName? 3 u = some "*errors.errorString") : u = 130 :=
  typeName_ptr_named (nm := "errors.errorString") (by rw [starE]; kernel_rfl) (by kernel_rfl) (by decide) u (by rw [starE]; exact h)
abbrev laidE : List (String × DataW Unit) := [("loop.example/g01379/impl.errNotAsTold", Rows.laid_loop_example_g01379_impl_errNotAsTold), ("loop.example/g01379/impl.errNoStarter", Rows.laid_loop_example_g01379_impl_errNoStarter)]

theorem errs_of_laid {W : World} (h : laidMetH Tryd.prog laidE W) : ∃ a0 a1, Errs W a0 a1 ∧ W.var? Tryd.prog "loop.example/g01379/impl.errNotAsTold" = some #[er a0] ∧ W.var? Tryd.prog "loop.example/g01379/impl.errNoStarter" = some #[er a1] := by
  rw [MakeChecks.laidMetH_plain _ _ _ (by kernel_rfl)] at h
  obtain ⟨a0, a1, s0, s1, c0, c1, t0, t1, hv0, hv1, _, _, _, _, _, _, hne, hb0, hb1⟩ := laid_sentinels2 h gE0 gE0Type gE1 gE1Type Tryd.underlying79 rowE Tryd.underlying130 Tryd.underlying155 rfl rfl Tryd.underlying9 cellsE cellsS
  refine ⟨a0, a1, ⟨?_, ?_, hne, ⟨_, _, hb0⟩, ⟨_, _, hb1⟩⟩, hv0, hv1⟩
  · simpa using World.var?_cell gE0 hv0 0
  · simpa using World.var?_cell gE1 hv1 0
/-- The variables, read. -/
theorem varsE {H : Type} (enc : TypeId × Value → H) {X : World} {a0 a1 : Addr} (h0 : X.var? Tryd.prog "loop.example/g01379/impl.errNotAsTold" = some #[er a0]) (h1 : X.var? Tryd.prog "loop.example/g01379/impl.errNoStarter" = some #[er a1]) (sp : Nat → Bool) :
    DataW.TrodVars enc Tryd.prog X sp ["loop.example/g01379/impl.errNotAsTold", "loop.example/g01379/impl.errNoStarter"] [tok enc (er a0), tok enc (er a1)] [.cell 0 0, .cell 1 0] :=
  vars_read2 enc gE0 gE0Type Tryd.underlying79 h0 trivial gE1 gE1Type Tryd.underlying79 h1 trivial sp

abbrev text0 : ByteArray := { data := #[97, 32, 110, 117, 109, 98, 101, 114, 32, 111, 114, 32, 97, 32, 108, 105, 115, 116, 32, 105, 115, 32, 110, 111, 116, 32, 97, 115, 32, 116, 111, 108, 100] }
abbrev text1 : ByteArray := { data := #[116, 104, 101, 32, 112, 97, 105, 114, 115, 32, 97, 114, 101, 32, 110, 111, 32, 115, 116, 97, 114, 116, 101, 114] }
noncomputable def low : Nat := (World.holding Tryd.prog default ⟨#[], #[], []⟩).heap.size
/-- A world in which the errors lie as their initialisers lay them. -/
noncomputable def laidWorld (os : Os) : World :=
  let w0 := World.holding Tryd.prog os ⟨#[.cells #[.string text0] 155, .cells #[.string text1] 155], #[], []⟩
  { w0 with heap := (w0.heap.modify 0 fun
      | .cells _ t frozen => .cells #[.iface 130 (.pointer (some ⟨low, 0, none⟩))] t frozen
      | o => o).modify 1 fun
      | .cells _ t frozen => .cells #[.iface 130 (.pointer (some ⟨low + 1, 0, none⟩))] t frozen
      | o => o }
theorem laid_met (os : Os) (args : Array Value) : laidMetH Tryd.prog laidE ((laidWorld os).forCall (fun _ _ => 0) ⟨#[], args, []⟩).memory := by
  rw [MakeChecks.laidMetH_plain _ _ _ (by kernel_rfl)]
  exact laidMet_of_run' 8 (by kernel_rfl) (by kernel_rfl)
end Go.Proofs.YtgaaiplodbnnjaaDoor
