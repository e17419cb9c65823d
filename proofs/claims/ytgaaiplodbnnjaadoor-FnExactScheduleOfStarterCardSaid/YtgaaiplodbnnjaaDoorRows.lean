/-
  NARROWER THAN 'FOR EVERY INPUT', by the rows' own cells (each row's printed sentence says how): FnExactAreOrthogonal: ifaces, laid · FnExactMultipleOf: ifaces, laid · FnExactScheduleOfStarter: ifaces, laid · FnExactSquareOfStarter: ifaces, laid.
  DERIVED. THE GIVEN ROWS OF THIS SEAT. 4 by the template 'for every input the law returns true; each argument reads behind the call as it read before'; 0 by the template 'total and deterministic' (their statements: YtgaaiplodbnnjaaDoorTotals.lean).
  GIVEN WITH THE SEED: the statements are not yours to turn. If you find one false, say at which input.
  Laid BY PROGRAM, IN A SANDBOX (cutbox-rows.mjs): the forced cells as the released guide's own fill.sh prints them over the translation e6b541749733c0e5… (all of the seat's roots in one cut). By AI agents, Wed Nov 11 2026. No macro, syntax, notation, axiom, sorry.
-/
import Derived.Test.YtgaaiplodbnnjaaDoorChecked
import GoSem.Claim
import GoSem.ClaimJoined
import GoSem.ClaimMapViews
import Derived.JoinedTies
import Derived.KernelRfl
namespace Go.Proofs.YtgaaiplodbnnjaaDoor
/- THE CELL 'sum', in the pinned program and in every row, IS THE sha256 OF THE DUMP (.gsa) THAT YtgaaiplodbnnjaaDoorProg.lean LOADS. Nothing in Lean hashes anything: it is a label: what it is worth is what the hold of that sum in a sandbox is worth. -/
noncomputable def Tryd.pinned : Pinned := { name := "ytgaaiplodbnnjaadoor", sum := "e6b541749733c0e54049d33ee9063525bae91a3cb6797b3cff51108b8aa1b6d7", checked := Tryd.checked }
namespace Rows
def none {H : Type} : Left H := { results := [], args := [] }

/- WHAT THE LISTED PACKAGE-LEVEL VARIABLES READ AS WHEN THE CALL BEGINS. Each datum BY PROGRAM (the guide's laid-datum.mjs) off the statement by which the dump's own 'gosem.cut.vars' lays the variable. In a bare row this is a premise. The card (YtgaaiplodbnnjaaDoorCards.lean) ties it to the program's text. -/
def laid_loop_example_g01379_impl_errNotAsTold {H : Type} : DataW H := .iface "*errors.errorString" (.ptr (.agg [.lit (.string [97, 32, 110, 117, 109, 98, 101, 114, 32, 111, 114, 32, 97, 32, 108, 105, 115, 116, 32, 105, 115, 32, 110, 111, 116, 32, 97, 115, 32, 116, 111, 108, 100])]))
def laid_loop_example_g01379_impl_errNoStarter {H : Type} : DataW H := .iface "*errors.errorString" (.ptr (.agg [.lit (.string [116, 104, 101, 32, 112, 97, 105, 114, 115, 32, 97, 114, 101, 32, 110, 111, 32, 115, 116, 97, 114, 116, 101, 114])]))

/-- 'laws.FnExactAreOrthogonal': WHATEVER THE INPUT: true; the input reads as it did. -/
def fnExactAreOrthogonalSpec : ChangeSpec := { name := "fnExactAreOrthogonal", vars := ["loop.example/g01379/impl.errNotAsTold", "loop.example/g01379/impl.errNoStarter"], fn := fun _ => fun
  | [d1, d2, d3, g1, g2] => { results := [.lit (.bool true)], args := [d1, d2, d3], vars := [g1, g2] }
  | _ => none }
def fnExactAreOrthogonalRow : OpenClaim := { program := "ytgaaiplodbnnjaadoor", sum := "e6b541749733c0e54049d33ee9063525bae91a3cb6797b3cff51108b8aa1b6d7", func := "loop.example/g01379/laws.FnExactAreOrthogonal", spec := "fnExactAreOrthogonal", inPlace := ["internal/reflectlite.TypeOf"], unfollowed := true, recurses := true, named := ["loop.example/g01379/impl.errNotAsTold", "loop.example/g01379/impl.errNoStarter"], ifaces := true, apart := false, laid := [("loop.example/g01379/impl.errNotAsTold", laid_loop_example_g01379_impl_errNotAsTold), ("loop.example/g01379/impl.errNoStarter", laid_loop_example_g01379_impl_errNoStarter)] }
def FnExactAreOrthogonalSaid : Prop := fnExactAreOrthogonalRow.holds Tryd.pinned (OpenSpec.ofChange fnExactAreOrthogonalSpec)

/-- ITS FALSE NEIGHBOUR: 'it returns false'. Refute it at one input. -/
def fnExactAreOrthogonalWrong : ChangeSpec := { name := "fnExactAreOrthogonal", vars := ["loop.example/g01379/impl.errNotAsTold", "loop.example/g01379/impl.errNoStarter"], fn := fun _ => fun
  | [d1, d2, d3, g1, g2] => { results := [.lit (.bool false)], args := [d1, d2, d3], vars := [g1, g2] }
  | _ => none }
def FnExactAreOrthogonalWrongFalsely : Prop := fnExactAreOrthogonalRow.holds Tryd.pinned (OpenSpec.ofChange fnExactAreOrthogonalWrong)

/-- 'laws.FnExactMultipleOf': WHATEVER THE INPUT: true; the input reads as it did. -/
def fnExactMultipleOfSpec : ChangeSpec := { name := "fnExactMultipleOf", vars := ["loop.example/g01379/impl.errNotAsTold", "loop.example/g01379/impl.errNoStarter"], fn := fun _ => fun
  | [d1, d2, d3, g1, g2] => { results := [.lit (.bool true)], args := [d1, d2, d3], vars := [g1, g2] }
  | _ => none }
def fnExactMultipleOfRow : OpenClaim := { program := "ytgaaiplodbnnjaadoor", sum := "e6b541749733c0e54049d33ee9063525bae91a3cb6797b3cff51108b8aa1b6d7", func := "loop.example/g01379/laws.FnExactMultipleOf", spec := "fnExactMultipleOf", inPlace := ["internal/reflectlite.TypeOf"], unfollowed := true, recurses := true, named := ["loop.example/g01379/impl.errNotAsTold", "loop.example/g01379/impl.errNoStarter"], ifaces := true, apart := false, laid := [("loop.example/g01379/impl.errNotAsTold", laid_loop_example_g01379_impl_errNotAsTold), ("loop.example/g01379/impl.errNoStarter", laid_loop_example_g01379_impl_errNoStarter)] }
def FnExactMultipleOfSaid : Prop := fnExactMultipleOfRow.holds Tryd.pinned (OpenSpec.ofChange fnExactMultipleOfSpec)

/-- ITS FALSE NEIGHBOUR: 'it returns false'. Refute it at one input. -/
def fnExactMultipleOfWrong : ChangeSpec := { name := "fnExactMultipleOf", vars := ["loop.example/g01379/impl.errNotAsTold", "loop.example/g01379/impl.errNoStarter"], fn := fun _ => fun
  | [d1, d2, d3, g1, g2] => { results := [.lit (.bool false)], args := [d1, d2, d3], vars := [g1, g2] }
  | _ => none }
def FnExactMultipleOfWrongFalsely : Prop := fnExactMultipleOfRow.holds Tryd.pinned (OpenSpec.ofChange fnExactMultipleOfWrong)

/-- 'laws.FnExactScheduleOfStarter': WHATEVER THE INPUT: true; the input reads as it did. -/
def fnExactScheduleOfStarterSpec : ChangeSpec := { name := "fnExactScheduleOfStarter", vars := ["loop.example/g01379/impl.errNotAsTold", "loop.example/g01379/impl.errNoStarter"], fn := fun _ => fun
  | [d1, d2, g1, g2] => { results := [.lit (.bool true)], args := [d1, d2], vars := [g1, g2] }
  | _ => none }
def fnExactScheduleOfStarterRow : OpenClaim := { program := "ytgaaiplodbnnjaadoor", sum := "e6b541749733c0e54049d33ee9063525bae91a3cb6797b3cff51108b8aa1b6d7", func := "loop.example/g01379/laws.FnExactScheduleOfStarter", spec := "fnExactScheduleOfStarter", inPlace := ["internal/reflectlite.TypeOf"], unfollowed := true, recurses := true, named := ["loop.example/g01379/impl.errNotAsTold", "loop.example/g01379/impl.errNoStarter"], ifaces := true, apart := false, laid := [("loop.example/g01379/impl.errNotAsTold", laid_loop_example_g01379_impl_errNotAsTold), ("loop.example/g01379/impl.errNoStarter", laid_loop_example_g01379_impl_errNoStarter)] }
def FnExactScheduleOfStarterSaid : Prop := fnExactScheduleOfStarterRow.holds Tryd.pinned (OpenSpec.ofChange fnExactScheduleOfStarterSpec)

/-- ITS FALSE NEIGHBOUR: 'it returns false'. Refute it at one input. -/
def fnExactScheduleOfStarterWrong : ChangeSpec := { name := "fnExactScheduleOfStarter", vars := ["loop.example/g01379/impl.errNotAsTold", "loop.example/g01379/impl.errNoStarter"], fn := fun _ => fun
  | [d1, d2, g1, g2] => { results := [.lit (.bool false)], args := [d1, d2], vars := [g1, g2] }
  | _ => none }
def FnExactScheduleOfStarterWrongFalsely : Prop := fnExactScheduleOfStarterRow.holds Tryd.pinned (OpenSpec.ofChange fnExactScheduleOfStarterWrong)

/-- 'laws.FnExactSquareOfStarter': WHATEVER THE INPUT: true; the input reads as it did. -/
def fnExactSquareOfStarterSpec : ChangeSpec := { name := "fnExactSquareOfStarter", vars := ["loop.example/g01379/impl.errNotAsTold", "loop.example/g01379/impl.errNoStarter"], fn := fun _ => fun
  | [d1, d2, d3, g1, g2] => { results := [.lit (.bool true)], args := [d1, d2, d3], vars := [g1, g2] }
  | _ => none }
def fnExactSquareOfStarterRow : OpenClaim := { program := "ytgaaiplodbnnjaadoor", sum := "e6b541749733c0e54049d33ee9063525bae91a3cb6797b3cff51108b8aa1b6d7", func := "loop.example/g01379/laws.FnExactSquareOfStarter", spec := "fnExactSquareOfStarter", inPlace := ["internal/reflectlite.TypeOf"], unfollowed := true, recurses := true, named := ["loop.example/g01379/impl.errNotAsTold", "loop.example/g01379/impl.errNoStarter"], ifaces := true, apart := false, laid := [("loop.example/g01379/impl.errNotAsTold", laid_loop_example_g01379_impl_errNotAsTold), ("loop.example/g01379/impl.errNoStarter", laid_loop_example_g01379_impl_errNoStarter)] }
def FnExactSquareOfStarterSaid : Prop := fnExactSquareOfStarterRow.holds Tryd.pinned (OpenSpec.ofChange fnExactSquareOfStarterSpec)

/-- ITS FALSE NEIGHBOUR: 'it returns false'. Refute it at one input. -/
def fnExactSquareOfStarterWrong : ChangeSpec := { name := "fnExactSquareOfStarter", vars := ["loop.example/g01379/impl.errNotAsTold", "loop.example/g01379/impl.errNoStarter"], fn := fun _ => fun
  | [d1, d2, d3, g1, g2] => { results := [.lit (.bool false)], args := [d1, d2, d3], vars := [g1, g2] }
  | _ => none }
def FnExactSquareOfStarterWrongFalsely : Prop := fnExactSquareOfStarterRow.holds Tryd.pinned (OpenSpec.ofChange fnExactSquareOfStarterWrong)

/- THE SECOND FORM. 'bulk': how many values and letters a reading holds, each counted each time it is reached (what is shared counts as often as it is met; a slice's spare places count too). A statement '..UptoSaid' is the law's where the arguments, and the package variables that the reading takes, are together of bulk at most 1048576: NARROWER than '..Said'. Prove '..Said' where nothing that the law and all that it calls make is longer than what came in: it says more and counts as full. Else prove '..UptoSaid'. A law counts once. -/
mutual
def uptoBulk {H : Type} : DataW H → Nat
  | .lit (.string bytes) => bytes.length + 1
  | .lit _ => 1
  | .nil => 1
  | .ptr d => uptoBulk d + 1
  | .slice elems spare => uptoBulkAll elems + uptoBulkAll spare + 1
  | .agg parts => uptoBulkAll parts + 1
  | .iface _ d => uptoBulk d + 1
  | .map entries => uptoBulkEntries entries + 1
  | .held _ => 1
def uptoBulkAll {H : Type} : List (DataW H) → Nat
  | [] => 0
  | d :: r => uptoBulk d + uptoBulkAll r
def uptoBulkEntries {H : Type} : List (Lit × DataW H) → Nat
  | [] => 0
  | x :: r => uptoBulkEntry x + uptoBulkEntries r
def uptoBulkEntry {H : Type} : Lit × DataW H → Nat
  | (.string bytes, d) => bytes.length + uptoBulk d + 1
  | (_, d) => uptoBulk d + 1
 end
def uptoSmall : (H : Type) → List (DataW H) → Bool := fun _ ds => decide (uptoBulkAll ds ≤ 1048576)
def OpenSpec.upto (s : _root_.Go.ChangeSpec) : _root_.Go.OpenSpec := { _root_.Go.OpenSpec.ofChange s with cond := some uptoSmall }

/-- 'laws.FnExactAreOrthogonal', WHERE WHAT IT READS IS OF BULK AT MOST 1048576: true; the input reads as it did. -/
def fnExactAreOrthogonalUptoRow : OpenClaim := { program := "ytgaaiplodbnnjaadoor", sum := "e6b541749733c0e54049d33ee9063525bae91a3cb6797b3cff51108b8aa1b6d7", func := "loop.example/g01379/laws.FnExactAreOrthogonal", spec := "fnExactAreOrthogonal", inPlace := ["internal/reflectlite.TypeOf"], unfollowed := true, recurses := true, named := ["loop.example/g01379/impl.errNotAsTold", "loop.example/g01379/impl.errNoStarter"], ifaces := true, apart := false, laid := [("loop.example/g01379/impl.errNotAsTold", laid_loop_example_g01379_impl_errNotAsTold), ("loop.example/g01379/impl.errNoStarter", laid_loop_example_g01379_impl_errNoStarter)], narrowed := true }
def FnExactAreOrthogonalUptoSaid : Prop := fnExactAreOrthogonalUptoRow.holds Tryd.pinned (OpenSpec.upto fnExactAreOrthogonalSpec)

/-- 'laws.FnExactMultipleOf', WHERE WHAT IT READS IS OF BULK AT MOST 1048576: true; the input reads as it did. -/
def fnExactMultipleOfUptoRow : OpenClaim := { program := "ytgaaiplodbnnjaadoor", sum := "e6b541749733c0e54049d33ee9063525bae91a3cb6797b3cff51108b8aa1b6d7", func := "loop.example/g01379/laws.FnExactMultipleOf", spec := "fnExactMultipleOf", inPlace := ["internal/reflectlite.TypeOf"], unfollowed := true, recurses := true, named := ["loop.example/g01379/impl.errNotAsTold", "loop.example/g01379/impl.errNoStarter"], ifaces := true, apart := false, laid := [("loop.example/g01379/impl.errNotAsTold", laid_loop_example_g01379_impl_errNotAsTold), ("loop.example/g01379/impl.errNoStarter", laid_loop_example_g01379_impl_errNoStarter)], narrowed := true }
def FnExactMultipleOfUptoSaid : Prop := fnExactMultipleOfUptoRow.holds Tryd.pinned (OpenSpec.upto fnExactMultipleOfSpec)

/-- 'laws.FnExactScheduleOfStarter', WHERE WHAT IT READS IS OF BULK AT MOST 1048576: true; the input reads as it did. -/
def fnExactScheduleOfStarterUptoRow : OpenClaim := { program := "ytgaaiplodbnnjaadoor", sum := "e6b541749733c0e54049d33ee9063525bae91a3cb6797b3cff51108b8aa1b6d7", func := "loop.example/g01379/laws.FnExactScheduleOfStarter", spec := "fnExactScheduleOfStarter", inPlace := ["internal/reflectlite.TypeOf"], unfollowed := true, recurses := true, named := ["loop.example/g01379/impl.errNotAsTold", "loop.example/g01379/impl.errNoStarter"], ifaces := true, apart := false, laid := [("loop.example/g01379/impl.errNotAsTold", laid_loop_example_g01379_impl_errNotAsTold), ("loop.example/g01379/impl.errNoStarter", laid_loop_example_g01379_impl_errNoStarter)], narrowed := true }
def FnExactScheduleOfStarterUptoSaid : Prop := fnExactScheduleOfStarterUptoRow.holds Tryd.pinned (OpenSpec.upto fnExactScheduleOfStarterSpec)

/-- 'laws.FnExactSquareOfStarter', WHERE WHAT IT READS IS OF BULK AT MOST 1048576: true; the input reads as it did. -/
def fnExactSquareOfStarterUptoRow : OpenClaim := { program := "ytgaaiplodbnnjaadoor", sum := "e6b541749733c0e54049d33ee9063525bae91a3cb6797b3cff51108b8aa1b6d7", func := "loop.example/g01379/laws.FnExactSquareOfStarter", spec := "fnExactSquareOfStarter", inPlace := ["internal/reflectlite.TypeOf"], unfollowed := true, recurses := true, named := ["loop.example/g01379/impl.errNotAsTold", "loop.example/g01379/impl.errNoStarter"], ifaces := true, apart := false, laid := [("loop.example/g01379/impl.errNotAsTold", laid_loop_example_g01379_impl_errNotAsTold), ("loop.example/g01379/impl.errNoStarter", laid_loop_example_g01379_impl_errNoStarter)], narrowed := true }
def FnExactSquareOfStarterUptoSaid : Prop := fnExactSquareOfStarterUptoRow.holds Tryd.pinned (OpenSpec.upto fnExactSquareOfStarterSpec)

end Rows
end Go.Proofs.YtgaaiplodbnnjaaDoor
