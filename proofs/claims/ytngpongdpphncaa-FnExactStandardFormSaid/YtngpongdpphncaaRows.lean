/-
  No cell of these rows narrows 'for every input' (looked for: loops, veiled, ifaces, maps, wideKeys, modest, calm, conditions, laid).
  DERIVED. THE GIVEN ROWS OF THIS SEAT. 12 by the template 'for every input the law returns true; each argument reads behind the call as it read before'; 0 by the template 'total and deterministic' (their statements: YtngpongdpphncaaTotals.lean).
  GIVEN WITH THE SEED: the statements are not yours to turn. If you find one false, say at which input.
  Laid BY PROGRAM, IN A SANDBOX (cutbox-rows.mjs): the forced cells as the released guide's own fill.sh prints them over the translation f67db4ef7a32e6c3… (all of the seat's roots in one cut). By AI agents, Wed Nov 11 2026. No macro, syntax, notation, axiom, sorry.
-/
import Derived.Test.YtngpongdpphncaaChecked
import GoSem.Claim
import GoSem.ClaimJoined
import GoSem.ClaimMapViews
import Derived.JoinedTies
import Derived.KernelRfl
namespace Go.Proofs.Ytngpongdpphncaa
/- THE CELL 'sum', in the pinned program and in every row, IS THE sha256 OF THE DUMP (.gsa) THAT YtngpongdpphncaaProg.lean LOADS. Nothing in Lean hashes anything: it is a label: what it is worth is what the hold of that sum in a sandbox is worth. -/
noncomputable def Try.pinned : Pinned := { name := "ytngpongdpphncaa", sum := "f67db4ef7a32e6c39a0e9813de34f949bb25d81bedb06176ecb592448b005f85", checked := Try.checked }
namespace Rows
def none {H : Type} : Left H := { results := [], args := [] }

/-- 'laws.FnComponents': WHATEVER THE INPUT: true; the input reads as it did. -/
def fnComponentsSpec : ChangeSpec := { name := "fnComponents", fn := fun _ => fun
  | [d] => { results := [.lit (.bool true)], args := [d] }
  | _ => none }
def fnComponentsRow : OpenClaim := { program := "ytngpongdpphncaa", sum := "f67db4ef7a32e6c39a0e9813de34f949bb25d81bedb06176ecb592448b005f85", func := "loop.example/g01379/laws.FnComponents", spec := "fnComponents", unfollowed := true, recurses := true, plainKeys := false, apart := false }
def FnComponentsSaid : Prop := fnComponentsRow.holds Try.pinned (OpenSpec.ofChange fnComponentsSpec)

/-- ITS FALSE NEIGHBOUR: 'it returns false'. Refute it at one input. -/
def fnComponentsWrong : ChangeSpec := { name := "fnComponents", fn := fun _ => fun
  | [d] => { results := [.lit (.bool false)], args := [d] }
  | _ => none }
def FnComponentsWrongFalsely : Prop := fnComponentsRow.holds Try.pinned (OpenSpec.ofChange fnComponentsWrong)

/-- 'laws.FnExactIsSquare': WHATEVER THE INPUT: true; the input reads as it did. -/
def fnExactIsSquareSpec : ChangeSpec := { name := "fnExactIsSquare", fn := fun _ => fun
  | [d] => { results := [.lit (.bool true)], args := [d] }
  | _ => none }
def fnExactIsSquareRow : OpenClaim := { program := "ytngpongdpphncaa", sum := "f67db4ef7a32e6c39a0e9813de34f949bb25d81bedb06176ecb592448b005f85", func := "loop.example/g01379/laws.FnExactIsSquare", spec := "fnExactIsSquare", plainKeys := false, apart := false }
def FnExactIsSquareSaid : Prop := fnExactIsSquareRow.holds Try.pinned (OpenSpec.ofChange fnExactIsSquareSpec)

/-- ITS FALSE NEIGHBOUR: 'it returns false'. Refute it at one input. -/
def fnExactIsSquareWrong : ChangeSpec := { name := "fnExactIsSquare", fn := fun _ => fun
  | [d] => { results := [.lit (.bool false)], args := [d] }
  | _ => none }
def FnExactIsSquareWrongFalsely : Prop := fnExactIsSquareRow.holds Try.pinned (OpenSpec.ofChange fnExactIsSquareWrong)

/-- 'laws.FnExactIsRoomSquare': WHATEVER THE INPUT: true; the input reads as it did. -/
def fnExactIsRoomSquareSpec : ChangeSpec := { name := "fnExactIsRoomSquare", fn := fun _ => fun
  | [d] => { results := [.lit (.bool true)], args := [d] }
  | _ => none }
def fnExactIsRoomSquareRow : OpenClaim := { program := "ytngpongdpphncaa", sum := "f67db4ef7a32e6c39a0e9813de34f949bb25d81bedb06176ecb592448b005f85", func := "loop.example/g01379/laws.FnExactIsRoomSquare", spec := "fnExactIsRoomSquare", unfollowed := true, recurses := true, plainKeys := false, apart := false }
def FnExactIsRoomSquareSaid : Prop := fnExactIsRoomSquareRow.holds Try.pinned (OpenSpec.ofChange fnExactIsRoomSquareSpec)

/-- ITS FALSE NEIGHBOUR: 'it returns false'. Refute it at one input. -/
def fnExactIsRoomSquareWrong : ChangeSpec := { name := "fnExactIsRoomSquare", fn := fun _ => fun
  | [d] => { results := [.lit (.bool false)], args := [d] }
  | _ => none }
def FnExactIsRoomSquareWrongFalsely : Prop := fnExactIsRoomSquareRow.holds Try.pinned (OpenSpec.ofChange fnExactIsRoomSquareWrong)

/-- 'laws.FnExactCellOf': WHATEVER THE INPUT: true; the input reads as it did. -/
def fnExactCellOfSpec : ChangeSpec := { name := "fnExactCellOf", fn := fun _ => fun
  | [d1, d2, d3] => { results := [.lit (.bool true)], args := [d1, d2, d3] }
  | _ => none }
def fnExactCellOfRow : OpenClaim := { program := "ytngpongdpphncaa", sum := "f67db4ef7a32e6c39a0e9813de34f949bb25d81bedb06176ecb592448b005f85", func := "loop.example/g01379/laws.FnExactCellOf", spec := "fnExactCellOf", plainKeys := false, apart := false }
def FnExactCellOfSaid : Prop := fnExactCellOfRow.holds Try.pinned (OpenSpec.ofChange fnExactCellOfSpec)

/-- ITS FALSE NEIGHBOUR: 'it returns false'. Refute it at one input. -/
def fnExactCellOfWrong : ChangeSpec := { name := "fnExactCellOf", fn := fun _ => fun
  | [d1, d2, d3] => { results := [.lit (.bool false)], args := [d1, d2, d3] }
  | _ => none }
def FnExactCellOfWrongFalsely : Prop := fnExactCellOfRow.holds Try.pinned (OpenSpec.ofChange fnExactCellOfWrong)

/-- 'laws.FnExactRowsOf': WHATEVER THE INPUT: true; the input reads as it did. -/
def fnExactRowsOfSpec : ChangeSpec := { name := "fnExactRowsOf", fn := fun _ => fun
  | [d] => { results := [.lit (.bool true)], args := [d] }
  | _ => none }
def fnExactRowsOfRow : OpenClaim := { program := "ytngpongdpphncaa", sum := "f67db4ef7a32e6c39a0e9813de34f949bb25d81bedb06176ecb592448b005f85", func := "loop.example/g01379/laws.FnExactRowsOf", spec := "fnExactRowsOf", plainKeys := false, apart := false }
def FnExactRowsOfSaid : Prop := fnExactRowsOfRow.holds Try.pinned (OpenSpec.ofChange fnExactRowsOfSpec)

/-- ITS FALSE NEIGHBOUR: 'it returns false'. Refute it at one input. -/
def fnExactRowsOfWrong : ChangeSpec := { name := "fnExactRowsOf", fn := fun _ => fun
  | [d] => { results := [.lit (.bool false)], args := [d] }
  | _ => none }
def FnExactRowsOfWrongFalsely : Prop := fnExactRowsOfRow.holds Try.pinned (OpenSpec.ofChange fnExactRowsOfWrong)

/-- 'laws.FnExactColumnsOf': WHATEVER THE INPUT: true; the input reads as it did. -/
def fnExactColumnsOfSpec : ChangeSpec := { name := "fnExactColumnsOf", fn := fun _ => fun
  | [d] => { results := [.lit (.bool true)], args := [d] }
  | _ => none }
def fnExactColumnsOfRow : OpenClaim := { program := "ytngpongdpphncaa", sum := "f67db4ef7a32e6c39a0e9813de34f949bb25d81bedb06176ecb592448b005f85", func := "loop.example/g01379/laws.FnExactColumnsOf", spec := "fnExactColumnsOf", plainKeys := false, apart := false }
def FnExactColumnsOfSaid : Prop := fnExactColumnsOfRow.holds Try.pinned (OpenSpec.ofChange fnExactColumnsOfSpec)

/-- ITS FALSE NEIGHBOUR: 'it returns false'. Refute it at one input. -/
def fnExactColumnsOfWrong : ChangeSpec := { name := "fnExactColumnsOf", fn := fun _ => fun
  | [d] => { results := [.lit (.bool false)], args := [d] }
  | _ => none }
def FnExactColumnsOfWrongFalsely : Prop := fnExactColumnsOfRow.holds Try.pinned (OpenSpec.ofChange fnExactColumnsOfWrong)

/-- 'laws.FnExactSquareOfSchedules': WHATEVER THE INPUT: true; the input reads as it did. -/
def fnExactSquareOfSchedulesSpec : ChangeSpec := { name := "fnExactSquareOfSchedules", fn := fun _ => fun
  | [d1, d2] => { results := [.lit (.bool true)], args := [d1, d2] }
  | _ => none }
def fnExactSquareOfSchedulesRow : OpenClaim := { program := "ytngpongdpphncaa", sum := "f67db4ef7a32e6c39a0e9813de34f949bb25d81bedb06176ecb592448b005f85", func := "loop.example/g01379/laws.FnExactSquareOfSchedules", spec := "fnExactSquareOfSchedules", unfollowed := true, recurses := true, plainKeys := false, apart := false }
def FnExactSquareOfSchedulesSaid : Prop := fnExactSquareOfSchedulesRow.holds Try.pinned (OpenSpec.ofChange fnExactSquareOfSchedulesSpec)

/-- ITS FALSE NEIGHBOUR: 'it returns false'. Refute it at one input. -/
def fnExactSquareOfSchedulesWrong : ChangeSpec := { name := "fnExactSquareOfSchedules", fn := fun _ => fun
  | [d1, d2] => { results := [.lit (.bool false)], args := [d1, d2] }
  | _ => none }
def FnExactSquareOfSchedulesWrongFalsely : Prop := fnExactSquareOfSchedulesRow.holds Try.pinned (OpenSpec.ofChange fnExactSquareOfSchedulesWrong)

/-- 'laws.FnExactIsStandard': WHATEVER THE INPUT: true; the input reads as it did. -/
def fnExactIsStandardSpec : ChangeSpec := { name := "fnExactIsStandard", fn := fun _ => fun
  | [d] => { results := [.lit (.bool true)], args := [d] }
  | _ => none }
def fnExactIsStandardRow : OpenClaim := { program := "ytngpongdpphncaa", sum := "f67db4ef7a32e6c39a0e9813de34f949bb25d81bedb06176ecb592448b005f85", func := "loop.example/g01379/laws.FnExactIsStandard", spec := "fnExactIsStandard", unfollowed := true, recurses := true, plainKeys := false, apart := false }
def FnExactIsStandardSaid : Prop := fnExactIsStandardRow.holds Try.pinned (OpenSpec.ofChange fnExactIsStandardSpec)

/-- ITS FALSE NEIGHBOUR: 'it returns false'. Refute it at one input. -/
def fnExactIsStandardWrong : ChangeSpec := { name := "fnExactIsStandard", fn := fun _ => fun
  | [d] => { results := [.lit (.bool false)], args := [d] }
  | _ => none }
def FnExactIsStandardWrongFalsely : Prop := fnExactIsStandardRow.holds Try.pinned (OpenSpec.ofChange fnExactIsStandardWrong)

/-- 'laws.FnExactStandardForm': WHATEVER THE INPUT: true; the input reads as it did. -/
def fnExactStandardFormSpec : ChangeSpec := { name := "fnExactStandardForm", fn := fun _ => fun
  | [d] => { results := [.lit (.bool true)], args := [d] }
  | _ => none }
def fnExactStandardFormRow : OpenClaim := { program := "ytngpongdpphncaa", sum := "f67db4ef7a32e6c39a0e9813de34f949bb25d81bedb06176ecb592448b005f85", func := "loop.example/g01379/laws.FnExactStandardForm", spec := "fnExactStandardForm", unfollowed := true, recurses := true, plainKeys := false, apart := false }
def FnExactStandardFormSaid : Prop := fnExactStandardFormRow.holds Try.pinned (OpenSpec.ofChange fnExactStandardFormSpec)

/-- ITS FALSE NEIGHBOUR: 'it returns false'. Refute it at one input. -/
def fnExactStandardFormWrong : ChangeSpec := { name := "fnExactStandardForm", fn := fun _ => fun
  | [d] => { results := [.lit (.bool false)], args := [d] }
  | _ => none }
def FnExactStandardFormWrongFalsely : Prop := fnExactStandardFormRow.holds Try.pinned (OpenSpec.ofChange fnExactStandardFormWrong)

/-- 'laws.FnExactIsSkewSquare': WHATEVER THE INPUT: true; the input reads as it did. -/
def fnExactIsSkewSquareSpec : ChangeSpec := { name := "fnExactIsSkewSquare", fn := fun _ => fun
  | [d] => { results := [.lit (.bool true)], args := [d] }
  | _ => none }
def fnExactIsSkewSquareRow : OpenClaim := { program := "ytngpongdpphncaa", sum := "f67db4ef7a32e6c39a0e9813de34f949bb25d81bedb06176ecb592448b005f85", func := "loop.example/g01379/laws.FnExactIsSkewSquare", spec := "fnExactIsSkewSquare", unfollowed := true, recurses := true, plainKeys := false, apart := false }
def FnExactIsSkewSquareSaid : Prop := fnExactIsSkewSquareRow.holds Try.pinned (OpenSpec.ofChange fnExactIsSkewSquareSpec)

/-- ITS FALSE NEIGHBOUR: 'it returns false'. Refute it at one input. -/
def fnExactIsSkewSquareWrong : ChangeSpec := { name := "fnExactIsSkewSquare", fn := fun _ => fun
  | [d] => { results := [.lit (.bool false)], args := [d] }
  | _ => none }
def FnExactIsSkewSquareWrongFalsely : Prop := fnExactIsSkewSquareRow.holds Try.pinned (OpenSpec.ofChange fnExactIsSkewSquareWrong)

/-- 'laws.FnExactTransposeSquare': WHATEVER THE INPUT: true; the input reads as it did. -/
def fnExactTransposeSquareSpec : ChangeSpec := { name := "fnExactTransposeSquare", fn := fun _ => fun
  | [d] => { results := [.lit (.bool true)], args := [d] }
  | _ => none }
def fnExactTransposeSquareRow : OpenClaim := { program := "ytngpongdpphncaa", sum := "f67db4ef7a32e6c39a0e9813de34f949bb25d81bedb06176ecb592448b005f85", func := "loop.example/g01379/laws.FnExactTransposeSquare", spec := "fnExactTransposeSquare", plainKeys := false, apart := false }
def FnExactTransposeSquareSaid : Prop := fnExactTransposeSquareRow.holds Try.pinned (OpenSpec.ofChange fnExactTransposeSquareSpec)

/-- ITS FALSE NEIGHBOUR: 'it returns false'. Refute it at one input. -/
def fnExactTransposeSquareWrong : ChangeSpec := { name := "fnExactTransposeSquare", fn := fun _ => fun
  | [d] => { results := [.lit (.bool false)], args := [d] }
  | _ => none }
def FnExactTransposeSquareWrongFalsely : Prop := fnExactTransposeSquareRow.holds Try.pinned (OpenSpec.ofChange fnExactTransposeSquareWrong)

/-- 'laws.FnExactRenumberSquare': WHATEVER THE INPUT: true; the input reads as it did. -/
def fnExactRenumberSquareSpec : ChangeSpec := { name := "fnExactRenumberSquare", fn := fun _ => fun
  | [d1, d2] => { results := [.lit (.bool true)], args := [d1, d2] }
  | _ => none }
def fnExactRenumberSquareRow : OpenClaim := { program := "ytngpongdpphncaa", sum := "f67db4ef7a32e6c39a0e9813de34f949bb25d81bedb06176ecb592448b005f85", func := "loop.example/g01379/laws.FnExactRenumberSquare", spec := "fnExactRenumberSquare", plainKeys := false, apart := false }
def FnExactRenumberSquareSaid : Prop := fnExactRenumberSquareRow.holds Try.pinned (OpenSpec.ofChange fnExactRenumberSquareSpec)

/-- ITS FALSE NEIGHBOUR: 'it returns false'. Refute it at one input. -/
def fnExactRenumberSquareWrong : ChangeSpec := { name := "fnExactRenumberSquare", fn := fun _ => fun
  | [d1, d2] => { results := [.lit (.bool false)], args := [d1, d2] }
  | _ => none }
def FnExactRenumberSquareWrongFalsely : Prop := fnExactRenumberSquareRow.holds Try.pinned (OpenSpec.ofChange fnExactRenumberSquareWrong)

/- THE SECOND FORM. 'bulk': how many values and letters a reading holds, each counted each time it is reached (what is shared counts as often as it is met; a slice's spare places count too). A statement '..UptoSaid' is the law's where the arguments, and the package variables that the reading takes, are together of bulk at most 1048576: NARROWER than '..Said'. Prove '..Said' where nothing that the law and all that it calls make is longer than what came in: it says more and counts as full. Else prove '..UptoSaid'. A law counts once. -/
mutual
def uptoBulk {H : Type} : DataW H → Nat
  | .lit (.string bytes) => bytes.length + 1
  | .lit _ => 1
  | .nil => 1
  | .ptr d => uptoBulk d + 1
  | .slice elems spare => uptoBulkAll elems + uptoBulkAll spare + 1
  | .agg parts => uptoBulkAll parts + 1
  | .iface _ d => uptoBulk d + 1
  | .map entries => uptoBulkEntries entries + 1
  | .held _ => 1
def uptoBulkAll {H : Type} : List (DataW H) → Nat
  | [] => 0
  | d :: r => uptoBulk d + uptoBulkAll r
def uptoBulkEntries {H : Type} : List (Lit × DataW H) → Nat
  | [] => 0
  | x :: r => uptoBulkEntry x + uptoBulkEntries r
def uptoBulkEntry {H : Type} : Lit × DataW H → Nat
  | (.string bytes, d) => bytes.length + uptoBulk d + 1
  | (_, d) => uptoBulk d + 1
 end
def uptoSmall : (H : Type) → List (DataW H) → Bool := fun _ ds => decide (uptoBulkAll ds ≤ 1048576)
def OpenSpec.upto (s : _root_.Go.ChangeSpec) : _root_.Go.OpenSpec := { _root_.Go.OpenSpec.ofChange s with cond := some uptoSmall }

/-- 'laws.FnComponents', WHERE WHAT IT READS IS OF BULK AT MOST 1048576: true; the input reads as it did. -/
def fnComponentsUptoRow : OpenClaim := { program := "ytngpongdpphncaa", sum := "f67db4ef7a32e6c39a0e9813de34f949bb25d81bedb06176ecb592448b005f85", func := "loop.example/g01379/laws.FnComponents", spec := "fnComponents", unfollowed := true, recurses := true, plainKeys := false, apart := false, narrowed := true }
def FnComponentsUptoSaid : Prop := fnComponentsUptoRow.holds Try.pinned (OpenSpec.upto fnComponentsSpec)

/-- 'laws.FnExactIsSquare', WHERE WHAT IT READS IS OF BULK AT MOST 1048576: true; the input reads as it did. -/
def fnExactIsSquareUptoRow : OpenClaim := { program := "ytngpongdpphncaa", sum := "f67db4ef7a32e6c39a0e9813de34f949bb25d81bedb06176ecb592448b005f85", func := "loop.example/g01379/laws.FnExactIsSquare", spec := "fnExactIsSquare", plainKeys := false, apart := false, narrowed := true }
def FnExactIsSquareUptoSaid : Prop := fnExactIsSquareUptoRow.holds Try.pinned (OpenSpec.upto fnExactIsSquareSpec)

/-- 'laws.FnExactIsRoomSquare', WHERE WHAT IT READS IS OF BULK AT MOST 1048576: true; the input reads as it did. -/
def fnExactIsRoomSquareUptoRow : OpenClaim := { program := "ytngpongdpphncaa", sum := "f67db4ef7a32e6c39a0e9813de34f949bb25d81bedb06176ecb592448b005f85", func := "loop.example/g01379/laws.FnExactIsRoomSquare", spec := "fnExactIsRoomSquare", unfollowed := true, recurses := true, plainKeys := false, apart := false, narrowed := true }
def FnExactIsRoomSquareUptoSaid : Prop := fnExactIsRoomSquareUptoRow.holds Try.pinned (OpenSpec.upto fnExactIsRoomSquareSpec)

/-- 'laws.FnExactCellOf', WHERE WHAT IT READS IS OF BULK AT MOST 1048576: true; the input reads as it did. -/
def fnExactCellOfUptoRow : OpenClaim := { program := "ytngpongdpphncaa", sum := "f67db4ef7a32e6c39a0e9813de34f949bb25d81bedb06176ecb592448b005f85", func := "loop.example/g01379/laws.FnExactCellOf", spec := "fnExactCellOf", plainKeys := false, apart := false, narrowed := true }
def FnExactCellOfUptoSaid : Prop := fnExactCellOfUptoRow.holds Try.pinned (OpenSpec.upto fnExactCellOfSpec)

/-- 'laws.FnExactRowsOf', WHERE WHAT IT READS IS OF BULK AT MOST 1048576: true; the input reads as it did. -/
def fnExactRowsOfUptoRow : OpenClaim := { program := "ytngpongdpphncaa", sum := "f67db4ef7a32e6c39a0e9813de34f949bb25d81bedb06176ecb592448b005f85", func := "loop.example/g01379/laws.FnExactRowsOf", spec := "fnExactRowsOf", plainKeys := false, apart := false, narrowed := true }
def FnExactRowsOfUptoSaid : Prop := fnExactRowsOfUptoRow.holds Try.pinned (OpenSpec.upto fnExactRowsOfSpec)

/-- 'laws.FnExactColumnsOf', WHERE WHAT IT READS IS OF BULK AT MOST 1048576: true; the input reads as it did. -/
def fnExactColumnsOfUptoRow : OpenClaim := { program := "ytngpongdpphncaa", sum := "f67db4ef7a32e6c39a0e9813de34f949bb25d81bedb06176ecb592448b005f85", func := "loop.example/g01379/laws.FnExactColumnsOf", spec := "fnExactColumnsOf", plainKeys := false, apart := false, narrowed := true }
def FnExactColumnsOfUptoSaid : Prop := fnExactColumnsOfUptoRow.holds Try.pinned (OpenSpec.upto fnExactColumnsOfSpec)

/-- 'laws.FnExactSquareOfSchedules', WHERE WHAT IT READS IS OF BULK AT MOST 1048576: true; the input reads as it did. -/
def fnExactSquareOfSchedulesUptoRow : OpenClaim := { program := "ytngpongdpphncaa", sum := "f67db4ef7a32e6c39a0e9813de34f949bb25d81bedb06176ecb592448b005f85", func := "loop.example/g01379/laws.FnExactSquareOfSchedules", spec := "fnExactSquareOfSchedules", unfollowed := true, recurses := true, plainKeys := false, apart := false, narrowed := true }
def FnExactSquareOfSchedulesUptoSaid : Prop := fnExactSquareOfSchedulesUptoRow.holds Try.pinned (OpenSpec.upto fnExactSquareOfSchedulesSpec)

/-- 'laws.FnExactIsStandard', WHERE WHAT IT READS IS OF BULK AT MOST 1048576: true; the input reads as it did. -/
def fnExactIsStandardUptoRow : OpenClaim := { program := "ytngpongdpphncaa", sum := "f67db4ef7a32e6c39a0e9813de34f949bb25d81bedb06176ecb592448b005f85", func := "loop.example/g01379/laws.FnExactIsStandard", spec := "fnExactIsStandard", unfollowed := true, recurses := true, plainKeys := false, apart := false, narrowed := true }
def FnExactIsStandardUptoSaid : Prop := fnExactIsStandardUptoRow.holds Try.pinned (OpenSpec.upto fnExactIsStandardSpec)

/-- 'laws.FnExactStandardForm', WHERE WHAT IT READS IS OF BULK AT MOST 1048576: true; the input reads as it did. -/
def fnExactStandardFormUptoRow : OpenClaim := { program := "ytngpongdpphncaa", sum := "f67db4ef7a32e6c39a0e9813de34f949bb25d81bedb06176ecb592448b005f85", func := "loop.example/g01379/laws.FnExactStandardForm", spec := "fnExactStandardForm", unfollowed := true, recurses := true, plainKeys := false, apart := false, narrowed := true }
def FnExactStandardFormUptoSaid : Prop := fnExactStandardFormUptoRow.holds Try.pinned (OpenSpec.upto fnExactStandardFormSpec)

/-- 'laws.FnExactIsSkewSquare', WHERE WHAT IT READS IS OF BULK AT MOST 1048576: true; the input reads as it did. -/
def fnExactIsSkewSquareUptoRow : OpenClaim := { program := "ytngpongdpphncaa", sum := "f67db4ef7a32e6c39a0e9813de34f949bb25d81bedb06176ecb592448b005f85", func := "loop.example/g01379/laws.FnExactIsSkewSquare", spec := "fnExactIsSkewSquare", unfollowed := true, recurses := true, plainKeys := false, apart := false, narrowed := true }
def FnExactIsSkewSquareUptoSaid : Prop := fnExactIsSkewSquareUptoRow.holds Try.pinned (OpenSpec.upto fnExactIsSkewSquareSpec)

/-- 'laws.FnExactTransposeSquare', WHERE WHAT IT READS IS OF BULK AT MOST 1048576: true; the input reads as it did. -/
def fnExactTransposeSquareUptoRow : OpenClaim := { program := "ytngpongdpphncaa", sum := "f67db4ef7a32e6c39a0e9813de34f949bb25d81bedb06176ecb592448b005f85", func := "loop.example/g01379/laws.FnExactTransposeSquare", spec := "fnExactTransposeSquare", plainKeys := false, apart := false, narrowed := true }
def FnExactTransposeSquareUptoSaid : Prop := fnExactTransposeSquareUptoRow.holds Try.pinned (OpenSpec.upto fnExactTransposeSquareSpec)

/-- 'laws.FnExactRenumberSquare', WHERE WHAT IT READS IS OF BULK AT MOST 1048576: true; the input reads as it did. -/
def fnExactRenumberSquareUptoRow : OpenClaim := { program := "ytngpongdpphncaa", sum := "f67db4ef7a32e6c39a0e9813de34f949bb25d81bedb06176ecb592448b005f85", func := "loop.example/g01379/laws.FnExactRenumberSquare", spec := "fnExactRenumberSquare", plainKeys := false, apart := false, narrowed := true }
def FnExactRenumberSquareUptoSaid : Prop := fnExactRenumberSquareUptoRow.holds Try.pinned (OpenSpec.upto fnExactRenumberSquareSpec)

end Rows
end Go.Proofs.Ytngpongdpphncaa
