/-
  No cell of these rows narrows 'for every input' (looked for: loops, veiled, ifaces, maps, wideKeys, modest, calm, conditions, laid).
  DERIVED. THE GIVEN ROWS OF THIS SEAT. 16 by the template 'for every input the law returns true; each argument reads behind the call as it read before'; 0 by the template 'total and deterministic' (their statements: YtlnohlomanapeaaTotals.lean).
  GIVEN WITH THE SEED: the statements are not yours to turn. If you find one false, say at which input.
  Laid BY PROGRAM, IN A SANDBOX (cutbox-rows.mjs): the forced cells as the released guide's own fill.sh prints them over the translation 7e0d79dd04e0eea1… (all of the seat's roots in one cut). By AI agents, Wed Nov 11 2026. No macro, syntax, notation, axiom, sorry.
-/
import Derived.Test.YtlnohlomanapeaaChecked
import GoSem.Claim
import GoSem.ClaimJoined
import GoSem.ClaimMapViews
import Derived.JoinedTies
import Derived.KernelRfl
namespace Go.Proofs.Ytlnohlomanapeaa
/- THE CELL 'sum', in the pinned program and in every row, IS THE sha256 OF THE DUMP (.gsa) THAT YtlnohlomanapeaaProg.lean LOADS. Nothing in Lean hashes anything: it is a label: what it is worth is what the hold of that sum in a sandbox is worth. -/
noncomputable def Try.pinned : Pinned := { name := "ytlnohlomanapeaa", sum := "7e0d79dd04e0eea182a2e30427f30864ef3ef2333e8fa632632d4babe401d366", checked := Try.checked }
namespace Rows
def none {H : Type} : Left H := { results := [], args := [] }

/-- 'laws.FnCarry': WHATEVER THE INPUT: true; the input reads as it did. -/
def fnCarrySpec : ChangeSpec := { name := "fnCarry", fn := fun _ => fun
  | [d] => { results := [.lit (.bool true)], args := [d] }
  | _ => none }
def fnCarryRow : OpenClaim := { program := "ytlnohlomanapeaa", sum := "7e0d79dd04e0eea182a2e30427f30864ef3ef2333e8fa632632d4babe401d366", func := "loop.example/g01379/laws.FnCarry", spec := "fnCarry", unfollowed := true, recurses := true, plainKeys := false, apart := false }
def FnCarrySaid : Prop := fnCarryRow.holds Try.pinned (OpenSpec.ofChange fnCarrySpec)

/-- ITS FALSE NEIGHBOUR: 'it returns false'. Refute it at one input. -/
def fnCarryWrong : ChangeSpec := { name := "fnCarry", fn := fun _ => fun
  | [d] => { results := [.lit (.bool false)], args := [d] }
  | _ => none }
def FnCarryWrongFalsely : Prop := fnCarryRow.holds Try.pinned (OpenSpec.ofChange fnCarryWrong)

/-- 'laws.FnRowComplete': WHATEVER THE INPUT: true; the input reads as it did. -/
def fnRowCompleteSpec : ChangeSpec := { name := "fnRowComplete", fn := fun _ => fun
  | [d] => { results := [.lit (.bool true)], args := [d] }
  | _ => none }
def fnRowCompleteRow : OpenClaim := { program := "ytlnohlomanapeaa", sum := "7e0d79dd04e0eea182a2e30427f30864ef3ef2333e8fa632632d4babe401d366", func := "loop.example/g01379/laws.FnRowComplete", spec := "fnRowComplete", unfollowed := true, recurses := true, plainKeys := false, apart := false }
def FnRowCompleteSaid : Prop := fnRowCompleteRow.holds Try.pinned (OpenSpec.ofChange fnRowCompleteSpec)

/-- ITS FALSE NEIGHBOUR: 'it returns false'. Refute it at one input. -/
def fnRowCompleteWrong : ChangeSpec := { name := "fnRowComplete", fn := fun _ => fun
  | [d] => { results := [.lit (.bool false)], args := [d] }
  | _ => none }
def FnRowCompleteWrongFalsely : Prop := fnRowCompleteRow.holds Try.pinned (OpenSpec.ofChange fnRowCompleteWrong)

/-- 'laws.FnExactNextGolfRound': WHATEVER THE INPUT: true; the input reads as it did. -/
def fnExactNextGolfRoundSpec : ChangeSpec := { name := "fnExactNextGolfRound", fn := fun _ => fun
  | [d] => { results := [.lit (.bool true)], args := [d] }
  | _ => none }
def fnExactNextGolfRoundRow : OpenClaim := { program := "ytlnohlomanapeaa", sum := "7e0d79dd04e0eea182a2e30427f30864ef3ef2333e8fa632632d4babe401d366", func := "loop.example/g01379/laws.FnExactNextGolfRound", spec := "fnExactNextGolfRound", unfollowed := true, recurses := true, plainKeys := false, apart := false }
def FnExactNextGolfRoundSaid : Prop := fnExactNextGolfRoundRow.holds Try.pinned (OpenSpec.ofChange fnExactNextGolfRoundSpec)

/-- ITS FALSE NEIGHBOUR: 'it returns false'. Refute it at one input. -/
def fnExactNextGolfRoundWrong : ChangeSpec := { name := "fnExactNextGolfRound", fn := fun _ => fun
  | [d] => { results := [.lit (.bool false)], args := [d] }
  | _ => none }
def FnExactNextGolfRoundWrongFalsely : Prop := fnExactNextGolfRoundRow.holds Try.pinned (OpenSpec.ofChange fnExactNextGolfRoundWrong)

/-- 'laws.FnExactFirstGolf': WHATEVER THE INPUT: true; the input reads as it did. -/
def fnExactFirstGolfSpec : ChangeSpec := { name := "fnExactFirstGolf", fn := fun _ => fun
  | [d1, d2, d3] => { results := [.lit (.bool true)], args := [d1, d2, d3] }
  | _ => none }
def fnExactFirstGolfRow : OpenClaim := { program := "ytlnohlomanapeaa", sum := "7e0d79dd04e0eea182a2e30427f30864ef3ef2333e8fa632632d4babe401d366", func := "loop.example/g01379/laws.FnExactFirstGolf", spec := "fnExactFirstGolf", unfollowed := true, recurses := true, plainKeys := false, apart := false }
def FnExactFirstGolfSaid : Prop := fnExactFirstGolfRow.holds Try.pinned (OpenSpec.ofChange fnExactFirstGolfSpec)

/-- ITS FALSE NEIGHBOUR: 'it returns false'. Refute it at one input. -/
def fnExactFirstGolfWrong : ChangeSpec := { name := "fnExactFirstGolf", fn := fun _ => fun
  | [d1, d2, d3] => { results := [.lit (.bool false)], args := [d1, d2, d3] }
  | _ => none }
def FnExactFirstGolfWrongFalsely : Prop := fnExactFirstGolfRow.holds Try.pinned (OpenSpec.ofChange fnExactFirstGolfWrong)

/-- 'laws.FnExactCarryMatrix': WHATEVER THE INPUT: true; the input reads as it did. -/
def fnExactCarryMatrixSpec : ChangeSpec := { name := "fnExactCarryMatrix", fn := fun _ => fun
  | [d] => { results := [.lit (.bool true)], args := [d] }
  | _ => none }
def fnExactCarryMatrixRow : OpenClaim := { program := "ytlnohlomanapeaa", sum := "7e0d79dd04e0eea182a2e30427f30864ef3ef2333e8fa632632d4babe401d366", func := "loop.example/g01379/laws.FnExactCarryMatrix", spec := "fnExactCarryMatrix", unfollowed := true, recurses := true, plainKeys := false, apart := false }
def FnExactCarryMatrixSaid : Prop := fnExactCarryMatrixRow.holds Try.pinned (OpenSpec.ofChange fnExactCarryMatrixSpec)

/-- ITS FALSE NEIGHBOUR: 'it returns false'. Refute it at one input. -/
def fnExactCarryMatrixWrong : ChangeSpec := { name := "fnExactCarryMatrix", fn := fun _ => fun
  | [d] => { results := [.lit (.bool false)], args := [d] }
  | _ => none }
def FnExactCarryMatrixWrongFalsely : Prop := fnExactCarryMatrixRow.holds Try.pinned (OpenSpec.ofChange fnExactCarryMatrixWrong)

/-- 'laws.FnExactCarryCost': WHATEVER THE INPUT: true; the input reads as it did. -/
def fnExactCarryCostSpec : ChangeSpec := { name := "fnExactCarryCost", fn := fun _ => fun
  | [d] => { results := [.lit (.bool true)], args := [d] }
  | _ => none }
def fnExactCarryCostRow : OpenClaim := { program := "ytlnohlomanapeaa", sum := "7e0d79dd04e0eea182a2e30427f30864ef3ef2333e8fa632632d4babe401d366", func := "loop.example/g01379/laws.FnExactCarryCost", spec := "fnExactCarryCost", unfollowed := true, recurses := true, plainKeys := false, apart := false }
def FnExactCarryCostSaid : Prop := fnExactCarryCostRow.holds Try.pinned (OpenSpec.ofChange fnExactCarryCostSpec)

/-- ITS FALSE NEIGHBOUR: 'it returns false'. Refute it at one input. -/
def fnExactCarryCostWrong : ChangeSpec := { name := "fnExactCarryCost", fn := fun _ => fun
  | [d] => { results := [.lit (.bool false)], args := [d] }
  | _ => none }
def FnExactCarryCostWrongFalsely : Prop := fnExactCarryCostRow.holds Try.pinned (OpenSpec.ofChange fnExactCarryCostWrong)

/-- 'laws.FnExactIsCarryBalanced': WHATEVER THE INPUT: true; the input reads as it did. -/
def fnExactIsCarryBalancedSpec : ChangeSpec := { name := "fnExactIsCarryBalanced", fn := fun _ => fun
  | [d] => { results := [.lit (.bool true)], args := [d] }
  | _ => none }
def fnExactIsCarryBalancedRow : OpenClaim := { program := "ytlnohlomanapeaa", sum := "7e0d79dd04e0eea182a2e30427f30864ef3ef2333e8fa632632d4babe401d366", func := "loop.example/g01379/laws.FnExactIsCarryBalanced", spec := "fnExactIsCarryBalanced", unfollowed := true, recurses := true, plainKeys := false, apart := false }
def FnExactIsCarryBalancedSaid : Prop := fnExactIsCarryBalancedRow.holds Try.pinned (OpenSpec.ofChange fnExactIsCarryBalancedSpec)

/-- ITS FALSE NEIGHBOUR: 'it returns false'. Refute it at one input. -/
def fnExactIsCarryBalancedWrong : ChangeSpec := { name := "fnExactIsCarryBalanced", fn := fun _ => fun
  | [d] => { results := [.lit (.bool false)], args := [d] }
  | _ => none }
def FnExactIsCarryBalancedWrongFalsely : Prop := fnExactIsCarryBalancedRow.holds Try.pinned (OpenSpec.ofChange fnExactIsCarryBalancedWrong)

/-- 'laws.FnExactBestOrder': WHATEVER THE INPUT: true; the input reads as it did. -/
def fnExactBestOrderSpec : ChangeSpec := { name := "fnExactBestOrder", fn := fun _ => fun
  | [d] => { results := [.lit (.bool true)], args := [d] }
  | _ => none }
def fnExactBestOrderRow : OpenClaim := { program := "ytlnohlomanapeaa", sum := "7e0d79dd04e0eea182a2e30427f30864ef3ef2333e8fa632632d4babe401d366", func := "loop.example/g01379/laws.FnExactBestOrder", spec := "fnExactBestOrder", unfollowed := true, recurses := true, plainKeys := false, apart := false }
def FnExactBestOrderSaid : Prop := fnExactBestOrderRow.holds Try.pinned (OpenSpec.ofChange fnExactBestOrderSpec)

/-- ITS FALSE NEIGHBOUR: 'it returns false'. Refute it at one input. -/
def fnExactBestOrderWrong : ChangeSpec := { name := "fnExactBestOrder", fn := fun _ => fun
  | [d] => { results := [.lit (.bool false)], args := [d] }
  | _ => none }
def FnExactBestOrderWrongFalsely : Prop := fnExactBestOrderRow.holds Try.pinned (OpenSpec.ofChange fnExactBestOrderWrong)

/-- 'laws.FnExactDigitRobin': WHATEVER THE INPUT: true; the input reads as it did. -/
def fnExactDigitRobinSpec : ChangeSpec := { name := "fnExactDigitRobin", fn := fun _ => fun
  | [d1, d2] => { results := [.lit (.bool true)], args := [d1, d2] }
  | _ => none }
def fnExactDigitRobinRow : OpenClaim := { program := "ytlnohlomanapeaa", sum := "7e0d79dd04e0eea182a2e30427f30864ef3ef2333e8fa632632d4babe401d366", func := "loop.example/g01379/laws.FnExactDigitRobin", spec := "fnExactDigitRobin", plainKeys := false, apart := false }
def FnExactDigitRobinSaid : Prop := fnExactDigitRobinRow.holds Try.pinned (OpenSpec.ofChange fnExactDigitRobinSpec)

/-- ITS FALSE NEIGHBOUR: 'it returns false'. Refute it at one input. -/
def fnExactDigitRobinWrong : ChangeSpec := { name := "fnExactDigitRobin", fn := fun _ => fun
  | [d1, d2] => { results := [.lit (.bool false)], args := [d1, d2] }
  | _ => none }
def FnExactDigitRobinWrongFalsely : Prop := fnExactDigitRobinRow.holds Try.pinned (OpenSpec.ofChange fnExactDigitRobinWrong)

/-- 'laws.FnExactFirstDigitOrder': WHATEVER THE INPUT: true; the input reads as it did. -/
def fnExactFirstDigitOrderSpec : ChangeSpec := { name := "fnExactFirstDigitOrder", fn := fun _ => fun
  | [d] => { results := [.lit (.bool true)], args := [d] }
  | _ => none }
def fnExactFirstDigitOrderRow : OpenClaim := { program := "ytlnohlomanapeaa", sum := "7e0d79dd04e0eea182a2e30427f30864ef3ef2333e8fa632632d4babe401d366", func := "loop.example/g01379/laws.FnExactFirstDigitOrder", spec := "fnExactFirstDigitOrder", unfollowed := true, recurses := true, plainKeys := false, apart := false }
def FnExactFirstDigitOrderSaid : Prop := fnExactFirstDigitOrderRow.holds Try.pinned (OpenSpec.ofChange fnExactFirstDigitOrderSpec)

/-- ITS FALSE NEIGHBOUR: 'it returns false'. Refute it at one input. -/
def fnExactFirstDigitOrderWrong : ChangeSpec := { name := "fnExactFirstDigitOrder", fn := fun _ => fun
  | [d] => { results := [.lit (.bool false)], args := [d] }
  | _ => none }
def FnExactFirstDigitOrderWrongFalsely : Prop := fnExactFirstDigitOrderRow.holds Try.pinned (OpenSpec.ofChange fnExactFirstDigitOrderWrong)

/-- 'laws.FnExactIsSquareOf': WHATEVER THE INPUT: true; the input reads as it did. -/
def fnExactIsSquareOfSpec : ChangeSpec := { name := "fnExactIsSquareOf", fn := fun _ => fun
  | [d1, d2] => { results := [.lit (.bool true)], args := [d1, d2] }
  | _ => none }
def fnExactIsSquareOfRow : OpenClaim := { program := "ytlnohlomanapeaa", sum := "7e0d79dd04e0eea182a2e30427f30864ef3ef2333e8fa632632d4babe401d366", func := "loop.example/g01379/laws.FnExactIsSquareOf", spec := "fnExactIsSquareOf", plainKeys := false, apart := false }
def FnExactIsSquareOfSaid : Prop := fnExactIsSquareOfRow.holds Try.pinned (OpenSpec.ofChange fnExactIsSquareOfSpec)

/-- ITS FALSE NEIGHBOUR: 'it returns false'. Refute it at one input. -/
def fnExactIsSquareOfWrong : ChangeSpec := { name := "fnExactIsSquareOf", fn := fun _ => fun
  | [d1, d2] => { results := [.lit (.bool false)], args := [d1, d2] }
  | _ => none }
def FnExactIsSquareOfWrongFalsely : Prop := fnExactIsSquareOfRow.holds Try.pinned (OpenSpec.ofChange fnExactIsSquareOfWrong)

/-- 'laws.FnExactIsRowComplete': WHATEVER THE INPUT: true; the input reads as it did. -/
def fnExactIsRowCompleteSpec : ChangeSpec := { name := "fnExactIsRowComplete", fn := fun _ => fun
  | [d1, d2] => { results := [.lit (.bool true)], args := [d1, d2] }
  | _ => none }
def fnExactIsRowCompleteRow : OpenClaim := { program := "ytlnohlomanapeaa", sum := "7e0d79dd04e0eea182a2e30427f30864ef3ef2333e8fa632632d4babe401d366", func := "loop.example/g01379/laws.FnExactIsRowComplete", spec := "fnExactIsRowComplete", unfollowed := true, recurses := true, plainKeys := false, apart := false }
def FnExactIsRowCompleteSaid : Prop := fnExactIsRowCompleteRow.holds Try.pinned (OpenSpec.ofChange fnExactIsRowCompleteSpec)

/-- ITS FALSE NEIGHBOUR: 'it returns false'. Refute it at one input. -/
def fnExactIsRowCompleteWrong : ChangeSpec := { name := "fnExactIsRowComplete", fn := fun _ => fun
  | [d1, d2] => { results := [.lit (.bool false)], args := [d1, d2] }
  | _ => none }
def FnExactIsRowCompleteWrongFalsely : Prop := fnExactIsRowCompleteRow.holds Try.pinned (OpenSpec.ofChange fnExactIsRowCompleteWrong)

/-- 'laws.FnExactIsStepSequence': WHATEVER THE INPUT: true; the input reads as it did. -/
def fnExactIsStepSequenceSpec : ChangeSpec := { name := "fnExactIsStepSequence", fn := fun _ => fun
  | [d] => { results := [.lit (.bool true)], args := [d] }
  | _ => none }
def fnExactIsStepSequenceRow : OpenClaim := { program := "ytlnohlomanapeaa", sum := "7e0d79dd04e0eea182a2e30427f30864ef3ef2333e8fa632632d4babe401d366", func := "loop.example/g01379/laws.FnExactIsStepSequence", spec := "fnExactIsStepSequence", unfollowed := true, recurses := true, plainKeys := false, apart := false }
def FnExactIsStepSequenceSaid : Prop := fnExactIsStepSequenceRow.holds Try.pinned (OpenSpec.ofChange fnExactIsStepSequenceSpec)

/-- ITS FALSE NEIGHBOUR: 'it returns false'. Refute it at one input. -/
def fnExactIsStepSequenceWrong : ChangeSpec := { name := "fnExactIsStepSequence", fn := fun _ => fun
  | [d] => { results := [.lit (.bool false)], args := [d] }
  | _ => none }
def FnExactIsStepSequenceWrongFalsely : Prop := fnExactIsStepSequenceRow.holds Try.pinned (OpenSpec.ofChange fnExactIsStepSequenceWrong)

/-- 'laws.FnExactZigzagOf': WHATEVER THE INPUT: true; the input reads as it did. -/
def fnExactZigzagOfSpec : ChangeSpec := { name := "fnExactZigzagOf", fn := fun _ => fun
  | [d] => { results := [.lit (.bool true)], args := [d] }
  | _ => none }
def fnExactZigzagOfRow : OpenClaim := { program := "ytlnohlomanapeaa", sum := "7e0d79dd04e0eea182a2e30427f30864ef3ef2333e8fa632632d4babe401d366", func := "loop.example/g01379/laws.FnExactZigzagOf", spec := "fnExactZigzagOf", plainKeys := false, apart := false }
def FnExactZigzagOfSaid : Prop := fnExactZigzagOfRow.holds Try.pinned (OpenSpec.ofChange fnExactZigzagOfSpec)

/-- ITS FALSE NEIGHBOUR: 'it returns false'. Refute it at one input. -/
def fnExactZigzagOfWrong : ChangeSpec := { name := "fnExactZigzagOf", fn := fun _ => fun
  | [d] => { results := [.lit (.bool false)], args := [d] }
  | _ => none }
def FnExactZigzagOfWrongFalsely : Prop := fnExactZigzagOfRow.holds Try.pinned (OpenSpec.ofChange fnExactZigzagOfWrong)

/-- 'laws.FnExactCountStepSequences': WHATEVER THE INPUT: true; the input reads as it did. -/
def fnExactCountStepSequencesSpec : ChangeSpec := { name := "fnExactCountStepSequences", fn := fun _ => fun
  | [d] => { results := [.lit (.bool true)], args := [d] }
  | _ => none }
def fnExactCountStepSequencesRow : OpenClaim := { program := "ytlnohlomanapeaa", sum := "7e0d79dd04e0eea182a2e30427f30864ef3ef2333e8fa632632d4babe401d366", func := "loop.example/g01379/laws.FnExactCountStepSequences", spec := "fnExactCountStepSequences", unfollowed := true, recurses := true, plainKeys := false, apart := false }
def FnExactCountStepSequencesSaid : Prop := fnExactCountStepSequencesRow.holds Try.pinned (OpenSpec.ofChange fnExactCountStepSequencesSpec)

/-- ITS FALSE NEIGHBOUR: 'it returns false'. Refute it at one input. -/
def fnExactCountStepSequencesWrong : ChangeSpec := { name := "fnExactCountStepSequences", fn := fun _ => fun
  | [d] => { results := [.lit (.bool false)], args := [d] }
  | _ => none }
def FnExactCountStepSequencesWrongFalsely : Prop := fnExactCountStepSequencesRow.holds Try.pinned (OpenSpec.ofChange fnExactCountStepSequencesWrong)

/-- 'laws.FnExactSquareOfList': WHATEVER THE INPUT: true; the input reads as it did. -/
def fnExactSquareOfListSpec : ChangeSpec := { name := "fnExactSquareOfList", fn := fun _ => fun
  | [d] => { results := [.lit (.bool true)], args := [d] }
  | _ => none }
def fnExactSquareOfListRow : OpenClaim := { program := "ytlnohlomanapeaa", sum := "7e0d79dd04e0eea182a2e30427f30864ef3ef2333e8fa632632d4babe401d366", func := "loop.example/g01379/laws.FnExactSquareOfList", spec := "fnExactSquareOfList", plainKeys := false, apart := false }
def FnExactSquareOfListSaid : Prop := fnExactSquareOfListRow.holds Try.pinned (OpenSpec.ofChange fnExactSquareOfListSpec)

/-- ITS FALSE NEIGHBOUR: 'it returns false'. Refute it at one input. -/
def fnExactSquareOfListWrong : ChangeSpec := { name := "fnExactSquareOfList", fn := fun _ => fun
  | [d] => { results := [.lit (.bool false)], args := [d] }
  | _ => none }
def FnExactSquareOfListWrongFalsely : Prop := fnExactSquareOfListRow.holds Try.pinned (OpenSpec.ofChange fnExactSquareOfListWrong)

/- THE SECOND FORM. 'bulk': how many values and letters a reading holds, each counted each time it is reached (what is shared counts as often as it is met; a slice's spare places count too). A statement '..UptoSaid' is the law's where the arguments, and the package variables that the reading takes, are together of bulk at most 1048576: NARROWER than '..Said'. Prove '..Said' where nothing that the law and all that it calls make is longer than what came in: it says more and counts as full. Else prove '..UptoSaid'. A law counts once. -/
mutual
def uptoBulk {H : Type} : DataW H → Nat
  | .lit (.string bytes) => bytes.length + 1
  | .lit _ => 1
  | .nil => 1
  | .ptr d => uptoBulk d + 1
  | .slice elems spare => uptoBulkAll elems + uptoBulkAll spare + 1
  | .agg parts => uptoBulkAll parts + 1
  | .iface _ d => uptoBulk d + 1
  | .map entries => uptoBulkEntries entries + 1
  | .held _ => 1
def uptoBulkAll {H : Type} : List (DataW H) → Nat
  | [] => 0
  | d :: r => uptoBulk d + uptoBulkAll r
def uptoBulkEntries {H : Type} : List (Lit × DataW H) → Nat
  | [] => 0
  | x :: r => uptoBulkEntry x + uptoBulkEntries r
def uptoBulkEntry {H : Type} : Lit × DataW H → Nat
  | (.string bytes, d) => bytes.length + uptoBulk d + 1
  | (_, d) => uptoBulk d + 1
 end
def uptoSmall : (H : Type) → List (DataW H) → Bool := fun _ ds => decide (uptoBulkAll ds ≤ 1048576)
def OpenSpec.upto (s : _root_.Go.ChangeSpec) : _root_.Go.OpenSpec := { _root_.Go.OpenSpec.ofChange s with cond := some uptoSmall }

/-- 'laws.FnCarry', WHERE WHAT IT READS IS OF BULK AT MOST 1048576: true; the input reads as it did. -/
def fnCarryUptoRow : OpenClaim := { program := "ytlnohlomanapeaa", sum := "7e0d79dd04e0eea182a2e30427f30864ef3ef2333e8fa632632d4babe401d366", func := "loop.example/g01379/laws.FnCarry", spec := "fnCarry", unfollowed := true, recurses := true, plainKeys := false, apart := false, narrowed := true }
def FnCarryUptoSaid : Prop := fnCarryUptoRow.holds Try.pinned (OpenSpec.upto fnCarrySpec)

/-- 'laws.FnRowComplete', WHERE WHAT IT READS IS OF BULK AT MOST 1048576: true; the input reads as it did. -/
def fnRowCompleteUptoRow : OpenClaim := { program := "ytlnohlomanapeaa", sum := "7e0d79dd04e0eea182a2e30427f30864ef3ef2333e8fa632632d4babe401d366", func := "loop.example/g01379/laws.FnRowComplete", spec := "fnRowComplete", unfollowed := true, recurses := true, plainKeys := false, apart := false, narrowed := true }
def FnRowCompleteUptoSaid : Prop := fnRowCompleteUptoRow.holds Try.pinned (OpenSpec.upto fnRowCompleteSpec)

/-- 'laws.FnExactNextGolfRound', WHERE WHAT IT READS IS OF BULK AT MOST 1048576: true; the input reads as it did. -/
def fnExactNextGolfRoundUptoRow : OpenClaim := { program := "ytlnohlomanapeaa", sum := "7e0d79dd04e0eea182a2e30427f30864ef3ef2333e8fa632632d4babe401d366", func := "loop.example/g01379/laws.FnExactNextGolfRound", spec := "fnExactNextGolfRound", unfollowed := true, recurses := true, plainKeys := false, apart := false, narrowed := true }
def FnExactNextGolfRoundUptoSaid : Prop := fnExactNextGolfRoundUptoRow.holds Try.pinned (OpenSpec.upto fnExactNextGolfRoundSpec)

/-- 'laws.FnExactFirstGolf', WHERE WHAT IT READS IS OF BULK AT MOST 1048576: true; the input reads as it did. -/
def fnExactFirstGolfUptoRow : OpenClaim := { program := "ytlnohlomanapeaa", sum := "7e0d79dd04e0eea182a2e30427f30864ef3ef2333e8fa632632d4babe401d366", func := "loop.example/g01379/laws.FnExactFirstGolf", spec := "fnExactFirstGolf", unfollowed := true, recurses := true, plainKeys := false, apart := false, narrowed := true }
def FnExactFirstGolfUptoSaid : Prop := fnExactFirstGolfUptoRow.holds Try.pinned (OpenSpec.upto fnExactFirstGolfSpec)

/-- 'laws.FnExactCarryMatrix', WHERE WHAT IT READS IS OF BULK AT MOST 1048576: true; the input reads as it did. -/
def fnExactCarryMatrixUptoRow : OpenClaim := { program := "ytlnohlomanapeaa", sum := "7e0d79dd04e0eea182a2e30427f30864ef3ef2333e8fa632632d4babe401d366", func := "loop.example/g01379/laws.FnExactCarryMatrix", spec := "fnExactCarryMatrix", unfollowed := true, recurses := true, plainKeys := false, apart := false, narrowed := true }
def FnExactCarryMatrixUptoSaid : Prop := fnExactCarryMatrixUptoRow.holds Try.pinned (OpenSpec.upto fnExactCarryMatrixSpec)

/-- 'laws.FnExactCarryCost', WHERE WHAT IT READS IS OF BULK AT MOST 1048576: true; the input reads as it did. -/
def fnExactCarryCostUptoRow : OpenClaim := { program := "ytlnohlomanapeaa", sum := "7e0d79dd04e0eea182a2e30427f30864ef3ef2333e8fa632632d4babe401d366", func := "loop.example/g01379/laws.FnExactCarryCost", spec := "fnExactCarryCost", unfollowed := true, recurses := true, plainKeys := false, apart := false, narrowed := true }
def FnExactCarryCostUptoSaid : Prop := fnExactCarryCostUptoRow.holds Try.pinned (OpenSpec.upto fnExactCarryCostSpec)

/-- 'laws.FnExactIsCarryBalanced', WHERE WHAT IT READS IS OF BULK AT MOST 1048576: true; the input reads as it did. -/
def fnExactIsCarryBalancedUptoRow : OpenClaim := { program := "ytlnohlomanapeaa", sum := "7e0d79dd04e0eea182a2e30427f30864ef3ef2333e8fa632632d4babe401d366", func := "loop.example/g01379/laws.FnExactIsCarryBalanced", spec := "fnExactIsCarryBalanced", unfollowed := true, recurses := true, plainKeys := false, apart := false, narrowed := true }
def FnExactIsCarryBalancedUptoSaid : Prop := fnExactIsCarryBalancedUptoRow.holds Try.pinned (OpenSpec.upto fnExactIsCarryBalancedSpec)

/-- 'laws.FnExactBestOrder', WHERE WHAT IT READS IS OF BULK AT MOST 1048576: true; the input reads as it did. -/
def fnExactBestOrderUptoRow : OpenClaim := { program := "ytlnohlomanapeaa", sum := "7e0d79dd04e0eea182a2e30427f30864ef3ef2333e8fa632632d4babe401d366", func := "loop.example/g01379/laws.FnExactBestOrder", spec := "fnExactBestOrder", unfollowed := true, recurses := true, plainKeys := false, apart := false, narrowed := true }
def FnExactBestOrderUptoSaid : Prop := fnExactBestOrderUptoRow.holds Try.pinned (OpenSpec.upto fnExactBestOrderSpec)

/-- 'laws.FnExactDigitRobin', WHERE WHAT IT READS IS OF BULK AT MOST 1048576: true; the input reads as it did. -/
def fnExactDigitRobinUptoRow : OpenClaim := { program := "ytlnohlomanapeaa", sum := "7e0d79dd04e0eea182a2e30427f30864ef3ef2333e8fa632632d4babe401d366", func := "loop.example/g01379/laws.FnExactDigitRobin", spec := "fnExactDigitRobin", plainKeys := false, apart := false, narrowed := true }
def FnExactDigitRobinUptoSaid : Prop := fnExactDigitRobinUptoRow.holds Try.pinned (OpenSpec.upto fnExactDigitRobinSpec)

/-- 'laws.FnExactFirstDigitOrder', WHERE WHAT IT READS IS OF BULK AT MOST 1048576: true; the input reads as it did. -/
def fnExactFirstDigitOrderUptoRow : OpenClaim := { program := "ytlnohlomanapeaa", sum := "7e0d79dd04e0eea182a2e30427f30864ef3ef2333e8fa632632d4babe401d366", func := "loop.example/g01379/laws.FnExactFirstDigitOrder", spec := "fnExactFirstDigitOrder", unfollowed := true, recurses := true, plainKeys := false, apart := false, narrowed := true }
def FnExactFirstDigitOrderUptoSaid : Prop := fnExactFirstDigitOrderUptoRow.holds Try.pinned (OpenSpec.upto fnExactFirstDigitOrderSpec)

/-- 'laws.FnExactIsSquareOf', WHERE WHAT IT READS IS OF BULK AT MOST 1048576: true; the input reads as it did. -/
def fnExactIsSquareOfUptoRow : OpenClaim := { program := "ytlnohlomanapeaa", sum := "7e0d79dd04e0eea182a2e30427f30864ef3ef2333e8fa632632d4babe401d366", func := "loop.example/g01379/laws.FnExactIsSquareOf", spec := "fnExactIsSquareOf", plainKeys := false, apart := false, narrowed := true }
def FnExactIsSquareOfUptoSaid : Prop := fnExactIsSquareOfUptoRow.holds Try.pinned (OpenSpec.upto fnExactIsSquareOfSpec)

/-- 'laws.FnExactIsRowComplete', WHERE WHAT IT READS IS OF BULK AT MOST 1048576: true; the input reads as it did. -/
def fnExactIsRowCompleteUptoRow : OpenClaim := { program := "ytlnohlomanapeaa", sum := "7e0d79dd04e0eea182a2e30427f30864ef3ef2333e8fa632632d4babe401d366", func := "loop.example/g01379/laws.FnExactIsRowComplete", spec := "fnExactIsRowComplete", unfollowed := true, recurses := true, plainKeys := false, apart := false, narrowed := true }
def FnExactIsRowCompleteUptoSaid : Prop := fnExactIsRowCompleteUptoRow.holds Try.pinned (OpenSpec.upto fnExactIsRowCompleteSpec)

/-- 'laws.FnExactIsStepSequence', WHERE WHAT IT READS IS OF BULK AT MOST 1048576: true; the input reads as it did. -/
def fnExactIsStepSequenceUptoRow : OpenClaim := { program := "ytlnohlomanapeaa", sum := "7e0d79dd04e0eea182a2e30427f30864ef3ef2333e8fa632632d4babe401d366", func := "loop.example/g01379/laws.FnExactIsStepSequence", spec := "fnExactIsStepSequence", unfollowed := true, recurses := true, plainKeys := false, apart := false, narrowed := true }
def FnExactIsStepSequenceUptoSaid : Prop := fnExactIsStepSequenceUptoRow.holds Try.pinned (OpenSpec.upto fnExactIsStepSequenceSpec)

/-- 'laws.FnExactZigzagOf', WHERE WHAT IT READS IS OF BULK AT MOST 1048576: true; the input reads as it did. -/
def fnExactZigzagOfUptoRow : OpenClaim := { program := "ytlnohlomanapeaa", sum := "7e0d79dd04e0eea182a2e30427f30864ef3ef2333e8fa632632d4babe401d366", func := "loop.example/g01379/laws.FnExactZigzagOf", spec := "fnExactZigzagOf", plainKeys := false, apart := false, narrowed := true }
def FnExactZigzagOfUptoSaid : Prop := fnExactZigzagOfUptoRow.holds Try.pinned (OpenSpec.upto fnExactZigzagOfSpec)

/-- 'laws.FnExactCountStepSequences', WHERE WHAT IT READS IS OF BULK AT MOST 1048576: true; the input reads as it did. -/
def fnExactCountStepSequencesUptoRow : OpenClaim := { program := "ytlnohlomanapeaa", sum := "7e0d79dd04e0eea182a2e30427f30864ef3ef2333e8fa632632d4babe401d366", func := "loop.example/g01379/laws.FnExactCountStepSequences", spec := "fnExactCountStepSequences", unfollowed := true, recurses := true, plainKeys := false, apart := false, narrowed := true }
def FnExactCountStepSequencesUptoSaid : Prop := fnExactCountStepSequencesUptoRow.holds Try.pinned (OpenSpec.upto fnExactCountStepSequencesSpec)

/-- 'laws.FnExactSquareOfList', WHERE WHAT IT READS IS OF BULK AT MOST 1048576: true; the input reads as it did. -/
def fnExactSquareOfListUptoRow : OpenClaim := { program := "ytlnohlomanapeaa", sum := "7e0d79dd04e0eea182a2e30427f30864ef3ef2333e8fa632632d4babe401d366", func := "loop.example/g01379/laws.FnExactSquareOfList", spec := "fnExactSquareOfList", plainKeys := false, apart := false, narrowed := true }
def FnExactSquareOfListUptoSaid : Prop := fnExactSquareOfListUptoRow.holds Try.pinned (OpenSpec.upto fnExactSquareOfListSpec)

end Rows
end Go.Proofs.Ytlnohlomanapeaa
