/-
  No cell of these rows narrows 'for every input' (looked for: loops, veiled, ifaces, maps, wideKeys, modest, calm, conditions, laid).
  DERIVED. THE GIVEN ROWS OF THIS SEAT. 17 by the template 'for every input the law returns true; each argument reads behind the call as it read before'; 0 by the template 'total and deterministic' (their statements: YtabccmngdhgdfaaTotals.lean).
  GIVEN WITH THE SEED: the statements are not yours to turn. If you find one false, say at which input.
  Laid BY PROGRAM, IN A SANDBOX (cutbox-rows.mjs): the forced cells as the released guide's own fill.sh prints them over the translation 1e4847a769e3ff22… (all of the seat's roots in one cut). By AI agents, Wed Nov 11 2026. No macro, syntax, notation, axiom, sorry.
-/
import Derived.Test.YtabccmngdhgdfaaChecked
import GoSem.Claim
import GoSem.ClaimJoined
import GoSem.ClaimMapViews
import Derived.JoinedTies
import Derived.KernelRfl
namespace Go.Proofs.Ytabccmngdhgdfaa
/- THE CELL 'sum', in the pinned program and in every row, IS THE sha256 OF THE DUMP (.gsa) THAT YtabccmngdhgdfaaProg.lean LOADS. Nothing in Lean hashes anything: it is a label: what it is worth is what the hold of that sum in a sandbox is worth. -/
noncomputable def Try.pinned : Pinned := { name := "ytabccmngdhgdfaa", sum := "1e4847a769e3ff22b085f72e622656c9f9ff5b4d5513747bc0de23f14bffe2a8", checked := Try.checked }
namespace Rows
def none {H : Type} : Left H := { results := [], args := [] }

/-- 'laws.FnComponents': WHATEVER THE INPUT: true; the input reads as it did. -/
def fnComponentsSpec : ChangeSpec := { name := "fnComponents", fn := fun _ => fun
  | [d] => { results := [.lit (.bool true)], args := [d] }
  | _ => none }
def fnComponentsRow : OpenClaim := { program := "ytabccmngdhgdfaa", sum := "1e4847a769e3ff22b085f72e622656c9f9ff5b4d5513747bc0de23f14bffe2a8", func := "loop.example/g01379/laws.FnComponents", spec := "fnComponents", unfollowed := true, recurses := true, plainKeys := false, apart := false }
def FnComponentsSaid : Prop := fnComponentsRow.holds Try.pinned (OpenSpec.ofChange fnComponentsSpec)

/-- ITS FALSE NEIGHBOUR: 'it returns false'. Refute it at one input. -/
def fnComponentsWrong : ChangeSpec := { name := "fnComponents", fn := fun _ => fun
  | [d] => { results := [.lit (.bool false)], args := [d] }
  | _ => none }
def FnComponentsWrongFalsely : Prop := fnComponentsRow.holds Try.pinned (OpenSpec.ofChange fnComponentsWrong)

/-- 'laws.FnRenumberings': WHATEVER THE INPUT: true; the input reads as it did. -/
def fnRenumberingsSpec : ChangeSpec := { name := "fnRenumberings", fn := fun _ => fun
  | [d] => { results := [.lit (.bool true)], args := [d] }
  | _ => none }
def fnRenumberingsRow : OpenClaim := { program := "ytabccmngdhgdfaa", sum := "1e4847a769e3ff22b085f72e622656c9f9ff5b4d5513747bc0de23f14bffe2a8", func := "loop.example/g01379/laws.FnRenumberings", spec := "fnRenumberings", unfollowed := true, recurses := true, plainKeys := false, apart := false }
def FnRenumberingsSaid : Prop := fnRenumberingsRow.holds Try.pinned (OpenSpec.ofChange fnRenumberingsSpec)

/-- ITS FALSE NEIGHBOUR: 'it returns false'. Refute it at one input. -/
def fnRenumberingsWrong : ChangeSpec := { name := "fnRenumberings", fn := fun _ => fun
  | [d] => { results := [.lit (.bool false)], args := [d] }
  | _ => none }
def FnRenumberingsWrongFalsely : Prop := fnRenumberingsRow.holds Try.pinned (OpenSpec.ofChange fnRenumberingsWrong)

/-- 'laws.FnExactRoundOf': WHATEVER THE INPUT: true; the input reads as it did. -/
def fnExactRoundOfSpec : ChangeSpec := { name := "fnExactRoundOf", fn := fun _ => fun
  | [d1, d2] => { results := [.lit (.bool true)], args := [d1, d2] }
  | _ => none }
def fnExactRoundOfRow : OpenClaim := { program := "ytabccmngdhgdfaa", sum := "1e4847a769e3ff22b085f72e622656c9f9ff5b4d5513747bc0de23f14bffe2a8", func := "loop.example/g01379/laws.FnExactRoundOf", spec := "fnExactRoundOf", plainKeys := false, apart := false }
def FnExactRoundOfSaid : Prop := fnExactRoundOfRow.holds Try.pinned (OpenSpec.ofChange fnExactRoundOfSpec)

/-- ITS FALSE NEIGHBOUR: 'it returns false'. Refute it at one input. -/
def fnExactRoundOfWrong : ChangeSpec := { name := "fnExactRoundOf", fn := fun _ => fun
  | [d1, d2] => { results := [.lit (.bool false)], args := [d1, d2] }
  | _ => none }
def FnExactRoundOfWrongFalsely : Prop := fnExactRoundOfRow.holds Try.pinned (OpenSpec.ofChange fnExactRoundOfWrong)

/-- 'laws.FnExactPairsOf': WHATEVER THE INPUT: true; the input reads as it did. -/
def fnExactPairsOfSpec : ChangeSpec := { name := "fnExactPairsOf", fn := fun _ => fun
  | [d1, d2] => { results := [.lit (.bool true)], args := [d1, d2] }
  | _ => none }
def fnExactPairsOfRow : OpenClaim := { program := "ytabccmngdhgdfaa", sum := "1e4847a769e3ff22b085f72e622656c9f9ff5b4d5513747bc0de23f14bffe2a8", func := "loop.example/g01379/laws.FnExactPairsOf", spec := "fnExactPairsOf", unfollowed := true, recurses := true, plainKeys := false, apart := false }
def FnExactPairsOfSaid : Prop := fnExactPairsOfRow.holds Try.pinned (OpenSpec.ofChange fnExactPairsOfSpec)

/-- ITS FALSE NEIGHBOUR: 'it returns false'. Refute it at one input. -/
def fnExactPairsOfWrong : ChangeSpec := { name := "fnExactPairsOf", fn := fun _ => fun
  | [d1, d2] => { results := [.lit (.bool false)], args := [d1, d2] }
  | _ => none }
def FnExactPairsOfWrongFalsely : Prop := fnExactPairsOfRow.holds Try.pinned (OpenSpec.ofChange fnExactPairsOfWrong)

/-- 'laws.FnExactMeetingsOf': WHATEVER THE INPUT: true; the input reads as it did. -/
def fnExactMeetingsOfSpec : ChangeSpec := { name := "fnExactMeetingsOf", fn := fun _ => fun
  | [d] => { results := [.lit (.bool true)], args := [d] }
  | _ => none }
def fnExactMeetingsOfRow : OpenClaim := { program := "ytabccmngdhgdfaa", sum := "1e4847a769e3ff22b085f72e622656c9f9ff5b4d5513747bc0de23f14bffe2a8", func := "loop.example/g01379/laws.FnExactMeetingsOf", spec := "fnExactMeetingsOf", unfollowed := true, recurses := true, plainKeys := false, apart := false }
def FnExactMeetingsOfSaid : Prop := fnExactMeetingsOfRow.holds Try.pinned (OpenSpec.ofChange fnExactMeetingsOfSpec)

/-- ITS FALSE NEIGHBOUR: 'it returns false'. Refute it at one input. -/
def fnExactMeetingsOfWrong : ChangeSpec := { name := "fnExactMeetingsOf", fn := fun _ => fun
  | [d] => { results := [.lit (.bool false)], args := [d] }
  | _ => none }
def FnExactMeetingsOfWrongFalsely : Prop := fnExactMeetingsOfRow.holds Try.pinned (OpenSpec.ofChange fnExactMeetingsOfWrong)

/-- 'laws.FnExactIsRoundRobin': WHATEVER THE INPUT: true; the input reads as it did. -/
def fnExactIsRoundRobinSpec : ChangeSpec := { name := "fnExactIsRoundRobin", fn := fun _ => fun
  | [d] => { results := [.lit (.bool true)], args := [d] }
  | _ => none }
def fnExactIsRoundRobinRow : OpenClaim := { program := "ytabccmngdhgdfaa", sum := "1e4847a769e3ff22b085f72e622656c9f9ff5b4d5513747bc0de23f14bffe2a8", func := "loop.example/g01379/laws.FnExactIsRoundRobin", spec := "fnExactIsRoundRobin", unfollowed := true, recurses := true, plainKeys := false, apart := false }
def FnExactIsRoundRobinSaid : Prop := fnExactIsRoundRobinRow.holds Try.pinned (OpenSpec.ofChange fnExactIsRoundRobinSpec)

/-- ITS FALSE NEIGHBOUR: 'it returns false'. Refute it at one input. -/
def fnExactIsRoundRobinWrong : ChangeSpec := { name := "fnExactIsRoundRobin", fn := fun _ => fun
  | [d] => { results := [.lit (.bool false)], args := [d] }
  | _ => none }
def FnExactIsRoundRobinWrongFalsely : Prop := fnExactIsRoundRobinRow.holds Try.pinned (OpenSpec.ofChange fnExactIsRoundRobinWrong)

/-- 'laws.FnExactJoinSchedules': WHATEVER THE INPUT: true; the input reads as it did. -/
def fnExactJoinSchedulesSpec : ChangeSpec := { name := "fnExactJoinSchedules", fn := fun _ => fun
  | [d1, d2] => { results := [.lit (.bool true)], args := [d1, d2] }
  | _ => none }
def fnExactJoinSchedulesRow : OpenClaim := { program := "ytabccmngdhgdfaa", sum := "1e4847a769e3ff22b085f72e622656c9f9ff5b4d5513747bc0de23f14bffe2a8", func := "loop.example/g01379/laws.FnExactJoinSchedules", spec := "fnExactJoinSchedules", plainKeys := false, apart := false }
def FnExactJoinSchedulesSaid : Prop := fnExactJoinSchedulesRow.holds Try.pinned (OpenSpec.ofChange fnExactJoinSchedulesSpec)

/-- ITS FALSE NEIGHBOUR: 'it returns false'. Refute it at one input. -/
def fnExactJoinSchedulesWrong : ChangeSpec := { name := "fnExactJoinSchedules", fn := fun _ => fun
  | [d1, d2] => { results := [.lit (.bool false)], args := [d1, d2] }
  | _ => none }
def FnExactJoinSchedulesWrongFalsely : Prop := fnExactJoinSchedulesRow.holds Try.pinned (OpenSpec.ofChange fnExactJoinSchedulesWrong)

/-- 'laws.FnExactMissingPairs': WHATEVER THE INPUT: true; the input reads as it did. -/
def fnExactMissingPairsSpec : ChangeSpec := { name := "fnExactMissingPairs", fn := fun _ => fun
  | [d] => { results := [.lit (.bool true)], args := [d] }
  | _ => none }
def fnExactMissingPairsRow : OpenClaim := { program := "ytabccmngdhgdfaa", sum := "1e4847a769e3ff22b085f72e622656c9f9ff5b4d5513747bc0de23f14bffe2a8", func := "loop.example/g01379/laws.FnExactMissingPairs", spec := "fnExactMissingPairs", unfollowed := true, recurses := true, plainKeys := false, apart := false }
def FnExactMissingPairsSaid : Prop := fnExactMissingPairsRow.holds Try.pinned (OpenSpec.ofChange fnExactMissingPairsSpec)

/-- ITS FALSE NEIGHBOUR: 'it returns false'. Refute it at one input. -/
def fnExactMissingPairsWrong : ChangeSpec := { name := "fnExactMissingPairs", fn := fun _ => fun
  | [d] => { results := [.lit (.bool false)], args := [d] }
  | _ => none }
def FnExactMissingPairsWrongFalsely : Prop := fnExactMissingPairsRow.holds Try.pinned (OpenSpec.ofChange fnExactMissingPairsWrong)

/-- 'laws.FnExactComponentsOf': WHATEVER THE INPUT: true; the input reads as it did. -/
def fnExactComponentsOfSpec : ChangeSpec := { name := "fnExactComponentsOf", fn := fun _ => fun
  | [d1, d2, d3] => { results := [.lit (.bool true)], args := [d1, d2, d3] }
  | _ => none }
def fnExactComponentsOfRow : OpenClaim := { program := "ytabccmngdhgdfaa", sum := "1e4847a769e3ff22b085f72e622656c9f9ff5b4d5513747bc0de23f14bffe2a8", func := "loop.example/g01379/laws.FnExactComponentsOf", spec := "fnExactComponentsOf", recurses := true, plainKeys := false, apart := false }
def FnExactComponentsOfSaid : Prop := fnExactComponentsOfRow.holds Try.pinned (OpenSpec.ofChange fnExactComponentsOfSpec)

/-- ITS FALSE NEIGHBOUR: 'it returns false'. Refute it at one input. -/
def fnExactComponentsOfWrong : ChangeSpec := { name := "fnExactComponentsOf", fn := fun _ => fun
  | [d1, d2, d3] => { results := [.lit (.bool false)], args := [d1, d2, d3] }
  | _ => none }
def FnExactComponentsOfWrongFalsely : Prop := fnExactComponentsOfRow.holds Try.pinned (OpenSpec.ofChange fnExactComponentsOfWrong)

/-- 'laws.FnExactTypeOfRounds': WHATEVER THE INPUT: true; the input reads as it did. -/
def fnExactTypeOfRoundsSpec : ChangeSpec := { name := "fnExactTypeOfRounds", fn := fun _ => fun
  | [d1, d2, d3] => { results := [.lit (.bool true)], args := [d1, d2, d3] }
  | _ => none }
def fnExactTypeOfRoundsRow : OpenClaim := { program := "ytabccmngdhgdfaa", sum := "1e4847a769e3ff22b085f72e622656c9f9ff5b4d5513747bc0de23f14bffe2a8", func := "loop.example/g01379/laws.FnExactTypeOfRounds", spec := "fnExactTypeOfRounds", unfollowed := true, recurses := true, plainKeys := false, apart := false }
def FnExactTypeOfRoundsSaid : Prop := fnExactTypeOfRoundsRow.holds Try.pinned (OpenSpec.ofChange fnExactTypeOfRoundsSpec)

/-- ITS FALSE NEIGHBOUR: 'it returns false'. Refute it at one input. -/
def fnExactTypeOfRoundsWrong : ChangeSpec := { name := "fnExactTypeOfRounds", fn := fun _ => fun
  | [d1, d2, d3] => { results := [.lit (.bool false)], args := [d1, d2, d3] }
  | _ => none }
def FnExactTypeOfRoundsWrongFalsely : Prop := fnExactTypeOfRoundsRow.holds Try.pinned (OpenSpec.ofChange fnExactTypeOfRoundsWrong)

/-- 'laws.FnExactChainFrom': WHATEVER THE INPUT: true; the input reads as it did. -/
def fnExactChainFromSpec : ChangeSpec := { name := "fnExactChainFrom", fn := fun _ => fun
  | [d1, d2, d3, d4] => { results := [.lit (.bool true)], args := [d1, d2, d3, d4] }
  | _ => none }
def fnExactChainFromRow : OpenClaim := { program := "ytabccmngdhgdfaa", sum := "1e4847a769e3ff22b085f72e622656c9f9ff5b4d5513747bc0de23f14bffe2a8", func := "loop.example/g01379/laws.FnExactChainFrom", spec := "fnExactChainFrom", plainKeys := false, apart := false }
def FnExactChainFromSaid : Prop := fnExactChainFromRow.holds Try.pinned (OpenSpec.ofChange fnExactChainFromSpec)

/-- ITS FALSE NEIGHBOUR: 'it returns false'. Refute it at one input. -/
def fnExactChainFromWrong : ChangeSpec := { name := "fnExactChainFrom", fn := fun _ => fun
  | [d1, d2, d3, d4] => { results := [.lit (.bool false)], args := [d1, d2, d3, d4] }
  | _ => none }
def FnExactChainFromWrongFalsely : Prop := fnExactChainFromRow.holds Try.pinned (OpenSpec.ofChange fnExactChainFromWrong)

/-- 'laws.FnExactIsPerfect': WHATEVER THE INPUT: true; the input reads as it did. -/
def fnExactIsPerfectSpec : ChangeSpec := { name := "fnExactIsPerfect", fn := fun _ => fun
  | [d] => { results := [.lit (.bool true)], args := [d] }
  | _ => none }
def fnExactIsPerfectRow : OpenClaim := { program := "ytabccmngdhgdfaa", sum := "1e4847a769e3ff22b085f72e622656c9f9ff5b4d5513747bc0de23f14bffe2a8", func := "loop.example/g01379/laws.FnExactIsPerfect", spec := "fnExactIsPerfect", unfollowed := true, recurses := true, plainKeys := false, apart := false }
def FnExactIsPerfectSaid : Prop := fnExactIsPerfectRow.holds Try.pinned (OpenSpec.ofChange fnExactIsPerfectSpec)

/-- ITS FALSE NEIGHBOUR: 'it returns false'. Refute it at one input. -/
def fnExactIsPerfectWrong : ChangeSpec := { name := "fnExactIsPerfect", fn := fun _ => fun
  | [d] => { results := [.lit (.bool false)], args := [d] }
  | _ => none }
def FnExactIsPerfectWrongFalsely : Prop := fnExactIsPerfectRow.holds Try.pinned (OpenSpec.ofChange fnExactIsPerfectWrong)

/-- 'laws.FnExactTypesOf': WHATEVER THE INPUT: true; the input reads as it did. -/
def fnExactTypesOfSpec : ChangeSpec := { name := "fnExactTypesOf", fn := fun _ => fun
  | [d] => { results := [.lit (.bool true)], args := [d] }
  | _ => none }
def fnExactTypesOfRow : OpenClaim := { program := "ytabccmngdhgdfaa", sum := "1e4847a769e3ff22b085f72e622656c9f9ff5b4d5513747bc0de23f14bffe2a8", func := "loop.example/g01379/laws.FnExactTypesOf", spec := "fnExactTypesOf", unfollowed := true, recurses := true, plainKeys := false, apart := false }
def FnExactTypesOfSaid : Prop := fnExactTypesOfRow.holds Try.pinned (OpenSpec.ofChange fnExactTypesOfSpec)

/-- ITS FALSE NEIGHBOUR: 'it returns false'. Refute it at one input. -/
def fnExactTypesOfWrong : ChangeSpec := { name := "fnExactTypesOf", fn := fun _ => fun
  | [d] => { results := [.lit (.bool false)], args := [d] }
  | _ => none }
def FnExactTypesOfWrongFalsely : Prop := fnExactTypesOfRow.holds Try.pinned (OpenSpec.ofChange fnExactTypesOfWrong)

/-- 'laws.FnExactFindRenumbering': WHATEVER THE INPUT: true; the input reads as it did. -/
def fnExactFindRenumberingSpec : ChangeSpec := { name := "fnExactFindRenumbering", fn := fun _ => fun
  | [d1, d2] => { results := [.lit (.bool true)], args := [d1, d2] }
  | _ => none }
def fnExactFindRenumberingRow : OpenClaim := { program := "ytabccmngdhgdfaa", sum := "1e4847a769e3ff22b085f72e622656c9f9ff5b4d5513747bc0de23f14bffe2a8", func := "loop.example/g01379/laws.FnExactFindRenumbering", spec := "fnExactFindRenumbering", unfollowed := true, recurses := true, plainKeys := false, apart := false }
def FnExactFindRenumberingSaid : Prop := fnExactFindRenumberingRow.holds Try.pinned (OpenSpec.ofChange fnExactFindRenumberingSpec)

/-- ITS FALSE NEIGHBOUR: 'it returns false'. Refute it at one input. -/
def fnExactFindRenumberingWrong : ChangeSpec := { name := "fnExactFindRenumbering", fn := fun _ => fun
  | [d1, d2] => { results := [.lit (.bool false)], args := [d1, d2] }
  | _ => none }
def FnExactFindRenumberingWrongFalsely : Prop := fnExactFindRenumberingRow.holds Try.pinned (OpenSpec.ofChange fnExactFindRenumberingWrong)

/-- 'laws.FnExactCountAutomorphisms': WHATEVER THE INPUT: true; the input reads as it did. -/
def fnExactCountAutomorphismsSpec : ChangeSpec := { name := "fnExactCountAutomorphisms", fn := fun _ => fun
  | [d] => { results := [.lit (.bool true)], args := [d] }
  | _ => none }
def fnExactCountAutomorphismsRow : OpenClaim := { program := "ytabccmngdhgdfaa", sum := "1e4847a769e3ff22b085f72e622656c9f9ff5b4d5513747bc0de23f14bffe2a8", func := "loop.example/g01379/laws.FnExactCountAutomorphisms", spec := "fnExactCountAutomorphisms", unfollowed := true, recurses := true, plainKeys := false, apart := false }
def FnExactCountAutomorphismsSaid : Prop := fnExactCountAutomorphismsRow.holds Try.pinned (OpenSpec.ofChange fnExactCountAutomorphismsSpec)

/-- ITS FALSE NEIGHBOUR: 'it returns false'. Refute it at one input. -/
def fnExactCountAutomorphismsWrong : ChangeSpec := { name := "fnExactCountAutomorphisms", fn := fun _ => fun
  | [d] => { results := [.lit (.bool false)], args := [d] }
  | _ => none }
def FnExactCountAutomorphismsWrongFalsely : Prop := fnExactCountAutomorphismsRow.holds Try.pinned (OpenSpec.ofChange fnExactCountAutomorphismsWrong)

/-- 'laws.FnExactCompleteSchedule': WHATEVER THE INPUT: true; the input reads as it did. -/
def fnExactCompleteScheduleSpec : ChangeSpec := { name := "fnExactCompleteSchedule", fn := fun _ => fun
  | [d] => { results := [.lit (.bool true)], args := [d] }
  | _ => none }
def fnExactCompleteScheduleRow : OpenClaim := { program := "ytabccmngdhgdfaa", sum := "1e4847a769e3ff22b085f72e622656c9f9ff5b4d5513747bc0de23f14bffe2a8", func := "loop.example/g01379/laws.FnExactCompleteSchedule", spec := "fnExactCompleteSchedule", unfollowed := true, recurses := true, plainKeys := false, apart := false }
def FnExactCompleteScheduleSaid : Prop := fnExactCompleteScheduleRow.holds Try.pinned (OpenSpec.ofChange fnExactCompleteScheduleSpec)

/-- ITS FALSE NEIGHBOUR: 'it returns false'. Refute it at one input. -/
def fnExactCompleteScheduleWrong : ChangeSpec := { name := "fnExactCompleteSchedule", fn := fun _ => fun
  | [d] => { results := [.lit (.bool false)], args := [d] }
  | _ => none }
def FnExactCompleteScheduleWrongFalsely : Prop := fnExactCompleteScheduleRow.holds Try.pinned (OpenSpec.ofChange fnExactCompleteScheduleWrong)

/-- 'laws.FnExactCountRobins': WHATEVER THE INPUT: true; the input reads as it did. -/
def fnExactCountRobinsSpec : ChangeSpec := { name := "fnExactCountRobins", fn := fun _ => fun
  | [d] => { results := [.lit (.bool true)], args := [d] }
  | _ => none }
def fnExactCountRobinsRow : OpenClaim := { program := "ytabccmngdhgdfaa", sum := "1e4847a769e3ff22b085f72e622656c9f9ff5b4d5513747bc0de23f14bffe2a8", func := "loop.example/g01379/laws.FnExactCountRobins", spec := "fnExactCountRobins", unfollowed := true, recurses := true, plainKeys := false, apart := false }
def FnExactCountRobinsSaid : Prop := fnExactCountRobinsRow.holds Try.pinned (OpenSpec.ofChange fnExactCountRobinsSpec)

/-- ITS FALSE NEIGHBOUR: 'it returns false'. Refute it at one input. -/
def fnExactCountRobinsWrong : ChangeSpec := { name := "fnExactCountRobins", fn := fun _ => fun
  | [d] => { results := [.lit (.bool false)], args := [d] }
  | _ => none }
def FnExactCountRobinsWrongFalsely : Prop := fnExactCountRobinsRow.holds Try.pinned (OpenSpec.ofChange fnExactCountRobinsWrong)

/- THE SECOND FORM. 'bulk': how many values and letters a reading holds, each counted each time it is reached (what is shared counts as often as it is met; a slice's spare places count too). A statement '..UptoSaid' is the law's where the arguments, and the package variables that the reading takes, are together of bulk at most 1048576: NARROWER than '..Said'. Prove '..Said' where nothing that the law and all that it calls make is longer than what came in: it says more and counts as full. Else prove '..UptoSaid'. A law counts once. -/
mutual
def uptoBulk {H : Type} : DataW H → Nat
  | .lit (.string bytes) => bytes.length + 1
  | .lit _ => 1
  | .nil => 1
  | .ptr d => uptoBulk d + 1
  | .slice elems spare => uptoBulkAll elems + uptoBulkAll spare + 1
  | .agg parts => uptoBulkAll parts + 1
  | .iface _ d => uptoBulk d + 1
  | .map entries => uptoBulkEntries entries + 1
  | .held _ => 1
def uptoBulkAll {H : Type} : List (DataW H) → Nat
  | [] => 0
  | d :: r => uptoBulk d + uptoBulkAll r
def uptoBulkEntries {H : Type} : List (Lit × DataW H) → Nat
  | [] => 0
  | x :: r => uptoBulkEntry x + uptoBulkEntries r
def uptoBulkEntry {H : Type} : Lit × DataW H → Nat
  | (.string bytes, d) => bytes.length + uptoBulk d + 1
  | (_, d) => uptoBulk d + 1
 end
def uptoSmall : (H : Type) → List (DataW H) → Bool := fun _ ds => decide (uptoBulkAll ds ≤ 1048576)
def OpenSpec.upto (s : _root_.Go.ChangeSpec) : _root_.Go.OpenSpec := { _root_.Go.OpenSpec.ofChange s with cond := some uptoSmall }

/-- 'laws.FnComponents', WHERE WHAT IT READS IS OF BULK AT MOST 1048576: true; the input reads as it did. -/
def fnComponentsUptoRow : OpenClaim := { program := "ytabccmngdhgdfaa", sum := "1e4847a769e3ff22b085f72e622656c9f9ff5b4d5513747bc0de23f14bffe2a8", func := "loop.example/g01379/laws.FnComponents", spec := "fnComponents", unfollowed := true, recurses := true, plainKeys := false, apart := false, narrowed := true }
def FnComponentsUptoSaid : Prop := fnComponentsUptoRow.holds Try.pinned (OpenSpec.upto fnComponentsSpec)

/-- 'laws.FnRenumberings', WHERE WHAT IT READS IS OF BULK AT MOST 1048576: true; the input reads as it did. -/
def fnRenumberingsUptoRow : OpenClaim := { program := "ytabccmngdhgdfaa", sum := "1e4847a769e3ff22b085f72e622656c9f9ff5b4d5513747bc0de23f14bffe2a8", func := "loop.example/g01379/laws.FnRenumberings", spec := "fnRenumberings", unfollowed := true, recurses := true, plainKeys := false, apart := false, narrowed := true }
def FnRenumberingsUptoSaid : Prop := fnRenumberingsUptoRow.holds Try.pinned (OpenSpec.upto fnRenumberingsSpec)

/-- 'laws.FnExactRoundOf', WHERE WHAT IT READS IS OF BULK AT MOST 1048576: true; the input reads as it did. -/
def fnExactRoundOfUptoRow : OpenClaim := { program := "ytabccmngdhgdfaa", sum := "1e4847a769e3ff22b085f72e622656c9f9ff5b4d5513747bc0de23f14bffe2a8", func := "loop.example/g01379/laws.FnExactRoundOf", spec := "fnExactRoundOf", plainKeys := false, apart := false, narrowed := true }
def FnExactRoundOfUptoSaid : Prop := fnExactRoundOfUptoRow.holds Try.pinned (OpenSpec.upto fnExactRoundOfSpec)

/-- 'laws.FnExactPairsOf', WHERE WHAT IT READS IS OF BULK AT MOST 1048576: true; the input reads as it did. -/
def fnExactPairsOfUptoRow : OpenClaim := { program := "ytabccmngdhgdfaa", sum := "1e4847a769e3ff22b085f72e622656c9f9ff5b4d5513747bc0de23f14bffe2a8", func := "loop.example/g01379/laws.FnExactPairsOf", spec := "fnExactPairsOf", unfollowed := true, recurses := true, plainKeys := false, apart := false, narrowed := true }
def FnExactPairsOfUptoSaid : Prop := fnExactPairsOfUptoRow.holds Try.pinned (OpenSpec.upto fnExactPairsOfSpec)

/-- 'laws.FnExactMeetingsOf', WHERE WHAT IT READS IS OF BULK AT MOST 1048576: true; the input reads as it did. -/
def fnExactMeetingsOfUptoRow : OpenClaim := { program := "ytabccmngdhgdfaa", sum := "1e4847a769e3ff22b085f72e622656c9f9ff5b4d5513747bc0de23f14bffe2a8", func := "loop.example/g01379/laws.FnExactMeetingsOf", spec := "fnExactMeetingsOf", unfollowed := true, recurses := true, plainKeys := false, apart := false, narrowed := true }
def FnExactMeetingsOfUptoSaid : Prop := fnExactMeetingsOfUptoRow.holds Try.pinned (OpenSpec.upto fnExactMeetingsOfSpec)

/-- 'laws.FnExactIsRoundRobin', WHERE WHAT IT READS IS OF BULK AT MOST 1048576: true; the input reads as it did. -/
def fnExactIsRoundRobinUptoRow : OpenClaim := { program := "ytabccmngdhgdfaa", sum := "1e4847a769e3ff22b085f72e622656c9f9ff5b4d5513747bc0de23f14bffe2a8", func := "loop.example/g01379/laws.FnExactIsRoundRobin", spec := "fnExactIsRoundRobin", unfollowed := true, recurses := true, plainKeys := false, apart := false, narrowed := true }
def FnExactIsRoundRobinUptoSaid : Prop := fnExactIsRoundRobinUptoRow.holds Try.pinned (OpenSpec.upto fnExactIsRoundRobinSpec)

/-- 'laws.FnExactJoinSchedules', WHERE WHAT IT READS IS OF BULK AT MOST 1048576: true; the input reads as it did. -/
def fnExactJoinSchedulesUptoRow : OpenClaim := { program := "ytabccmngdhgdfaa", sum := "1e4847a769e3ff22b085f72e622656c9f9ff5b4d5513747bc0de23f14bffe2a8", func := "loop.example/g01379/laws.FnExactJoinSchedules", spec := "fnExactJoinSchedules", plainKeys := false, apart := false, narrowed := true }
def FnExactJoinSchedulesUptoSaid : Prop := fnExactJoinSchedulesUptoRow.holds Try.pinned (OpenSpec.upto fnExactJoinSchedulesSpec)

/-- 'laws.FnExactMissingPairs', WHERE WHAT IT READS IS OF BULK AT MOST 1048576: true; the input reads as it did. -/
def fnExactMissingPairsUptoRow : OpenClaim := { program := "ytabccmngdhgdfaa", sum := "1e4847a769e3ff22b085f72e622656c9f9ff5b4d5513747bc0de23f14bffe2a8", func := "loop.example/g01379/laws.FnExactMissingPairs", spec := "fnExactMissingPairs", unfollowed := true, recurses := true, plainKeys := false, apart := false, narrowed := true }
def FnExactMissingPairsUptoSaid : Prop := fnExactMissingPairsUptoRow.holds Try.pinned (OpenSpec.upto fnExactMissingPairsSpec)

/-- 'laws.FnExactComponentsOf', WHERE WHAT IT READS IS OF BULK AT MOST 1048576: true; the input reads as it did. -/
def fnExactComponentsOfUptoRow : OpenClaim := { program := "ytabccmngdhgdfaa", sum := "1e4847a769e3ff22b085f72e622656c9f9ff5b4d5513747bc0de23f14bffe2a8", func := "loop.example/g01379/laws.FnExactComponentsOf", spec := "fnExactComponentsOf", recurses := true, plainKeys := false, apart := false, narrowed := true }
def FnExactComponentsOfUptoSaid : Prop := fnExactComponentsOfUptoRow.holds Try.pinned (OpenSpec.upto fnExactComponentsOfSpec)

/-- 'laws.FnExactTypeOfRounds', WHERE WHAT IT READS IS OF BULK AT MOST 1048576: true; the input reads as it did. -/
def fnExactTypeOfRoundsUptoRow : OpenClaim := { program := "ytabccmngdhgdfaa", sum := "1e4847a769e3ff22b085f72e622656c9f9ff5b4d5513747bc0de23f14bffe2a8", func := "loop.example/g01379/laws.FnExactTypeOfRounds", spec := "fnExactTypeOfRounds", unfollowed := true, recurses := true, plainKeys := false, apart := false, narrowed := true }
def FnExactTypeOfRoundsUptoSaid : Prop := fnExactTypeOfRoundsUptoRow.holds Try.pinned (OpenSpec.upto fnExactTypeOfRoundsSpec)

/-- 'laws.FnExactChainFrom', WHERE WHAT IT READS IS OF BULK AT MOST 1048576: true; the input reads as it did. -/
def fnExactChainFromUptoRow : OpenClaim := { program := "ytabccmngdhgdfaa", sum := "1e4847a769e3ff22b085f72e622656c9f9ff5b4d5513747bc0de23f14bffe2a8", func := "loop.example/g01379/laws.FnExactChainFrom", spec := "fnExactChainFrom", plainKeys := false, apart := false, narrowed := true }
def FnExactChainFromUptoSaid : Prop := fnExactChainFromUptoRow.holds Try.pinned (OpenSpec.upto fnExactChainFromSpec)

/-- 'laws.FnExactIsPerfect', WHERE WHAT IT READS IS OF BULK AT MOST 1048576: true; the input reads as it did. -/
def fnExactIsPerfectUptoRow : OpenClaim := { program := "ytabccmngdhgdfaa", sum := "1e4847a769e3ff22b085f72e622656c9f9ff5b4d5513747bc0de23f14bffe2a8", func := "loop.example/g01379/laws.FnExactIsPerfect", spec := "fnExactIsPerfect", unfollowed := true, recurses := true, plainKeys := false, apart := false, narrowed := true }
def FnExactIsPerfectUptoSaid : Prop := fnExactIsPerfectUptoRow.holds Try.pinned (OpenSpec.upto fnExactIsPerfectSpec)

/-- 'laws.FnExactTypesOf', WHERE WHAT IT READS IS OF BULK AT MOST 1048576: true; the input reads as it did. -/
def fnExactTypesOfUptoRow : OpenClaim := { program := "ytabccmngdhgdfaa", sum := "1e4847a769e3ff22b085f72e622656c9f9ff5b4d5513747bc0de23f14bffe2a8", func := "loop.example/g01379/laws.FnExactTypesOf", spec := "fnExactTypesOf", unfollowed := true, recurses := true, plainKeys := false, apart := false, narrowed := true }
def FnExactTypesOfUptoSaid : Prop := fnExactTypesOfUptoRow.holds Try.pinned (OpenSpec.upto fnExactTypesOfSpec)

/-- 'laws.FnExactFindRenumbering', WHERE WHAT IT READS IS OF BULK AT MOST 1048576: true; the input reads as it did. -/
def fnExactFindRenumberingUptoRow : OpenClaim := { program := "ytabccmngdhgdfaa", sum := "1e4847a769e3ff22b085f72e622656c9f9ff5b4d5513747bc0de23f14bffe2a8", func := "loop.example/g01379/laws.FnExactFindRenumbering", spec := "fnExactFindRenumbering", unfollowed := true, recurses := true, plainKeys := false, apart := false, narrowed := true }
def FnExactFindRenumberingUptoSaid : Prop := fnExactFindRenumberingUptoRow.holds Try.pinned (OpenSpec.upto fnExactFindRenumberingSpec)

/-- 'laws.FnExactCountAutomorphisms', WHERE WHAT IT READS IS OF BULK AT MOST 1048576: true; the input reads as it did. -/
def fnExactCountAutomorphismsUptoRow : OpenClaim := { program := "ytabccmngdhgdfaa", sum := "1e4847a769e3ff22b085f72e622656c9f9ff5b4d5513747bc0de23f14bffe2a8", func := "loop.example/g01379/laws.FnExactCountAutomorphisms", spec := "fnExactCountAutomorphisms", unfollowed := true, recurses := true, plainKeys := false, apart := false, narrowed := true }
def FnExactCountAutomorphismsUptoSaid : Prop := fnExactCountAutomorphismsUptoRow.holds Try.pinned (OpenSpec.upto fnExactCountAutomorphismsSpec)

/-- 'laws.FnExactCompleteSchedule', WHERE WHAT IT READS IS OF BULK AT MOST 1048576: true; the input reads as it did. -/
def fnExactCompleteScheduleUptoRow : OpenClaim := { program := "ytabccmngdhgdfaa", sum := "1e4847a769e3ff22b085f72e622656c9f9ff5b4d5513747bc0de23f14bffe2a8", func := "loop.example/g01379/laws.FnExactCompleteSchedule", spec := "fnExactCompleteSchedule", unfollowed := true, recurses := true, plainKeys := false, apart := false, narrowed := true }
def FnExactCompleteScheduleUptoSaid : Prop := fnExactCompleteScheduleUptoRow.holds Try.pinned (OpenSpec.upto fnExactCompleteScheduleSpec)

/-- 'laws.FnExactCountRobins', WHERE WHAT IT READS IS OF BULK AT MOST 1048576: true; the input reads as it did. -/
def fnExactCountRobinsUptoRow : OpenClaim := { program := "ytabccmngdhgdfaa", sum := "1e4847a769e3ff22b085f72e622656c9f9ff5b4d5513747bc0de23f14bffe2a8", func := "loop.example/g01379/laws.FnExactCountRobins", spec := "fnExactCountRobins", unfollowed := true, recurses := true, plainKeys := false, apart := false, narrowed := true }
def FnExactCountRobinsUptoSaid : Prop := fnExactCountRobinsUptoRow.holds Try.pinned (OpenSpec.upto fnExactCountRobinsSpec)

end Rows
end Go.Proofs.Ytabccmngdhgdfaa
