/-
  No cell of these rows narrows 'for every input' (looked for: loops, veiled, ifaces, maps, wideKeys, modest, calm, conditions, laid).
  DERIVED. THE GIVEN ROWS OF THIS SEAT. 16 by the template 'for every input the law returns true; each argument reads behind the call as it read before'; 0 by the template 'total and deterministic' (their statements: YtfheojcknkllmaaTotals.lean).
  GIVEN WITH THE SEED: the statements are not yours to turn. If you find one false, say at which input.
  Laid BY PROGRAM, IN A SANDBOX (cutbox-rows.mjs): the forced cells as the released guide's own fill.sh prints them over the translation c37eb540a0a4bdfd… (all of the seat's roots in one cut). By AI agents, Wed Nov 11 2026. No macro, syntax, notation, axiom, sorry.
-/
import Derived.Test.YtfheojcknkllmaaChecked
import GoSem.Claim
import GoSem.ClaimJoined
import GoSem.ClaimMapViews
import Derived.JoinedTies
import Derived.KernelRfl
namespace Go.Proofs.Ytfheojcknkllmaa
/- THE CELL 'sum', in the pinned program and in every row, IS THE sha256 OF THE DUMP (.gsa) THAT YtfheojcknkllmaaProg.lean LOADS. Nothing in Lean hashes anything: it is a label: what it is worth is what the hold of that sum in a sandbox is worth. -/
noncomputable def Try.pinned : Pinned := { name := "ytfheojcknkllmaa", sum := "c37eb540a0a4bdfd16a8678989019e7bd9d2e1fc04baa372ea3eba85b111a2b8", checked := Try.checked }
namespace Rows
def none {H : Type} : Left H := { results := [], args := [] }

/-- 'laws.FnExactIsRound': WHATEVER THE INPUT: true; the input reads as it did. -/
def fnExactIsRoundSpec : ChangeSpec := { name := "fnExactIsRound", fn := fun _ => fun
  | [d1, d2] => { results := [.lit (.bool true)], args := [d1, d2] }
  | _ => none }
def fnExactIsRoundRow : OpenClaim := { program := "ytfheojcknkllmaa", sum := "c37eb540a0a4bdfd16a8678989019e7bd9d2e1fc04baa372ea3eba85b111a2b8", func := "loop.example/g01379/laws.FnExactIsRound", spec := "fnExactIsRound", plainKeys := false, apart := false }
def FnExactIsRoundSaid : Prop := fnExactIsRoundRow.holds Try.pinned (OpenSpec.ofChange fnExactIsRoundSpec)

/-- ITS FALSE NEIGHBOUR: 'it returns false'. Refute it at one input. -/
def fnExactIsRoundWrong : ChangeSpec := { name := "fnExactIsRound", fn := fun _ => fun
  | [d1, d2] => { results := [.lit (.bool false)], args := [d1, d2] }
  | _ => none }
def FnExactIsRoundWrongFalsely : Prop := fnExactIsRoundRow.holds Try.pinned (OpenSpec.ofChange fnExactIsRoundWrong)

/-- 'laws.FnExactIsSchedule': WHATEVER THE INPUT: true; the input reads as it did. -/
def fnExactIsScheduleSpec : ChangeSpec := { name := "fnExactIsSchedule", fn := fun _ => fun
  | [d] => { results := [.lit (.bool true)], args := [d] }
  | _ => none }
def fnExactIsScheduleRow : OpenClaim := { program := "ytfheojcknkllmaa", sum := "c37eb540a0a4bdfd16a8678989019e7bd9d2e1fc04baa372ea3eba85b111a2b8", func := "loop.example/g01379/laws.FnExactIsSchedule", spec := "fnExactIsSchedule", plainKeys := false, apart := false }
def FnExactIsScheduleSaid : Prop := fnExactIsScheduleRow.holds Try.pinned (OpenSpec.ofChange fnExactIsScheduleSpec)

/-- ITS FALSE NEIGHBOUR: 'it returns false'. Refute it at one input. -/
def fnExactIsScheduleWrong : ChangeSpec := { name := "fnExactIsSchedule", fn := fun _ => fun
  | [d] => { results := [.lit (.bool false)], args := [d] }
  | _ => none }
def FnExactIsScheduleWrongFalsely : Prop := fnExactIsScheduleRow.holds Try.pinned (OpenSpec.ofChange fnExactIsScheduleWrong)

/-- 'laws.FnExactRoundOf': WHATEVER THE INPUT: true; the input reads as it did. -/
def fnExactRoundOfSpec : ChangeSpec := { name := "fnExactRoundOf", fn := fun _ => fun
  | [d1, d2] => { results := [.lit (.bool true)], args := [d1, d2] }
  | _ => none }
def fnExactRoundOfRow : OpenClaim := { program := "ytfheojcknkllmaa", sum := "c37eb540a0a4bdfd16a8678989019e7bd9d2e1fc04baa372ea3eba85b111a2b8", func := "loop.example/g01379/laws.FnExactRoundOf", spec := "fnExactRoundOf", plainKeys := false, apart := false }
def FnExactRoundOfSaid : Prop := fnExactRoundOfRow.holds Try.pinned (OpenSpec.ofChange fnExactRoundOfSpec)

/-- ITS FALSE NEIGHBOUR: 'it returns false'. Refute it at one input. -/
def fnExactRoundOfWrong : ChangeSpec := { name := "fnExactRoundOf", fn := fun _ => fun
  | [d1, d2] => { results := [.lit (.bool false)], args := [d1, d2] }
  | _ => none }
def FnExactRoundOfWrongFalsely : Prop := fnExactRoundOfRow.holds Try.pinned (OpenSpec.ofChange fnExactRoundOfWrong)

/-- 'laws.FnExactPairsOf': WHATEVER THE INPUT: true; the input reads as it did. -/
def fnExactPairsOfSpec : ChangeSpec := { name := "fnExactPairsOf", fn := fun _ => fun
  | [d1, d2] => { results := [.lit (.bool true)], args := [d1, d2] }
  | _ => none }
def fnExactPairsOfRow : OpenClaim := { program := "ytfheojcknkllmaa", sum := "c37eb540a0a4bdfd16a8678989019e7bd9d2e1fc04baa372ea3eba85b111a2b8", func := "loop.example/g01379/laws.FnExactPairsOf", spec := "fnExactPairsOf", unfollowed := true, recurses := true, plainKeys := false, apart := false }
def FnExactPairsOfSaid : Prop := fnExactPairsOfRow.holds Try.pinned (OpenSpec.ofChange fnExactPairsOfSpec)

/-- ITS FALSE NEIGHBOUR: 'it returns false'. Refute it at one input. -/
def fnExactPairsOfWrong : ChangeSpec := { name := "fnExactPairsOf", fn := fun _ => fun
  | [d1, d2] => { results := [.lit (.bool false)], args := [d1, d2] }
  | _ => none }
def FnExactPairsOfWrongFalsely : Prop := fnExactPairsOfRow.holds Try.pinned (OpenSpec.ofChange fnExactPairsOfWrong)

/-- 'laws.FnExactAddRound': WHATEVER THE INPUT: true; the input reads as it did. -/
def fnExactAddRoundSpec : ChangeSpec := { name := "fnExactAddRound", fn := fun _ => fun
  | [d1, d2] => { results := [.lit (.bool true)], args := [d1, d2] }
  | _ => none }
def fnExactAddRoundRow : OpenClaim := { program := "ytfheojcknkllmaa", sum := "c37eb540a0a4bdfd16a8678989019e7bd9d2e1fc04baa372ea3eba85b111a2b8", func := "loop.example/g01379/laws.FnExactAddRound", spec := "fnExactAddRound", plainKeys := false, apart := false }
def FnExactAddRoundSaid : Prop := fnExactAddRoundRow.holds Try.pinned (OpenSpec.ofChange fnExactAddRoundSpec)

/-- ITS FALSE NEIGHBOUR: 'it returns false'. Refute it at one input. -/
def fnExactAddRoundWrong : ChangeSpec := { name := "fnExactAddRound", fn := fun _ => fun
  | [d1, d2] => { results := [.lit (.bool false)], args := [d1, d2] }
  | _ => none }
def FnExactAddRoundWrongFalsely : Prop := fnExactAddRoundRow.holds Try.pinned (OpenSpec.ofChange fnExactAddRoundWrong)

/-- 'laws.FnExactDropRound': WHATEVER THE INPUT: true; the input reads as it did. -/
def fnExactDropRoundSpec : ChangeSpec := { name := "fnExactDropRound", fn := fun _ => fun
  | [d1, d2] => { results := [.lit (.bool true)], args := [d1, d2] }
  | _ => none }
def fnExactDropRoundRow : OpenClaim := { program := "ytfheojcknkllmaa", sum := "c37eb540a0a4bdfd16a8678989019e7bd9d2e1fc04baa372ea3eba85b111a2b8", func := "loop.example/g01379/laws.FnExactDropRound", spec := "fnExactDropRound", plainKeys := false, apart := false }
def FnExactDropRoundSaid : Prop := fnExactDropRoundRow.holds Try.pinned (OpenSpec.ofChange fnExactDropRoundSpec)

/-- ITS FALSE NEIGHBOUR: 'it returns false'. Refute it at one input. -/
def fnExactDropRoundWrong : ChangeSpec := { name := "fnExactDropRound", fn := fun _ => fun
  | [d1, d2] => { results := [.lit (.bool false)], args := [d1, d2] }
  | _ => none }
def FnExactDropRoundWrongFalsely : Prop := fnExactDropRoundRow.holds Try.pinned (OpenSpec.ofChange fnExactDropRoundWrong)

/-- 'laws.FnExactMeetingsOf': WHATEVER THE INPUT: true; the input reads as it did. -/
def fnExactMeetingsOfSpec : ChangeSpec := { name := "fnExactMeetingsOf", fn := fun _ => fun
  | [d] => { results := [.lit (.bool true)], args := [d] }
  | _ => none }
def fnExactMeetingsOfRow : OpenClaim := { program := "ytfheojcknkllmaa", sum := "c37eb540a0a4bdfd16a8678989019e7bd9d2e1fc04baa372ea3eba85b111a2b8", func := "loop.example/g01379/laws.FnExactMeetingsOf", spec := "fnExactMeetingsOf", unfollowed := true, recurses := true, plainKeys := false, apart := false }
def FnExactMeetingsOfSaid : Prop := fnExactMeetingsOfRow.holds Try.pinned (OpenSpec.ofChange fnExactMeetingsOfSpec)

/-- ITS FALSE NEIGHBOUR: 'it returns false'. Refute it at one input. -/
def fnExactMeetingsOfWrong : ChangeSpec := { name := "fnExactMeetingsOf", fn := fun _ => fun
  | [d] => { results := [.lit (.bool false)], args := [d] }
  | _ => none }
def FnExactMeetingsOfWrongFalsely : Prop := fnExactMeetingsOfRow.holds Try.pinned (OpenSpec.ofChange fnExactMeetingsOfWrong)

/-- 'laws.FnExactRoundsBetween': WHATEVER THE INPUT: true; the input reads as it did. -/
def fnExactRoundsBetweenSpec : ChangeSpec := { name := "fnExactRoundsBetween", fn := fun _ => fun
  | [d1, d2, d3] => { results := [.lit (.bool true)], args := [d1, d2, d3] }
  | _ => none }
def fnExactRoundsBetweenRow : OpenClaim := { program := "ytfheojcknkllmaa", sum := "c37eb540a0a4bdfd16a8678989019e7bd9d2e1fc04baa372ea3eba85b111a2b8", func := "loop.example/g01379/laws.FnExactRoundsBetween", spec := "fnExactRoundsBetween", plainKeys := false, apart := false }
def FnExactRoundsBetweenSaid : Prop := fnExactRoundsBetweenRow.holds Try.pinned (OpenSpec.ofChange fnExactRoundsBetweenSpec)

/-- ITS FALSE NEIGHBOUR: 'it returns false'. Refute it at one input. -/
def fnExactRoundsBetweenWrong : ChangeSpec := { name := "fnExactRoundsBetween", fn := fun _ => fun
  | [d1, d2, d3] => { results := [.lit (.bool false)], args := [d1, d2, d3] }
  | _ => none }
def FnExactRoundsBetweenWrongFalsely : Prop := fnExactRoundsBetweenRow.holds Try.pinned (OpenSpec.ofChange fnExactRoundsBetweenWrong)

/-- 'laws.FnExactOpponentsOf': WHATEVER THE INPUT: true; the input reads as it did. -/
def fnExactOpponentsOfSpec : ChangeSpec := { name := "fnExactOpponentsOf", fn := fun _ => fun
  | [d1, d2] => { results := [.lit (.bool true)], args := [d1, d2] }
  | _ => none }
def fnExactOpponentsOfRow : OpenClaim := { program := "ytfheojcknkllmaa", sum := "c37eb540a0a4bdfd16a8678989019e7bd9d2e1fc04baa372ea3eba85b111a2b8", func := "loop.example/g01379/laws.FnExactOpponentsOf", spec := "fnExactOpponentsOf", plainKeys := false, apart := false }
def FnExactOpponentsOfSaid : Prop := fnExactOpponentsOfRow.holds Try.pinned (OpenSpec.ofChange fnExactOpponentsOfSpec)

/-- ITS FALSE NEIGHBOUR: 'it returns false'. Refute it at one input. -/
def fnExactOpponentsOfWrong : ChangeSpec := { name := "fnExactOpponentsOf", fn := fun _ => fun
  | [d1, d2] => { results := [.lit (.bool false)], args := [d1, d2] }
  | _ => none }
def FnExactOpponentsOfWrongFalsely : Prop := fnExactOpponentsOfRow.holds Try.pinned (OpenSpec.ofChange fnExactOpponentsOfWrong)

/-- 'laws.FnExactFreeTeams': WHATEVER THE INPUT: true; the input reads as it did. -/
def fnExactFreeTeamsSpec : ChangeSpec := { name := "fnExactFreeTeams", fn := fun _ => fun
  | [d1, d2] => { results := [.lit (.bool true)], args := [d1, d2] }
  | _ => none }
def fnExactFreeTeamsRow : OpenClaim := { program := "ytfheojcknkllmaa", sum := "c37eb540a0a4bdfd16a8678989019e7bd9d2e1fc04baa372ea3eba85b111a2b8", func := "loop.example/g01379/laws.FnExactFreeTeams", spec := "fnExactFreeTeams", plainKeys := false, apart := false }
def FnExactFreeTeamsSaid : Prop := fnExactFreeTeamsRow.holds Try.pinned (OpenSpec.ofChange fnExactFreeTeamsSpec)

/-- ITS FALSE NEIGHBOUR: 'it returns false'. Refute it at one input. -/
def fnExactFreeTeamsWrong : ChangeSpec := { name := "fnExactFreeTeams", fn := fun _ => fun
  | [d1, d2] => { results := [.lit (.bool false)], args := [d1, d2] }
  | _ => none }
def FnExactFreeTeamsWrongFalsely : Prop := fnExactFreeTeamsRow.holds Try.pinned (OpenSpec.ofChange fnExactFreeTeamsWrong)

/-- 'laws.FnExactIsRoundRobin': WHATEVER THE INPUT: true; the input reads as it did. -/
def fnExactIsRoundRobinSpec : ChangeSpec := { name := "fnExactIsRoundRobin", fn := fun _ => fun
  | [d] => { results := [.lit (.bool true)], args := [d] }
  | _ => none }
def fnExactIsRoundRobinRow : OpenClaim := { program := "ytfheojcknkllmaa", sum := "c37eb540a0a4bdfd16a8678989019e7bd9d2e1fc04baa372ea3eba85b111a2b8", func := "loop.example/g01379/laws.FnExactIsRoundRobin", spec := "fnExactIsRoundRobin", unfollowed := true, recurses := true, plainKeys := false, apart := false }
def FnExactIsRoundRobinSaid : Prop := fnExactIsRoundRobinRow.holds Try.pinned (OpenSpec.ofChange fnExactIsRoundRobinSpec)

/-- ITS FALSE NEIGHBOUR: 'it returns false'. Refute it at one input. -/
def fnExactIsRoundRobinWrong : ChangeSpec := { name := "fnExactIsRoundRobin", fn := fun _ => fun
  | [d] => { results := [.lit (.bool false)], args := [d] }
  | _ => none }
def FnExactIsRoundRobinWrongFalsely : Prop := fnExactIsRoundRobinRow.holds Try.pinned (OpenSpec.ofChange fnExactIsRoundRobinWrong)

/-- 'laws.FnExactCircleOf': WHATEVER THE INPUT: true; the input reads as it did. -/
def fnExactCircleOfSpec : ChangeSpec := { name := "fnExactCircleOf", fn := fun _ => fun
  | [d] => { results := [.lit (.bool true)], args := [d] }
  | _ => none }
def fnExactCircleOfRow : OpenClaim := { program := "ytfheojcknkllmaa", sum := "c37eb540a0a4bdfd16a8678989019e7bd9d2e1fc04baa372ea3eba85b111a2b8", func := "loop.example/g01379/laws.FnExactCircleOf", spec := "fnExactCircleOf", plainKeys := false, apart := false }
def FnExactCircleOfSaid : Prop := fnExactCircleOfRow.holds Try.pinned (OpenSpec.ofChange fnExactCircleOfSpec)

/-- ITS FALSE NEIGHBOUR: 'it returns false'. Refute it at one input. -/
def fnExactCircleOfWrong : ChangeSpec := { name := "fnExactCircleOf", fn := fun _ => fun
  | [d] => { results := [.lit (.bool false)], args := [d] }
  | _ => none }
def FnExactCircleOfWrongFalsely : Prop := fnExactCircleOfRow.holds Try.pinned (OpenSpec.ofChange fnExactCircleOfWrong)

/-- 'laws.FnExactRenumberTeams': WHATEVER THE INPUT: true; the input reads as it did. -/
def fnExactRenumberTeamsSpec : ChangeSpec := { name := "fnExactRenumberTeams", fn := fun _ => fun
  | [d1, d2] => { results := [.lit (.bool true)], args := [d1, d2] }
  | _ => none }
def fnExactRenumberTeamsRow : OpenClaim := { program := "ytfheojcknkllmaa", sum := "c37eb540a0a4bdfd16a8678989019e7bd9d2e1fc04baa372ea3eba85b111a2b8", func := "loop.example/g01379/laws.FnExactRenumberTeams", spec := "fnExactRenumberTeams", plainKeys := false, apart := false }
def FnExactRenumberTeamsSaid : Prop := fnExactRenumberTeamsRow.holds Try.pinned (OpenSpec.ofChange fnExactRenumberTeamsSpec)

/-- ITS FALSE NEIGHBOUR: 'it returns false'. Refute it at one input. -/
def fnExactRenumberTeamsWrong : ChangeSpec := { name := "fnExactRenumberTeams", fn := fun _ => fun
  | [d1, d2] => { results := [.lit (.bool false)], args := [d1, d2] }
  | _ => none }
def FnExactRenumberTeamsWrongFalsely : Prop := fnExactRenumberTeamsRow.holds Try.pinned (OpenSpec.ofChange fnExactRenumberTeamsWrong)

/-- 'laws.FnExactReorderRounds': WHATEVER THE INPUT: true; the input reads as it did. -/
def fnExactReorderRoundsSpec : ChangeSpec := { name := "fnExactReorderRounds", fn := fun _ => fun
  | [d1, d2] => { results := [.lit (.bool true)], args := [d1, d2] }
  | _ => none }
def fnExactReorderRoundsRow : OpenClaim := { program := "ytfheojcknkllmaa", sum := "c37eb540a0a4bdfd16a8678989019e7bd9d2e1fc04baa372ea3eba85b111a2b8", func := "loop.example/g01379/laws.FnExactReorderRounds", spec := "fnExactReorderRounds", plainKeys := false, apart := false }
def FnExactReorderRoundsSaid : Prop := fnExactReorderRoundsRow.holds Try.pinned (OpenSpec.ofChange fnExactReorderRoundsSpec)

/-- ITS FALSE NEIGHBOUR: 'it returns false'. Refute it at one input. -/
def fnExactReorderRoundsWrong : ChangeSpec := { name := "fnExactReorderRounds", fn := fun _ => fun
  | [d1, d2] => { results := [.lit (.bool false)], args := [d1, d2] }
  | _ => none }
def FnExactReorderRoundsWrongFalsely : Prop := fnExactReorderRoundsRow.holds Try.pinned (OpenSpec.ofChange fnExactReorderRoundsWrong)

/-- 'laws.FnExactJoinSchedules': WHATEVER THE INPUT: true; the input reads as it did. -/
def fnExactJoinSchedulesSpec : ChangeSpec := { name := "fnExactJoinSchedules", fn := fun _ => fun
  | [d1, d2] => { results := [.lit (.bool true)], args := [d1, d2] }
  | _ => none }
def fnExactJoinSchedulesRow : OpenClaim := { program := "ytfheojcknkllmaa", sum := "c37eb540a0a4bdfd16a8678989019e7bd9d2e1fc04baa372ea3eba85b111a2b8", func := "loop.example/g01379/laws.FnExactJoinSchedules", spec := "fnExactJoinSchedules", plainKeys := false, apart := false }
def FnExactJoinSchedulesSaid : Prop := fnExactJoinSchedulesRow.holds Try.pinned (OpenSpec.ofChange fnExactJoinSchedulesSpec)

/-- ITS FALSE NEIGHBOUR: 'it returns false'. Refute it at one input. -/
def fnExactJoinSchedulesWrong : ChangeSpec := { name := "fnExactJoinSchedules", fn := fun _ => fun
  | [d1, d2] => { results := [.lit (.bool false)], args := [d1, d2] }
  | _ => none }
def FnExactJoinSchedulesWrongFalsely : Prop := fnExactJoinSchedulesRow.holds Try.pinned (OpenSpec.ofChange fnExactJoinSchedulesWrong)

/-- 'laws.FnExactMissingPairs': WHATEVER THE INPUT: true; the input reads as it did. -/
def fnExactMissingPairsSpec : ChangeSpec := { name := "fnExactMissingPairs", fn := fun _ => fun
  | [d] => { results := [.lit (.bool true)], args := [d] }
  | _ => none }
def fnExactMissingPairsRow : OpenClaim := { program := "ytfheojcknkllmaa", sum := "c37eb540a0a4bdfd16a8678989019e7bd9d2e1fc04baa372ea3eba85b111a2b8", func := "loop.example/g01379/laws.FnExactMissingPairs", spec := "fnExactMissingPairs", unfollowed := true, recurses := true, plainKeys := false, apart := false }
def FnExactMissingPairsSaid : Prop := fnExactMissingPairsRow.holds Try.pinned (OpenSpec.ofChange fnExactMissingPairsSpec)

/-- ITS FALSE NEIGHBOUR: 'it returns false'. Refute it at one input. -/
def fnExactMissingPairsWrong : ChangeSpec := { name := "fnExactMissingPairs", fn := fun _ => fun
  | [d] => { results := [.lit (.bool false)], args := [d] }
  | _ => none }
def FnExactMissingPairsWrongFalsely : Prop := fnExactMissingPairsRow.holds Try.pinned (OpenSpec.ofChange fnExactMissingPairsWrong)

/- THE SECOND FORM. 'bulk': how many values and letters a reading holds, each counted each time it is reached (what is shared counts as often as it is met; a slice's spare places count too). A statement '..UptoSaid' is the law's where the arguments, and the package variables that the reading takes, are together of bulk at most 1048576: NARROWER than '..Said'. Prove '..Said' where nothing that the law and all that it calls make is longer than what came in: it says more and counts as full. Else prove '..UptoSaid'. A law counts once. -/
mutual
def uptoBulk {H : Type} : DataW H → Nat
  | .lit (.string bytes) => bytes.length + 1
  | .lit _ => 1
  | .nil => 1
  | .ptr d => uptoBulk d + 1
  | .slice elems spare => uptoBulkAll elems + uptoBulkAll spare + 1
  | .agg parts => uptoBulkAll parts + 1
  | .iface _ d => uptoBulk d + 1
  | .map entries => uptoBulkEntries entries + 1
  | .held _ => 1
def uptoBulkAll {H : Type} : List (DataW H) → Nat
  | [] => 0
  | d :: r => uptoBulk d + uptoBulkAll r
def uptoBulkEntries {H : Type} : List (Lit × DataW H) → Nat
  | [] => 0
  | x :: r => uptoBulkEntry x + uptoBulkEntries r
def uptoBulkEntry {H : Type} : Lit × DataW H → Nat
  | (.string bytes, d) => bytes.length + uptoBulk d + 1
  | (_, d) => uptoBulk d + 1
 end
def uptoSmall : (H : Type) → List (DataW H) → Bool := fun _ ds => decide (uptoBulkAll ds ≤ 1048576)
def OpenSpec.upto (s : _root_.Go.ChangeSpec) : _root_.Go.OpenSpec := { _root_.Go.OpenSpec.ofChange s with cond := some uptoSmall }

/-- 'laws.FnExactIsRound', WHERE WHAT IT READS IS OF BULK AT MOST 1048576: true; the input reads as it did. -/
def fnExactIsRoundUptoRow : OpenClaim := { program := "ytfheojcknkllmaa", sum := "c37eb540a0a4bdfd16a8678989019e7bd9d2e1fc04baa372ea3eba85b111a2b8", func := "loop.example/g01379/laws.FnExactIsRound", spec := "fnExactIsRound", plainKeys := false, apart := false, narrowed := true }
def FnExactIsRoundUptoSaid : Prop := fnExactIsRoundUptoRow.holds Try.pinned (OpenSpec.upto fnExactIsRoundSpec)

/-- 'laws.FnExactIsSchedule', WHERE WHAT IT READS IS OF BULK AT MOST 1048576: true; the input reads as it did. -/
def fnExactIsScheduleUptoRow : OpenClaim := { program := "ytfheojcknkllmaa", sum := "c37eb540a0a4bdfd16a8678989019e7bd9d2e1fc04baa372ea3eba85b111a2b8", func := "loop.example/g01379/laws.FnExactIsSchedule", spec := "fnExactIsSchedule", plainKeys := false, apart := false, narrowed := true }
def FnExactIsScheduleUptoSaid : Prop := fnExactIsScheduleUptoRow.holds Try.pinned (OpenSpec.upto fnExactIsScheduleSpec)

/-- 'laws.FnExactRoundOf', WHERE WHAT IT READS IS OF BULK AT MOST 1048576: true; the input reads as it did. -/
def fnExactRoundOfUptoRow : OpenClaim := { program := "ytfheojcknkllmaa", sum := "c37eb540a0a4bdfd16a8678989019e7bd9d2e1fc04baa372ea3eba85b111a2b8", func := "loop.example/g01379/laws.FnExactRoundOf", spec := "fnExactRoundOf", plainKeys := false, apart := false, narrowed := true }
def FnExactRoundOfUptoSaid : Prop := fnExactRoundOfUptoRow.holds Try.pinned (OpenSpec.upto fnExactRoundOfSpec)

/-- 'laws.FnExactPairsOf', WHERE WHAT IT READS IS OF BULK AT MOST 1048576: true; the input reads as it did. -/
def fnExactPairsOfUptoRow : OpenClaim := { program := "ytfheojcknkllmaa", sum := "c37eb540a0a4bdfd16a8678989019e7bd9d2e1fc04baa372ea3eba85b111a2b8", func := "loop.example/g01379/laws.FnExactPairsOf", spec := "fnExactPairsOf", unfollowed := true, recurses := true, plainKeys := false, apart := false, narrowed := true }
def FnExactPairsOfUptoSaid : Prop := fnExactPairsOfUptoRow.holds Try.pinned (OpenSpec.upto fnExactPairsOfSpec)

/-- 'laws.FnExactAddRound', WHERE WHAT IT READS IS OF BULK AT MOST 1048576: true; the input reads as it did. -/
def fnExactAddRoundUptoRow : OpenClaim := { program := "ytfheojcknkllmaa", sum := "c37eb540a0a4bdfd16a8678989019e7bd9d2e1fc04baa372ea3eba85b111a2b8", func := "loop.example/g01379/laws.FnExactAddRound", spec := "fnExactAddRound", plainKeys := false, apart := false, narrowed := true }
def FnExactAddRoundUptoSaid : Prop := fnExactAddRoundUptoRow.holds Try.pinned (OpenSpec.upto fnExactAddRoundSpec)

/-- 'laws.FnExactDropRound', WHERE WHAT IT READS IS OF BULK AT MOST 1048576: true; the input reads as it did. -/
def fnExactDropRoundUptoRow : OpenClaim := { program := "ytfheojcknkllmaa", sum := "c37eb540a0a4bdfd16a8678989019e7bd9d2e1fc04baa372ea3eba85b111a2b8", func := "loop.example/g01379/laws.FnExactDropRound", spec := "fnExactDropRound", plainKeys := false, apart := false, narrowed := true }
def FnExactDropRoundUptoSaid : Prop := fnExactDropRoundUptoRow.holds Try.pinned (OpenSpec.upto fnExactDropRoundSpec)

/-- 'laws.FnExactMeetingsOf', WHERE WHAT IT READS IS OF BULK AT MOST 1048576: true; the input reads as it did. -/
def fnExactMeetingsOfUptoRow : OpenClaim := { program := "ytfheojcknkllmaa", sum := "c37eb540a0a4bdfd16a8678989019e7bd9d2e1fc04baa372ea3eba85b111a2b8", func := "loop.example/g01379/laws.FnExactMeetingsOf", spec := "fnExactMeetingsOf", unfollowed := true, recurses := true, plainKeys := false, apart := false, narrowed := true }
def FnExactMeetingsOfUptoSaid : Prop := fnExactMeetingsOfUptoRow.holds Try.pinned (OpenSpec.upto fnExactMeetingsOfSpec)

/-- 'laws.FnExactRoundsBetween', WHERE WHAT IT READS IS OF BULK AT MOST 1048576: true; the input reads as it did. -/
def fnExactRoundsBetweenUptoRow : OpenClaim := { program := "ytfheojcknkllmaa", sum := "c37eb540a0a4bdfd16a8678989019e7bd9d2e1fc04baa372ea3eba85b111a2b8", func := "loop.example/g01379/laws.FnExactRoundsBetween", spec := "fnExactRoundsBetween", plainKeys := false, apart := false, narrowed := true }
def FnExactRoundsBetweenUptoSaid : Prop := fnExactRoundsBetweenUptoRow.holds Try.pinned (OpenSpec.upto fnExactRoundsBetweenSpec)

/-- 'laws.FnExactOpponentsOf', WHERE WHAT IT READS IS OF BULK AT MOST 1048576: true; the input reads as it did. -/
def fnExactOpponentsOfUptoRow : OpenClaim := { program := "ytfheojcknkllmaa", sum := "c37eb540a0a4bdfd16a8678989019e7bd9d2e1fc04baa372ea3eba85b111a2b8", func := "loop.example/g01379/laws.FnExactOpponentsOf", spec := "fnExactOpponentsOf", plainKeys := false, apart := false, narrowed := true }
def FnExactOpponentsOfUptoSaid : Prop := fnExactOpponentsOfUptoRow.holds Try.pinned (OpenSpec.upto fnExactOpponentsOfSpec)

/-- 'laws.FnExactFreeTeams', WHERE WHAT IT READS IS OF BULK AT MOST 1048576: true; the input reads as it did. -/
def fnExactFreeTeamsUptoRow : OpenClaim := { program := "ytfheojcknkllmaa", sum := "c37eb540a0a4bdfd16a8678989019e7bd9d2e1fc04baa372ea3eba85b111a2b8", func := "loop.example/g01379/laws.FnExactFreeTeams", spec := "fnExactFreeTeams", plainKeys := false, apart := false, narrowed := true }
def FnExactFreeTeamsUptoSaid : Prop := fnExactFreeTeamsUptoRow.holds Try.pinned (OpenSpec.upto fnExactFreeTeamsSpec)

/-- 'laws.FnExactIsRoundRobin', WHERE WHAT IT READS IS OF BULK AT MOST 1048576: true; the input reads as it did. -/
def fnExactIsRoundRobinUptoRow : OpenClaim := { program := "ytfheojcknkllmaa", sum := "c37eb540a0a4bdfd16a8678989019e7bd9d2e1fc04baa372ea3eba85b111a2b8", func := "loop.example/g01379/laws.FnExactIsRoundRobin", spec := "fnExactIsRoundRobin", unfollowed := true, recurses := true, plainKeys := false, apart := false, narrowed := true }
def FnExactIsRoundRobinUptoSaid : Prop := fnExactIsRoundRobinUptoRow.holds Try.pinned (OpenSpec.upto fnExactIsRoundRobinSpec)

/-- 'laws.FnExactCircleOf', WHERE WHAT IT READS IS OF BULK AT MOST 1048576: true; the input reads as it did. -/
def fnExactCircleOfUptoRow : OpenClaim := { program := "ytfheojcknkllmaa", sum := "c37eb540a0a4bdfd16a8678989019e7bd9d2e1fc04baa372ea3eba85b111a2b8", func := "loop.example/g01379/laws.FnExactCircleOf", spec := "fnExactCircleOf", plainKeys := false, apart := false, narrowed := true }
def FnExactCircleOfUptoSaid : Prop := fnExactCircleOfUptoRow.holds Try.pinned (OpenSpec.upto fnExactCircleOfSpec)

/-- 'laws.FnExactRenumberTeams', WHERE WHAT IT READS IS OF BULK AT MOST 1048576: true; the input reads as it did. -/
def fnExactRenumberTeamsUptoRow : OpenClaim := { program := "ytfheojcknkllmaa", sum := "c37eb540a0a4bdfd16a8678989019e7bd9d2e1fc04baa372ea3eba85b111a2b8", func := "loop.example/g01379/laws.FnExactRenumberTeams", spec := "fnExactRenumberTeams", plainKeys := false, apart := false, narrowed := true }
def FnExactRenumberTeamsUptoSaid : Prop := fnExactRenumberTeamsUptoRow.holds Try.pinned (OpenSpec.upto fnExactRenumberTeamsSpec)

/-- 'laws.FnExactReorderRounds', WHERE WHAT IT READS IS OF BULK AT MOST 1048576: true; the input reads as it did. -/
def fnExactReorderRoundsUptoRow : OpenClaim := { program := "ytfheojcknkllmaa", sum := "c37eb540a0a4bdfd16a8678989019e7bd9d2e1fc04baa372ea3eba85b111a2b8", func := "loop.example/g01379/laws.FnExactReorderRounds", spec := "fnExactReorderRounds", plainKeys := false, apart := false, narrowed := true }
def FnExactReorderRoundsUptoSaid : Prop := fnExactReorderRoundsUptoRow.holds Try.pinned (OpenSpec.upto fnExactReorderRoundsSpec)

/-- 'laws.FnExactJoinSchedules', WHERE WHAT IT READS IS OF BULK AT MOST 1048576: true; the input reads as it did. -/
def fnExactJoinSchedulesUptoRow : OpenClaim := { program := "ytfheojcknkllmaa", sum := "c37eb540a0a4bdfd16a8678989019e7bd9d2e1fc04baa372ea3eba85b111a2b8", func := "loop.example/g01379/laws.FnExactJoinSchedules", spec := "fnExactJoinSchedules", plainKeys := false, apart := false, narrowed := true }
def FnExactJoinSchedulesUptoSaid : Prop := fnExactJoinSchedulesUptoRow.holds Try.pinned (OpenSpec.upto fnExactJoinSchedulesSpec)

/-- 'laws.FnExactMissingPairs', WHERE WHAT IT READS IS OF BULK AT MOST 1048576: true; the input reads as it did. -/
def fnExactMissingPairsUptoRow : OpenClaim := { program := "ytfheojcknkllmaa", sum := "c37eb540a0a4bdfd16a8678989019e7bd9d2e1fc04baa372ea3eba85b111a2b8", func := "loop.example/g01379/laws.FnExactMissingPairs", spec := "fnExactMissingPairs", unfollowed := true, recurses := true, plainKeys := false, apart := false, narrowed := true }
def FnExactMissingPairsUptoSaid : Prop := fnExactMissingPairsUptoRow.holds Try.pinned (OpenSpec.upto fnExactMissingPairsSpec)

end Rows
end Go.Proofs.Ytfheojcknkllmaa
