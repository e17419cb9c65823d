/-
  No cell of these rows narrows 'for every input' (looked for: loops, veiled, ifaces, maps, wideKeys, modest, calm, conditions, laid).
  DERIVED. THE GIVEN ROWS OF THIS SEAT. 11 by the template 'for every input the law returns true; each argument reads behind the call as it read before'; 0 by the template 'total and deterministic' (their statements: YtlfflmoegfibgaaTotals.lean).
  GIVEN WITH THE SEED: the statements are not yours to turn. If you find one false, say at which input.
  Laid BY PROGRAM, IN A SANDBOX (cutbox-rows.mjs): the forced cells as the released guide's own fill.sh prints them over the translation 60c66e23f484d174… (all of the seat's roots in one cut). By AI agents, Wed Nov 11 2026. No macro, syntax, notation, axiom, sorry.
-/
import Derived.Test.YtlfflmoegfibgaaChecked
import GoSem.Claim
import GoSem.ClaimJoined
import GoSem.ClaimMapViews
import Derived.JoinedTies
import Derived.KernelRfl
namespace Go.Proofs.Ytlfflmoegfibgaa
/- THE CELL 'sum', in the pinned program and in every row, IS THE sha256 OF THE DUMP (.gsa) THAT YtlfflmoegfibgaaProg.lean LOADS. Nothing in Lean hashes anything: it is a label: what it is worth is what the hold of that sum in a sandbox is worth. -/
noncomputable def Try.pinned : Pinned := { name := "ytlfflmoegfibgaa", sum := "60c66e23f484d1743eda7ece56b06e259f3def4e50ef50424994b77e9037445c", checked := Try.checked }
namespace Rows
def none {H : Type} : Left H := { results := [], args := [] }

/-- 'laws.FnExactAreResults': WHATEVER THE INPUT: true; the input reads as it did. -/
def fnExactAreResultsSpec : ChangeSpec := { name := "fnExactAreResults", fn := fun _ => fun
  | [d1, d2] => { results := [.lit (.bool true)], args := [d1, d2] }
  | _ => none }
def fnExactAreResultsRow : OpenClaim := { program := "ytlfflmoegfibgaa", sum := "60c66e23f484d1743eda7ece56b06e259f3def4e50ef50424994b77e9037445c", func := "loop.example/g01379/laws.FnExactAreResults", spec := "fnExactAreResults", unfollowed := true, recurses := true, plainKeys := false, leaving := true, apart := false }
def FnExactAreResultsSaid : Prop := fnExactAreResultsRow.holds Try.pinned (OpenSpec.ofChange fnExactAreResultsSpec)

/-- ITS FALSE NEIGHBOUR: 'it returns false'. Refute it at one input. -/
def fnExactAreResultsWrong : ChangeSpec := { name := "fnExactAreResults", fn := fun _ => fun
  | [d1, d2] => { results := [.lit (.bool false)], args := [d1, d2] }
  | _ => none }
def FnExactAreResultsWrongFalsely : Prop := fnExactAreResultsRow.holds Try.pinned (OpenSpec.ofChange fnExactAreResultsWrong)

/-- 'laws.FnExactPointsOf': WHATEVER THE INPUT: true; the input reads as it did. -/
def fnExactPointsOfSpec : ChangeSpec := { name := "fnExactPointsOf", fn := fun _ => fun
  | [d1, d2] => { results := [.lit (.bool true)], args := [d1, d2] }
  | _ => none }
def fnExactPointsOfRow : OpenClaim := { program := "ytlfflmoegfibgaa", sum := "60c66e23f484d1743eda7ece56b06e259f3def4e50ef50424994b77e9037445c", func := "loop.example/g01379/laws.FnExactPointsOf", spec := "fnExactPointsOf", inPlace := ["(*sync.WaitGroup).Add", "internal/race.ReleaseMerge", "internal/race.Disable", "internal/race.Enable", "internal/synctest.IsInBubble", "internal/synctest.Associate[sync.WaitGroup]", "sync.fatal", "sync/atomic.OrUint64", "sync/atomic.AddUint64", "internal/race.Read", "sync/atomic.LoadUint64", "sync/atomic.StoreUint64", "internal/synctest.Disassociate[sync.WaitGroup]", "sync.runtime_Semrelease", "(*sync.WaitGroup).Done", "(*sync.WaitGroup).Wait", "internal/race.Acquire", "internal/synctest.IsAssociated[sync.WaitGroup]", "sync/atomic.CompareAndSwapUint64", "internal/race.Write", "sync.runtime_SemacquireWaitGroup"], unfollowed := true, recurses := true, plainKeys := false, leaving := true, apart := false }
def FnExactPointsOfSaid : Prop := fnExactPointsOfRow.holds Try.pinned (OpenSpec.ofChange fnExactPointsOfSpec)

/-- ITS FALSE NEIGHBOUR: 'it returns false'. Refute it at one input. -/
def fnExactPointsOfWrong : ChangeSpec := { name := "fnExactPointsOf", fn := fun _ => fun
  | [d1, d2] => { results := [.lit (.bool false)], args := [d1, d2] }
  | _ => none }
def FnExactPointsOfWrongFalsely : Prop := fnExactPointsOfRow.holds Try.pinned (OpenSpec.ofChange fnExactPointsOfWrong)

/-- 'laws.FnExactSecondNumbers': WHATEVER THE INPUT: true; the input reads as it did. -/
def fnExactSecondNumbersSpec : ChangeSpec := { name := "fnExactSecondNumbers", fn := fun _ => fun
  | [d1, d2] => { results := [.lit (.bool true)], args := [d1, d2] }
  | _ => none }
def fnExactSecondNumbersRow : OpenClaim := { program := "ytlfflmoegfibgaa", sum := "60c66e23f484d1743eda7ece56b06e259f3def4e50ef50424994b77e9037445c", func := "loop.example/g01379/laws.FnExactSecondNumbers", spec := "fnExactSecondNumbers", inPlace := ["(*sync.WaitGroup).Add", "internal/race.ReleaseMerge", "internal/race.Disable", "internal/race.Enable", "internal/synctest.IsInBubble", "internal/synctest.Associate[sync.WaitGroup]", "sync.fatal", "sync/atomic.OrUint64", "sync/atomic.AddUint64", "internal/race.Read", "sync/atomic.LoadUint64", "sync/atomic.StoreUint64", "internal/synctest.Disassociate[sync.WaitGroup]", "sync.runtime_Semrelease", "(*sync.WaitGroup).Done", "(*sync.WaitGroup).Wait", "internal/race.Acquire", "internal/synctest.IsAssociated[sync.WaitGroup]", "sync/atomic.CompareAndSwapUint64", "internal/race.Write", "sync.runtime_SemacquireWaitGroup"], unfollowed := true, recurses := true, plainKeys := false, leaving := true, apart := false }
def FnExactSecondNumbersSaid : Prop := fnExactSecondNumbersRow.holds Try.pinned (OpenSpec.ofChange fnExactSecondNumbersSpec)

/-- ITS FALSE NEIGHBOUR: 'it returns false'. Refute it at one input. -/
def fnExactSecondNumbersWrong : ChangeSpec := { name := "fnExactSecondNumbers", fn := fun _ => fun
  | [d1, d2] => { results := [.lit (.bool false)], args := [d1, d2] }
  | _ => none }
def FnExactSecondNumbersWrongFalsely : Prop := fnExactSecondNumbersRow.holds Try.pinned (OpenSpec.ofChange fnExactSecondNumbersWrong)

/-- 'laws.FnExactThirdNumbers': WHATEVER THE INPUT: true; the input reads as it did. -/
def fnExactThirdNumbersSpec : ChangeSpec := { name := "fnExactThirdNumbers", fn := fun _ => fun
  | [d1, d2] => { results := [.lit (.bool true)], args := [d1, d2] }
  | _ => none }
def fnExactThirdNumbersRow : OpenClaim := { program := "ytlfflmoegfibgaa", sum := "60c66e23f484d1743eda7ece56b06e259f3def4e50ef50424994b77e9037445c", func := "loop.example/g01379/laws.FnExactThirdNumbers", spec := "fnExactThirdNumbers", inPlace := ["(*sync.WaitGroup).Add", "internal/race.ReleaseMerge", "internal/race.Disable", "internal/race.Enable", "internal/synctest.IsInBubble", "internal/synctest.Associate[sync.WaitGroup]", "sync.fatal", "sync/atomic.OrUint64", "sync/atomic.AddUint64", "internal/race.Read", "sync/atomic.LoadUint64", "sync/atomic.StoreUint64", "internal/synctest.Disassociate[sync.WaitGroup]", "sync.runtime_Semrelease", "(*sync.WaitGroup).Done", "(*sync.WaitGroup).Wait", "internal/race.Acquire", "internal/synctest.IsAssociated[sync.WaitGroup]", "sync/atomic.CompareAndSwapUint64", "internal/race.Write", "sync.runtime_SemacquireWaitGroup"], unfollowed := true, recurses := true, plainKeys := false, leaving := true, apart := false }
def FnExactThirdNumbersSaid : Prop := fnExactThirdNumbersRow.holds Try.pinned (OpenSpec.ofChange fnExactThirdNumbersSpec)

/-- ITS FALSE NEIGHBOUR: 'it returns false'. Refute it at one input. -/
def fnExactThirdNumbersWrong : ChangeSpec := { name := "fnExactThirdNumbers", fn := fun _ => fun
  | [d1, d2] => { results := [.lit (.bool false)], args := [d1, d2] }
  | _ => none }
def FnExactThirdNumbersWrongFalsely : Prop := fnExactThirdNumbersRow.holds Try.pinned (OpenSpec.ofChange fnExactThirdNumbersWrong)

/-- 'laws.FnExactRankingOf': WHATEVER THE INPUT: true; the input reads as it did. -/
def fnExactRankingOfSpec : ChangeSpec := { name := "fnExactRankingOf", fn := fun _ => fun
  | [d1, d2] => { results := [.lit (.bool true)], args := [d1, d2] }
  | _ => none }
def fnExactRankingOfRow : OpenClaim := { program := "ytlfflmoegfibgaa", sum := "60c66e23f484d1743eda7ece56b06e259f3def4e50ef50424994b77e9037445c", func := "loop.example/g01379/laws.FnExactRankingOf", spec := "fnExactRankingOf", inPlace := ["(*sync.WaitGroup).Add", "internal/race.ReleaseMerge", "internal/race.Disable", "internal/race.Enable", "internal/synctest.IsInBubble", "internal/synctest.Associate[sync.WaitGroup]", "sync.fatal", "sync/atomic.OrUint64", "sync/atomic.AddUint64", "internal/race.Read", "sync/atomic.LoadUint64", "sync/atomic.StoreUint64", "internal/synctest.Disassociate[sync.WaitGroup]", "sync.runtime_Semrelease", "(*sync.WaitGroup).Done", "(*sync.WaitGroup).Wait", "internal/race.Acquire", "internal/synctest.IsAssociated[sync.WaitGroup]", "sync/atomic.CompareAndSwapUint64", "internal/race.Write", "sync.runtime_SemacquireWaitGroup"], unfollowed := true, recurses := true, plainKeys := false, leaving := true, apart := false }
def FnExactRankingOfSaid : Prop := fnExactRankingOfRow.holds Try.pinned (OpenSpec.ofChange fnExactRankingOfSpec)

/-- ITS FALSE NEIGHBOUR: 'it returns false'. Refute it at one input. -/
def fnExactRankingOfWrong : ChangeSpec := { name := "fnExactRankingOf", fn := fun _ => fun
  | [d1, d2] => { results := [.lit (.bool false)], args := [d1, d2] }
  | _ => none }
def FnExactRankingOfWrongFalsely : Prop := fnExactRankingOfRow.holds Try.pinned (OpenSpec.ofChange fnExactRankingOfWrong)

/-- 'laws.FnExactPointsBetween': WHATEVER THE INPUT: true; the input reads as it did. -/
def fnExactPointsBetweenSpec : ChangeSpec := { name := "fnExactPointsBetween", fn := fun _ => fun
  | [d1, d2, d3, d4] => { results := [.lit (.bool true)], args := [d1, d2, d3, d4] }
  | _ => none }
def fnExactPointsBetweenRow : OpenClaim := { program := "ytlfflmoegfibgaa", sum := "60c66e23f484d1743eda7ece56b06e259f3def4e50ef50424994b77e9037445c", func := "loop.example/g01379/laws.FnExactPointsBetween", spec := "fnExactPointsBetween", unfollowed := true, recurses := true, plainKeys := false, leaving := true, apart := false }
def FnExactPointsBetweenSaid : Prop := fnExactPointsBetweenRow.holds Try.pinned (OpenSpec.ofChange fnExactPointsBetweenSpec)

/-- ITS FALSE NEIGHBOUR: 'it returns false'. Refute it at one input. -/
def fnExactPointsBetweenWrong : ChangeSpec := { name := "fnExactPointsBetween", fn := fun _ => fun
  | [d1, d2, d3, d4] => { results := [.lit (.bool false)], args := [d1, d2, d3, d4] }
  | _ => none }
def FnExactPointsBetweenWrongFalsely : Prop := fnExactPointsBetweenRow.holds Try.pinned (OpenSpec.ofChange fnExactPointsBetweenWrong)

/-- 'laws.FnExactPointsByRound': WHATEVER THE INPUT: true; the input reads as it did. -/
def fnExactPointsByRoundSpec : ChangeSpec := { name := "fnExactPointsByRound", fn := fun _ => fun
  | [d1, d2, d3] => { results := [.lit (.bool true)], args := [d1, d2, d3] }
  | _ => none }
def fnExactPointsByRoundRow : OpenClaim := { program := "ytlfflmoegfibgaa", sum := "60c66e23f484d1743eda7ece56b06e259f3def4e50ef50424994b77e9037445c", func := "loop.example/g01379/laws.FnExactPointsByRound", spec := "fnExactPointsByRound", unfollowed := true, recurses := true, plainKeys := false, leaving := true, apart := false }
def FnExactPointsByRoundSaid : Prop := fnExactPointsByRoundRow.holds Try.pinned (OpenSpec.ofChange fnExactPointsByRoundSpec)

/-- ITS FALSE NEIGHBOUR: 'it returns false'. Refute it at one input. -/
def fnExactPointsByRoundWrong : ChangeSpec := { name := "fnExactPointsByRound", fn := fun _ => fun
  | [d1, d2, d3] => { results := [.lit (.bool false)], args := [d1, d2, d3] }
  | _ => none }
def FnExactPointsByRoundWrongFalsely : Prop := fnExactPointsByRoundRow.holds Try.pinned (OpenSpec.ofChange fnExactPointsByRoundWrong)

/-- 'laws.FnExactNextRound': WHATEVER THE INPUT: true; the input reads as it did. -/
def fnExactNextRoundSpec : ChangeSpec := { name := "fnExactNextRound", fn := fun _ => fun
  | [d1, d2] => { results := [.lit (.bool true)], args := [d1, d2] }
  | _ => none }
def fnExactNextRoundRow : OpenClaim := { program := "ytlfflmoegfibgaa", sum := "60c66e23f484d1743eda7ece56b06e259f3def4e50ef50424994b77e9037445c", func := "loop.example/g01379/laws.FnExactNextRound", spec := "fnExactNextRound", inPlace := ["(*sync.WaitGroup).Add", "internal/race.ReleaseMerge", "internal/race.Disable", "internal/race.Enable", "internal/synctest.IsInBubble", "internal/synctest.Associate[sync.WaitGroup]", "sync.fatal", "sync/atomic.OrUint64", "sync/atomic.AddUint64", "internal/race.Read", "sync/atomic.LoadUint64", "sync/atomic.StoreUint64", "internal/synctest.Disassociate[sync.WaitGroup]", "sync.runtime_Semrelease", "(*sync.WaitGroup).Done", "(*sync.WaitGroup).Wait", "internal/race.Acquire", "internal/synctest.IsAssociated[sync.WaitGroup]", "sync/atomic.CompareAndSwapUint64", "internal/race.Write", "sync.runtime_SemacquireWaitGroup"], unfollowed := true, recurses := true, plainKeys := false, leaving := true, apart := false }
def FnExactNextRoundSaid : Prop := fnExactNextRoundRow.holds Try.pinned (OpenSpec.ofChange fnExactNextRoundSpec)

/-- ITS FALSE NEIGHBOUR: 'it returns false'. Refute it at one input. -/
def fnExactNextRoundWrong : ChangeSpec := { name := "fnExactNextRound", fn := fun _ => fun
  | [d1, d2] => { results := [.lit (.bool false)], args := [d1, d2] }
  | _ => none }
def FnExactNextRoundWrongFalsely : Prop := fnExactNextRoundRow.holds Try.pinned (OpenSpec.ofChange fnExactNextRoundWrong)

/-- 'laws.FnExactCanBeFirst': WHATEVER THE INPUT: true; the input reads as it did. -/
def fnExactCanBeFirstSpec : ChangeSpec := { name := "fnExactCanBeFirst", fn := fun _ => fun
  | [d1, d2, d3] => { results := [.lit (.bool true)], args := [d1, d2, d3] }
  | _ => none }
def fnExactCanBeFirstRow : OpenClaim := { program := "ytlfflmoegfibgaa", sum := "60c66e23f484d1743eda7ece56b06e259f3def4e50ef50424994b77e9037445c", func := "loop.example/g01379/laws.FnExactCanBeFirst", spec := "fnExactCanBeFirst", inPlace := ["(*sync.WaitGroup).Add", "internal/race.ReleaseMerge", "internal/race.Disable", "internal/race.Enable", "internal/synctest.IsInBubble", "internal/synctest.Associate[sync.WaitGroup]", "sync.fatal", "sync/atomic.OrUint64", "sync/atomic.AddUint64", "internal/race.Read", "sync/atomic.LoadUint64", "sync/atomic.StoreUint64", "internal/synctest.Disassociate[sync.WaitGroup]", "sync.runtime_Semrelease", "(*sync.WaitGroup).Done", "(*sync.WaitGroup).Wait", "internal/race.Acquire", "internal/synctest.IsAssociated[sync.WaitGroup]", "sync/atomic.CompareAndSwapUint64", "internal/race.Write", "sync.runtime_SemacquireWaitGroup"], unfollowed := true, recurses := true, plainKeys := false, leaving := true, apart := false }
def FnExactCanBeFirstSaid : Prop := fnExactCanBeFirstRow.holds Try.pinned (OpenSpec.ofChange fnExactCanBeFirstSpec)

/-- ITS FALSE NEIGHBOUR: 'it returns false'. Refute it at one input. -/
def fnExactCanBeFirstWrong : ChangeSpec := { name := "fnExactCanBeFirst", fn := fun _ => fun
  | [d1, d2, d3] => { results := [.lit (.bool false)], args := [d1, d2, d3] }
  | _ => none }
def FnExactCanBeFirstWrongFalsely : Prop := fnExactCanBeFirstRow.holds Try.pinned (OpenSpec.ofChange fnExactCanBeFirstWrong)

/-- 'laws.FnExactFirstTeams': WHATEVER THE INPUT: true; the input reads as it did. -/
def fnExactFirstTeamsSpec : ChangeSpec := { name := "fnExactFirstTeams", fn := fun _ => fun
  | [d1, d2] => { results := [.lit (.bool true)], args := [d1, d2] }
  | _ => none }
def fnExactFirstTeamsRow : OpenClaim := { program := "ytlfflmoegfibgaa", sum := "60c66e23f484d1743eda7ece56b06e259f3def4e50ef50424994b77e9037445c", func := "loop.example/g01379/laws.FnExactFirstTeams", spec := "fnExactFirstTeams", inPlace := ["(*sync.WaitGroup).Add", "internal/race.ReleaseMerge", "internal/race.Disable", "internal/race.Enable", "internal/synctest.IsInBubble", "internal/synctest.Associate[sync.WaitGroup]", "sync.fatal", "sync/atomic.OrUint64", "sync/atomic.AddUint64", "internal/race.Read", "sync/atomic.LoadUint64", "sync/atomic.StoreUint64", "internal/synctest.Disassociate[sync.WaitGroup]", "sync.runtime_Semrelease", "(*sync.WaitGroup).Done", "(*sync.WaitGroup).Wait", "internal/race.Acquire", "internal/synctest.IsAssociated[sync.WaitGroup]", "sync/atomic.CompareAndSwapUint64", "internal/race.Write", "sync.runtime_SemacquireWaitGroup"], unfollowed := true, recurses := true, plainKeys := false, leaving := true, apart := false }
def FnExactFirstTeamsSaid : Prop := fnExactFirstTeamsRow.holds Try.pinned (OpenSpec.ofChange fnExactFirstTeamsSpec)

/-- ITS FALSE NEIGHBOUR: 'it returns false'. Refute it at one input. -/
def fnExactFirstTeamsWrong : ChangeSpec := { name := "fnExactFirstTeams", fn := fun _ => fun
  | [d1, d2] => { results := [.lit (.bool false)], args := [d1, d2] }
  | _ => none }
def FnExactFirstTeamsWrongFalsely : Prop := fnExactFirstTeamsRow.holds Try.pinned (OpenSpec.ofChange fnExactFirstTeamsWrong)

/-- 'laws.FnCarry': WHATEVER THE INPUT: true; the input reads as it did. -/
def fnCarrySpec : ChangeSpec := { name := "fnCarry", fn := fun _ => fun
  | [d] => { results := [.lit (.bool true)], args := [d] }
  | _ => none }
def fnCarryRow : OpenClaim := { program := "ytlfflmoegfibgaa", sum := "60c66e23f484d1743eda7ece56b06e259f3def4e50ef50424994b77e9037445c", func := "loop.example/g01379/laws.FnCarry", spec := "fnCarry", unfollowed := true, recurses := true, plainKeys := false, leaving := true, apart := false }
def FnCarrySaid : Prop := fnCarryRow.holds Try.pinned (OpenSpec.ofChange fnCarrySpec)

/-- ITS FALSE NEIGHBOUR: 'it returns false'. Refute it at one input. -/
def fnCarryWrong : ChangeSpec := { name := "fnCarry", fn := fun _ => fun
  | [d] => { results := [.lit (.bool false)], args := [d] }
  | _ => none }
def FnCarryWrongFalsely : Prop := fnCarryRow.holds Try.pinned (OpenSpec.ofChange fnCarryWrong)

/- THE SECOND FORM. 'bulk': how many values and letters a reading holds, each counted each time it is reached (what is shared counts as often as it is met; a slice's spare places count too). A statement '..UptoSaid' is the law's where the arguments, and the package variables that the reading takes, are together of bulk at most 1048576: NARROWER than '..Said'. Prove '..Said' where nothing that the law and all that it calls make is longer than what came in: it says more and counts as full. Else prove '..UptoSaid'. A law counts once. -/
mutual
def uptoBulk {H : Type} : DataW H → Nat
  | .lit (.string bytes) => bytes.length + 1
  | .lit _ => 1
  | .nil => 1
  | .ptr d => uptoBulk d + 1
  | .slice elems spare => uptoBulkAll elems + uptoBulkAll spare + 1
  | .agg parts => uptoBulkAll parts + 1
  | .iface _ d => uptoBulk d + 1
  | .map entries => uptoBulkEntries entries + 1
  | .held _ => 1
def uptoBulkAll {H : Type} : List (DataW H) → Nat
  | [] => 0
  | d :: r => uptoBulk d + uptoBulkAll r
def uptoBulkEntries {H : Type} : List (Lit × DataW H) → Nat
  | [] => 0
  | x :: r => uptoBulkEntry x + uptoBulkEntries r
def uptoBulkEntry {H : Type} : Lit × DataW H → Nat
  | (.string bytes, d) => bytes.length + uptoBulk d + 1
  | (_, d) => uptoBulk d + 1
 end
def uptoSmall : (H : Type) → List (DataW H) → Bool := fun _ ds => decide (uptoBulkAll ds ≤ 1048576)
def OpenSpec.upto (s : _root_.Go.ChangeSpec) : _root_.Go.OpenSpec := { _root_.Go.OpenSpec.ofChange s with cond := some uptoSmall }

/-- 'laws.FnExactAreResults', WHERE WHAT IT READS IS OF BULK AT MOST 1048576: true; the input reads as it did. -/
def fnExactAreResultsUptoRow : OpenClaim := { program := "ytlfflmoegfibgaa", sum := "60c66e23f484d1743eda7ece56b06e259f3def4e50ef50424994b77e9037445c", func := "loop.example/g01379/laws.FnExactAreResults", spec := "fnExactAreResults", unfollowed := true, recurses := true, plainKeys := false, leaving := true, apart := false, narrowed := true }
def FnExactAreResultsUptoSaid : Prop := fnExactAreResultsUptoRow.holds Try.pinned (OpenSpec.upto fnExactAreResultsSpec)

/-- 'laws.FnExactPointsOf', WHERE WHAT IT READS IS OF BULK AT MOST 1048576: true; the input reads as it did. -/
def fnExactPointsOfUptoRow : OpenClaim := { program := "ytlfflmoegfibgaa", sum := "60c66e23f484d1743eda7ece56b06e259f3def4e50ef50424994b77e9037445c", func := "loop.example/g01379/laws.FnExactPointsOf", spec := "fnExactPointsOf", inPlace := ["(*sync.WaitGroup).Add", "internal/race.ReleaseMerge", "internal/race.Disable", "internal/race.Enable", "internal/synctest.IsInBubble", "internal/synctest.Associate[sync.WaitGroup]", "sync.fatal", "sync/atomic.OrUint64", "sync/atomic.AddUint64", "internal/race.Read", "sync/atomic.LoadUint64", "sync/atomic.StoreUint64", "internal/synctest.Disassociate[sync.WaitGroup]", "sync.runtime_Semrelease", "(*sync.WaitGroup).Done", "(*sync.WaitGroup).Wait", "internal/race.Acquire", "internal/synctest.IsAssociated[sync.WaitGroup]", "sync/atomic.CompareAndSwapUint64", "internal/race.Write", "sync.runtime_SemacquireWaitGroup"], unfollowed := true, recurses := true, plainKeys := false, leaving := true, apart := false, narrowed := true }
def FnExactPointsOfUptoSaid : Prop := fnExactPointsOfUptoRow.holds Try.pinned (OpenSpec.upto fnExactPointsOfSpec)

/-- 'laws.FnExactSecondNumbers', WHERE WHAT IT READS IS OF BULK AT MOST 1048576: true; the input reads as it did. -/
def fnExactSecondNumbersUptoRow : OpenClaim := { program := "ytlfflmoegfibgaa", sum := "60c66e23f484d1743eda7ece56b06e259f3def4e50ef50424994b77e9037445c", func := "loop.example/g01379/laws.FnExactSecondNumbers", spec := "fnExactSecondNumbers", inPlace := ["(*sync.WaitGroup).Add", "internal/race.ReleaseMerge", "internal/race.Disable", "internal/race.Enable", "internal/synctest.IsInBubble", "internal/synctest.Associate[sync.WaitGroup]", "sync.fatal", "sync/atomic.OrUint64", "sync/atomic.AddUint64", "internal/race.Read", "sync/atomic.LoadUint64", "sync/atomic.StoreUint64", "internal/synctest.Disassociate[sync.WaitGroup]", "sync.runtime_Semrelease", "(*sync.WaitGroup).Done", "(*sync.WaitGroup).Wait", "internal/race.Acquire", "internal/synctest.IsAssociated[sync.WaitGroup]", "sync/atomic.CompareAndSwapUint64", "internal/race.Write", "sync.runtime_SemacquireWaitGroup"], unfollowed := true, recurses := true, plainKeys := false, leaving := true, apart := false, narrowed := true }
def FnExactSecondNumbersUptoSaid : Prop := fnExactSecondNumbersUptoRow.holds Try.pinned (OpenSpec.upto fnExactSecondNumbersSpec)

/-- 'laws.FnExactThirdNumbers', WHERE WHAT IT READS IS OF BULK AT MOST 1048576: true; the input reads as it did. -/
def fnExactThirdNumbersUptoRow : OpenClaim := { program := "ytlfflmoegfibgaa", sum := "60c66e23f484d1743eda7ece56b06e259f3def4e50ef50424994b77e9037445c", func := "loop.example/g01379/laws.FnExactThirdNumbers", spec := "fnExactThirdNumbers", inPlace := ["(*sync.WaitGroup).Add", "internal/race.ReleaseMerge", "internal/race.Disable", "internal/race.Enable", "internal/synctest.IsInBubble", "internal/synctest.Associate[sync.WaitGroup]", "sync.fatal", "sync/atomic.OrUint64", "sync/atomic.AddUint64", "internal/race.Read", "sync/atomic.LoadUint64", "sync/atomic.StoreUint64", "internal/synctest.Disassociate[sync.WaitGroup]", "sync.runtime_Semrelease", "(*sync.WaitGroup).Done", "(*sync.WaitGroup).Wait", "internal/race.Acquire", "internal/synctest.IsAssociated[sync.WaitGroup]", "sync/atomic.CompareAndSwapUint64", "internal/race.Write", "sync.runtime_SemacquireWaitGroup"], unfollowed := true, recurses := true, plainKeys := false, leaving := true, apart := false, narrowed := true }
def FnExactThirdNumbersUptoSaid : Prop := fnExactThirdNumbersUptoRow.holds Try.pinned (OpenSpec.upto fnExactThirdNumbersSpec)

/-- 'laws.FnExactRankingOf', WHERE WHAT IT READS IS OF BULK AT MOST 1048576: true; the input reads as it did. -/
def fnExactRankingOfUptoRow : OpenClaim := { program := "ytlfflmoegfibgaa", sum := "60c66e23f484d1743eda7ece56b06e259f3def4e50ef50424994b77e9037445c", func := "loop.example/g01379/laws.FnExactRankingOf", spec := "fnExactRankingOf", inPlace := ["(*sync.WaitGroup).Add", "internal/race.ReleaseMerge", "internal/race.Disable", "internal/race.Enable", "internal/synctest.IsInBubble", "internal/synctest.Associate[sync.WaitGroup]", "sync.fatal", "sync/atomic.OrUint64", "sync/atomic.AddUint64", "internal/race.Read", "sync/atomic.LoadUint64", "sync/atomic.StoreUint64", "internal/synctest.Disassociate[sync.WaitGroup]", "sync.runtime_Semrelease", "(*sync.WaitGroup).Done", "(*sync.WaitGroup).Wait", "internal/race.Acquire", "internal/synctest.IsAssociated[sync.WaitGroup]", "sync/atomic.CompareAndSwapUint64", "internal/race.Write", "sync.runtime_SemacquireWaitGroup"], unfollowed := true, recurses := true, plainKeys := false, leaving := true, apart := false, narrowed := true }
def FnExactRankingOfUptoSaid : Prop := fnExactRankingOfUptoRow.holds Try.pinned (OpenSpec.upto fnExactRankingOfSpec)

/-- 'laws.FnExactPointsBetween', WHERE WHAT IT READS IS OF BULK AT MOST 1048576: true; the input reads as it did. -/
def fnExactPointsBetweenUptoRow : OpenClaim := { program := "ytlfflmoegfibgaa", sum := "60c66e23f484d1743eda7ece56b06e259f3def4e50ef50424994b77e9037445c", func := "loop.example/g01379/laws.FnExactPointsBetween", spec := "fnExactPointsBetween", unfollowed := true, recurses := true, plainKeys := false, leaving := true, apart := false, narrowed := true }
def FnExactPointsBetweenUptoSaid : Prop := fnExactPointsBetweenUptoRow.holds Try.pinned (OpenSpec.upto fnExactPointsBetweenSpec)

/-- 'laws.FnExactPointsByRound', WHERE WHAT IT READS IS OF BULK AT MOST 1048576: true; the input reads as it did. -/
def fnExactPointsByRoundUptoRow : OpenClaim := { program := "ytlfflmoegfibgaa", sum := "60c66e23f484d1743eda7ece56b06e259f3def4e50ef50424994b77e9037445c", func := "loop.example/g01379/laws.FnExactPointsByRound", spec := "fnExactPointsByRound", unfollowed := true, recurses := true, plainKeys := false, leaving := true, apart := false, narrowed := true }
def FnExactPointsByRoundUptoSaid : Prop := fnExactPointsByRoundUptoRow.holds Try.pinned (OpenSpec.upto fnExactPointsByRoundSpec)

/-- 'laws.FnExactNextRound', WHERE WHAT IT READS IS OF BULK AT MOST 1048576: true; the input reads as it did. -/
def fnExactNextRoundUptoRow : OpenClaim := { program := "ytlfflmoegfibgaa", sum := "60c66e23f484d1743eda7ece56b06e259f3def4e50ef50424994b77e9037445c", func := "loop.example/g01379/laws.FnExactNextRound", spec := "fnExactNextRound", inPlace := ["(*sync.WaitGroup).Add", "internal/race.ReleaseMerge", "internal/race.Disable", "internal/race.Enable", "internal/synctest.IsInBubble", "internal/synctest.Associate[sync.WaitGroup]", "sync.fatal", "sync/atomic.OrUint64", "sync/atomic.AddUint64", "internal/race.Read", "sync/atomic.LoadUint64", "sync/atomic.StoreUint64", "internal/synctest.Disassociate[sync.WaitGroup]", "sync.runtime_Semrelease", "(*sync.WaitGroup).Done", "(*sync.WaitGroup).Wait", "internal/race.Acquire", "internal/synctest.IsAssociated[sync.WaitGroup]", "sync/atomic.CompareAndSwapUint64", "internal/race.Write", "sync.runtime_SemacquireWaitGroup"], unfollowed := true, recurses := true, plainKeys := false, leaving := true, apart := false, narrowed := true }
def FnExactNextRoundUptoSaid : Prop := fnExactNextRoundUptoRow.holds Try.pinned (OpenSpec.upto fnExactNextRoundSpec)

/-- 'laws.FnExactCanBeFirst', WHERE WHAT IT READS IS OF BULK AT MOST 1048576: true; the input reads as it did. -/
def fnExactCanBeFirstUptoRow : OpenClaim := { program := "ytlfflmoegfibgaa", sum := "60c66e23f484d1743eda7ece56b06e259f3def4e50ef50424994b77e9037445c", func := "loop.example/g01379/laws.FnExactCanBeFirst", spec := "fnExactCanBeFirst", inPlace := ["(*sync.WaitGroup).Add", "internal/race.ReleaseMerge", "internal/race.Disable", "internal/race.Enable", "internal/synctest.IsInBubble", "internal/synctest.Associate[sync.WaitGroup]", "sync.fatal", "sync/atomic.OrUint64", "sync/atomic.AddUint64", "internal/race.Read", "sync/atomic.LoadUint64", "sync/atomic.StoreUint64", "internal/synctest.Disassociate[sync.WaitGroup]", "sync.runtime_Semrelease", "(*sync.WaitGroup).Done", "(*sync.WaitGroup).Wait", "internal/race.Acquire", "internal/synctest.IsAssociated[sync.WaitGroup]", "sync/atomic.CompareAndSwapUint64", "internal/race.Write", "sync.runtime_SemacquireWaitGroup"], unfollowed := true, recurses := true, plainKeys := false, leaving := true, apart := false, narrowed := true }
def FnExactCanBeFirstUptoSaid : Prop := fnExactCanBeFirstUptoRow.holds Try.pinned (OpenSpec.upto fnExactCanBeFirstSpec)

/-- 'laws.FnExactFirstTeams', WHERE WHAT IT READS IS OF BULK AT MOST 1048576: true; the input reads as it did. -/
def fnExactFirstTeamsUptoRow : OpenClaim := { program := "ytlfflmoegfibgaa", sum := "60c66e23f484d1743eda7ece56b06e259f3def4e50ef50424994b77e9037445c", func := "loop.example/g01379/laws.FnExactFirstTeams", spec := "fnExactFirstTeams", inPlace := ["(*sync.WaitGroup).Add", "internal/race.ReleaseMerge", "internal/race.Disable", "internal/race.Enable", "internal/synctest.IsInBubble", "internal/synctest.Associate[sync.WaitGroup]", "sync.fatal", "sync/atomic.OrUint64", "sync/atomic.AddUint64", "internal/race.Read", "sync/atomic.LoadUint64", "sync/atomic.StoreUint64", "internal/synctest.Disassociate[sync.WaitGroup]", "sync.runtime_Semrelease", "(*sync.WaitGroup).Done", "(*sync.WaitGroup).Wait", "internal/race.Acquire", "internal/synctest.IsAssociated[sync.WaitGroup]", "sync/atomic.CompareAndSwapUint64", "internal/race.Write", "sync.runtime_SemacquireWaitGroup"], unfollowed := true, recurses := true, plainKeys := false, leaving := true, apart := false, narrowed := true }
def FnExactFirstTeamsUptoSaid : Prop := fnExactFirstTeamsUptoRow.holds Try.pinned (OpenSpec.upto fnExactFirstTeamsSpec)

/-- 'laws.FnCarry', WHERE WHAT IT READS IS OF BULK AT MOST 1048576: true; the input reads as it did. -/
def fnCarryUptoRow : OpenClaim := { program := "ytlfflmoegfibgaa", sum := "60c66e23f484d1743eda7ece56b06e259f3def4e50ef50424994b77e9037445c", func := "loop.example/g01379/laws.FnCarry", spec := "fnCarry", unfollowed := true, recurses := true, plainKeys := false, leaving := true, apart := false, narrowed := true }
def FnCarryUptoSaid : Prop := fnCarryUptoRow.holds Try.pinned (OpenSpec.upto fnCarrySpec)

end Rows
end Go.Proofs.Ytlfflmoegfibgaa
