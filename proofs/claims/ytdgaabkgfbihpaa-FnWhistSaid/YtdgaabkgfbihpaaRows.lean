/-
  No cell of these rows narrows 'for every input' (looked for: loops, veiled, ifaces, maps, wideKeys, modest, calm, conditions, laid).
  DERIVED. THE GIVEN ROWS OF THIS SEAT. 17 by the template 'for every input the law returns true; each argument reads behind the call as it read before'; 0 by the template 'total and deterministic' (their statements: YtdgaabkgfbihpaaTotals.lean).
  GIVEN WITH THE SEED: the statements are not yours to turn. If you find one false, say at which input.
  Laid BY PROGRAM, IN A SANDBOX (cutbox-rows.mjs): the forced cells as the released guide's own fill.sh prints them over the translation 80b82907b2d1d5a5… (all of the seat's roots in one cut). By AI agents, Wed Nov 11 2026. No macro, syntax, notation, axiom, sorry.
-/
import Derived.Test.YtdgaabkgfbihpaaChecked
import GoSem.Claim
import GoSem.ClaimJoined
import GoSem.ClaimMapViews
import Derived.JoinedTies
import Derived.KernelRfl
namespace Go.Proofs.Ytdgaabkgfbihpaa
/- THE CELL 'sum', in the pinned program and in every row, IS THE sha256 OF THE DUMP (.gsa) THAT YtdgaabkgfbihpaaProg.lean LOADS. Nothing in Lean hashes anything: it is a label: what it is worth is what the hold of that sum in a sandbox is worth. -/
noncomputable def Try.pinned : Pinned := { name := "ytdgaabkgfbihpaa", sum := "80b82907b2d1d5a5788c5806dd686626d68c39d1566bb05dd29bb8a20a3498ea", checked := Try.checked }
namespace Rows
def none {H : Type} : Left H := { results := [], args := [] }

/-- 'laws.FnVenues': WHATEVER THE INPUT: true; the input reads as it did. -/
def fnVenuesSpec : ChangeSpec := { name := "fnVenues", fn := fun _ => fun
  | [d] => { results := [.lit (.bool true)], args := [d] }
  | _ => none }
def fnVenuesRow : OpenClaim := { program := "ytdgaabkgfbihpaa", sum := "80b82907b2d1d5a5788c5806dd686626d68c39d1566bb05dd29bb8a20a3498ea", func := "loop.example/g01379/laws.FnVenues", spec := "fnVenues", unfollowed := true, recurses := true, plainKeys := false, leaving := true, apart := false }
def FnVenuesSaid : Prop := fnVenuesRow.holds Try.pinned (OpenSpec.ofChange fnVenuesSpec)

/-- ITS FALSE NEIGHBOUR: 'it returns false'. Refute it at one input. -/
def fnVenuesWrong : ChangeSpec := { name := "fnVenues", fn := fun _ => fun
  | [d] => { results := [.lit (.bool false)], args := [d] }
  | _ => none }
def FnVenuesWrongFalsely : Prop := fnVenuesRow.holds Try.pinned (OpenSpec.ofChange fnVenuesWrong)

/-- 'laws.FnComponents': WHATEVER THE INPUT: true; the input reads as it did. -/
def fnComponentsSpec : ChangeSpec := { name := "fnComponents", fn := fun _ => fun
  | [d] => { results := [.lit (.bool true)], args := [d] }
  | _ => none }
def fnComponentsRow : OpenClaim := { program := "ytdgaabkgfbihpaa", sum := "80b82907b2d1d5a5788c5806dd686626d68c39d1566bb05dd29bb8a20a3498ea", func := "loop.example/g01379/laws.FnComponents", spec := "fnComponents", unfollowed := true, recurses := true, plainKeys := false, leaving := true, apart := false }
def FnComponentsSaid : Prop := fnComponentsRow.holds Try.pinned (OpenSpec.ofChange fnComponentsSpec)

/-- ITS FALSE NEIGHBOUR: 'it returns false'. Refute it at one input. -/
def fnComponentsWrong : ChangeSpec := { name := "fnComponents", fn := fun _ => fun
  | [d] => { results := [.lit (.bool false)], args := [d] }
  | _ => none }
def FnComponentsWrongFalsely : Prop := fnComponentsRow.holds Try.pinned (OpenSpec.ofChange fnComponentsWrong)

/-- 'laws.FnWhist': WHATEVER THE INPUT: true; the input reads as it did. -/
def fnWhistSpec : ChangeSpec := { name := "fnWhist", fn := fun _ => fun
  | [d] => { results := [.lit (.bool true)], args := [d] }
  | _ => none }
def fnWhistRow : OpenClaim := { program := "ytdgaabkgfbihpaa", sum := "80b82907b2d1d5a5788c5806dd686626d68c39d1566bb05dd29bb8a20a3498ea", func := "loop.example/g01379/laws.FnWhist", spec := "fnWhist", unfollowed := true, recurses := true, plainKeys := false, leaving := true, apart := false }
def FnWhistSaid : Prop := fnWhistRow.holds Try.pinned (OpenSpec.ofChange fnWhistSpec)

/-- ITS FALSE NEIGHBOUR: 'it returns false'. Refute it at one input. -/
def fnWhistWrong : ChangeSpec := { name := "fnWhist", fn := fun _ => fun
  | [d] => { results := [.lit (.bool false)], args := [d] }
  | _ => none }
def FnWhistWrongFalsely : Prop := fnWhistRow.holds Try.pinned (OpenSpec.ofChange fnWhistWrong)

/-- 'laws.FnExactCompleteSchedule': WHATEVER THE INPUT: true; the input reads as it did. -/
def fnExactCompleteScheduleSpec : ChangeSpec := { name := "fnExactCompleteSchedule", fn := fun _ => fun
  | [d] => { results := [.lit (.bool true)], args := [d] }
  | _ => none }
def fnExactCompleteScheduleRow : OpenClaim := { program := "ytdgaabkgfbihpaa", sum := "80b82907b2d1d5a5788c5806dd686626d68c39d1566bb05dd29bb8a20a3498ea", func := "loop.example/g01379/laws.FnExactCompleteSchedule", spec := "fnExactCompleteSchedule", unfollowed := true, recurses := true, plainKeys := false, leaving := true, apart := false }
def FnExactCompleteScheduleSaid : Prop := fnExactCompleteScheduleRow.holds Try.pinned (OpenSpec.ofChange fnExactCompleteScheduleSpec)

/-- ITS FALSE NEIGHBOUR: 'it returns false'. Refute it at one input. -/
def fnExactCompleteScheduleWrong : ChangeSpec := { name := "fnExactCompleteSchedule", fn := fun _ => fun
  | [d] => { results := [.lit (.bool false)], args := [d] }
  | _ => none }
def FnExactCompleteScheduleWrongFalsely : Prop := fnExactCompleteScheduleRow.holds Try.pinned (OpenSpec.ofChange fnExactCompleteScheduleWrong)

/-- 'laws.FnExactFewestBreaks': WHATEVER THE INPUT: true; the input reads as it did. -/
def fnExactFewestBreaksSpec : ChangeSpec := { name := "fnExactFewestBreaks", fn := fun _ => fun
  | [d] => { results := [.lit (.bool true)], args := [d] }
  | _ => none }
def fnExactFewestBreaksRow : OpenClaim := { program := "ytdgaabkgfbihpaa", sum := "80b82907b2d1d5a5788c5806dd686626d68c39d1566bb05dd29bb8a20a3498ea", func := "loop.example/g01379/laws.FnExactFewestBreaks", spec := "fnExactFewestBreaks", unfollowed := true, recurses := true, plainKeys := false, leaving := true, apart := false }
def FnExactFewestBreaksSaid : Prop := fnExactFewestBreaksRow.holds Try.pinned (OpenSpec.ofChange fnExactFewestBreaksSpec)

/-- ITS FALSE NEIGHBOUR: 'it returns false'. Refute it at one input. -/
def fnExactFewestBreaksWrong : ChangeSpec := { name := "fnExactFewestBreaks", fn := fun _ => fun
  | [d] => { results := [.lit (.bool false)], args := [d] }
  | _ => none }
def FnExactFewestBreaksWrongFalsely : Prop := fnExactFewestBreaksRow.holds Try.pinned (OpenSpec.ofChange fnExactFewestBreaksWrong)

/-- 'laws.FnExactIsMovement': WHATEVER THE INPUT: true; the input reads as it did. -/
def fnExactIsMovementSpec : ChangeSpec := { name := "fnExactIsMovement", fn := fun _ => fun
  | [d] => { results := [.lit (.bool true)], args := [d] }
  | _ => none }
def fnExactIsMovementRow : OpenClaim := { program := "ytdgaabkgfbihpaa", sum := "80b82907b2d1d5a5788c5806dd686626d68c39d1566bb05dd29bb8a20a3498ea", func := "loop.example/g01379/laws.FnExactIsMovement", spec := "fnExactIsMovement", inPlace := ["(*sync.WaitGroup).Add", "internal/race.ReleaseMerge", "internal/race.Disable", "internal/race.Enable", "internal/synctest.IsInBubble", "internal/synctest.Associate[sync.WaitGroup]", "sync.fatal", "sync/atomic.OrUint64", "sync/atomic.AddUint64", "internal/race.Read", "sync/atomic.LoadUint64", "sync/atomic.StoreUint64", "internal/synctest.Disassociate[sync.WaitGroup]", "sync.runtime_Semrelease", "(*sync.WaitGroup).Done", "(*sync.WaitGroup).Wait", "internal/race.Acquire", "internal/synctest.IsAssociated[sync.WaitGroup]", "sync/atomic.CompareAndSwapUint64", "internal/race.Write", "sync.runtime_SemacquireWaitGroup"], unfollowed := true, recurses := true, plainKeys := false, leaving := true, apart := false }
def FnExactIsMovementSaid : Prop := fnExactIsMovementRow.holds Try.pinned (OpenSpec.ofChange fnExactIsMovementSpec)

/-- ITS FALSE NEIGHBOUR: 'it returns false'. Refute it at one input. -/
def fnExactIsMovementWrong : ChangeSpec := { name := "fnExactIsMovement", fn := fun _ => fun
  | [d] => { results := [.lit (.bool false)], args := [d] }
  | _ => none }
def FnExactIsMovementWrongFalsely : Prop := fnExactIsMovementRow.holds Try.pinned (OpenSpec.ofChange fnExactIsMovementWrong)

/-- 'laws.FnExactMitchellOf': WHATEVER THE INPUT: true; the input reads as it did. -/
def fnExactMitchellOfSpec : ChangeSpec := { name := "fnExactMitchellOf", fn := fun _ => fun
  | [d] => { results := [.lit (.bool true)], args := [d] }
  | _ => none }
def fnExactMitchellOfRow : OpenClaim := { program := "ytdgaabkgfbihpaa", sum := "80b82907b2d1d5a5788c5806dd686626d68c39d1566bb05dd29bb8a20a3498ea", func := "loop.example/g01379/laws.FnExactMitchellOf", spec := "fnExactMitchellOf", unfollowed := true, recurses := true, plainKeys := false, leaving := true, apart := false }
def FnExactMitchellOfSaid : Prop := fnExactMitchellOfRow.holds Try.pinned (OpenSpec.ofChange fnExactMitchellOfSpec)

/-- ITS FALSE NEIGHBOUR: 'it returns false'. Refute it at one input. -/
def fnExactMitchellOfWrong : ChangeSpec := { name := "fnExactMitchellOf", fn := fun _ => fun
  | [d] => { results := [.lit (.bool false)], args := [d] }
  | _ => none }
def FnExactMitchellOfWrongFalsely : Prop := fnExactMitchellOfRow.holds Try.pinned (OpenSpec.ofChange fnExactMitchellOfWrong)

/-- 'laws.FnExactBoardsOf': WHATEVER THE INPUT: true; the input reads as it did. -/
def fnExactBoardsOfSpec : ChangeSpec := { name := "fnExactBoardsOf", fn := fun _ => fun
  | [d1, d2] => { results := [.lit (.bool true)], args := [d1, d2] }
  | _ => none }
def fnExactBoardsOfRow : OpenClaim := { program := "ytdgaabkgfbihpaa", sum := "80b82907b2d1d5a5788c5806dd686626d68c39d1566bb05dd29bb8a20a3498ea", func := "loop.example/g01379/laws.FnExactBoardsOf", spec := "fnExactBoardsOf", inPlace := ["(*sync.WaitGroup).Add", "internal/race.ReleaseMerge", "internal/race.Disable", "internal/race.Enable", "internal/synctest.IsInBubble", "internal/synctest.Associate[sync.WaitGroup]", "sync.fatal", "sync/atomic.OrUint64", "sync/atomic.AddUint64", "internal/race.Read", "sync/atomic.LoadUint64", "sync/atomic.StoreUint64", "internal/synctest.Disassociate[sync.WaitGroup]", "sync.runtime_Semrelease", "(*sync.WaitGroup).Done", "(*sync.WaitGroup).Wait", "internal/race.Acquire", "internal/synctest.IsAssociated[sync.WaitGroup]", "sync/atomic.CompareAndSwapUint64", "internal/race.Write", "sync.runtime_SemacquireWaitGroup"], unfollowed := true, recurses := true, plainKeys := false, leaving := true, apart := false }
def FnExactBoardsOfSaid : Prop := fnExactBoardsOfRow.holds Try.pinned (OpenSpec.ofChange fnExactBoardsOfSpec)

/-- ITS FALSE NEIGHBOUR: 'it returns false'. Refute it at one input. -/
def fnExactBoardsOfWrong : ChangeSpec := { name := "fnExactBoardsOf", fn := fun _ => fun
  | [d1, d2] => { results := [.lit (.bool false)], args := [d1, d2] }
  | _ => none }
def FnExactBoardsOfWrongFalsely : Prop := fnExactBoardsOfRow.holds Try.pinned (OpenSpec.ofChange fnExactBoardsOfWrong)

/-- 'laws.FnExactOpponentsAt': WHATEVER THE INPUT: true; the input reads as it did. -/
def fnExactOpponentsAtSpec : ChangeSpec := { name := "fnExactOpponentsAt", fn := fun _ => fun
  | [d1, d2] => { results := [.lit (.bool true)], args := [d1, d2] }
  | _ => none }
def fnExactOpponentsAtRow : OpenClaim := { program := "ytdgaabkgfbihpaa", sum := "80b82907b2d1d5a5788c5806dd686626d68c39d1566bb05dd29bb8a20a3498ea", func := "loop.example/g01379/laws.FnExactOpponentsAt", spec := "fnExactOpponentsAt", inPlace := ["(*sync.WaitGroup).Add", "internal/race.ReleaseMerge", "internal/race.Disable", "internal/race.Enable", "internal/synctest.IsInBubble", "internal/synctest.Associate[sync.WaitGroup]", "sync.fatal", "sync/atomic.OrUint64", "sync/atomic.AddUint64", "internal/race.Read", "sync/atomic.LoadUint64", "sync/atomic.StoreUint64", "internal/synctest.Disassociate[sync.WaitGroup]", "sync.runtime_Semrelease", "(*sync.WaitGroup).Done", "(*sync.WaitGroup).Wait", "internal/race.Acquire", "internal/synctest.IsAssociated[sync.WaitGroup]", "sync/atomic.CompareAndSwapUint64", "internal/race.Write", "sync.runtime_SemacquireWaitGroup"], unfollowed := true, recurses := true, plainKeys := false, leaving := true, apart := false }
def FnExactOpponentsAtSaid : Prop := fnExactOpponentsAtRow.holds Try.pinned (OpenSpec.ofChange fnExactOpponentsAtSpec)

/-- ITS FALSE NEIGHBOUR: 'it returns false'. Refute it at one input. -/
def fnExactOpponentsAtWrong : ChangeSpec := { name := "fnExactOpponentsAt", fn := fun _ => fun
  | [d1, d2] => { results := [.lit (.bool false)], args := [d1, d2] }
  | _ => none }
def FnExactOpponentsAtWrongFalsely : Prop := fnExactOpponentsAtRow.holds Try.pinned (OpenSpec.ofChange fnExactOpponentsAtWrong)

/-- 'laws.FnExactSitOuts': WHATEVER THE INPUT: true; the input reads as it did. -/
def fnExactSitOutsSpec : ChangeSpec := { name := "fnExactSitOuts", fn := fun _ => fun
  | [d] => { results := [.lit (.bool true)], args := [d] }
  | _ => none }
def fnExactSitOutsRow : OpenClaim := { program := "ytdgaabkgfbihpaa", sum := "80b82907b2d1d5a5788c5806dd686626d68c39d1566bb05dd29bb8a20a3498ea", func := "loop.example/g01379/laws.FnExactSitOuts", spec := "fnExactSitOuts", inPlace := ["(*sync.WaitGroup).Add", "internal/race.ReleaseMerge", "internal/race.Disable", "internal/race.Enable", "internal/synctest.IsInBubble", "internal/synctest.Associate[sync.WaitGroup]", "sync.fatal", "sync/atomic.OrUint64", "sync/atomic.AddUint64", "internal/race.Read", "sync/atomic.LoadUint64", "sync/atomic.StoreUint64", "internal/synctest.Disassociate[sync.WaitGroup]", "sync.runtime_Semrelease", "(*sync.WaitGroup).Done", "(*sync.WaitGroup).Wait", "internal/race.Acquire", "internal/synctest.IsAssociated[sync.WaitGroup]", "sync/atomic.CompareAndSwapUint64", "internal/race.Write", "sync.runtime_SemacquireWaitGroup"], unfollowed := true, recurses := true, plainKeys := false, leaving := true, apart := false }
def FnExactSitOutsSaid : Prop := fnExactSitOutsRow.holds Try.pinned (OpenSpec.ofChange fnExactSitOutsSpec)

/-- ITS FALSE NEIGHBOUR: 'it returns false'. Refute it at one input. -/
def fnExactSitOutsWrong : ChangeSpec := { name := "fnExactSitOuts", fn := fun _ => fun
  | [d] => { results := [.lit (.bool false)], args := [d] }
  | _ => none }
def FnExactSitOutsWrongFalsely : Prop := fnExactSitOutsRow.holds Try.pinned (OpenSpec.ofChange fnExactSitOutsWrong)

/-- 'laws.FnExactIsFair': WHATEVER THE INPUT: true; the input reads as it did. -/
def fnExactIsFairSpec : ChangeSpec := { name := "fnExactIsFair", fn := fun _ => fun
  | [d] => { results := [.lit (.bool true)], args := [d] }
  | _ => none }
def fnExactIsFairRow : OpenClaim := { program := "ytdgaabkgfbihpaa", sum := "80b82907b2d1d5a5788c5806dd686626d68c39d1566bb05dd29bb8a20a3498ea", func := "loop.example/g01379/laws.FnExactIsFair", spec := "fnExactIsFair", inPlace := ["(*sync.WaitGroup).Add", "internal/race.ReleaseMerge", "internal/race.Disable", "internal/race.Enable", "internal/synctest.IsInBubble", "internal/synctest.Associate[sync.WaitGroup]", "sync.fatal", "sync/atomic.OrUint64", "sync/atomic.AddUint64", "internal/race.Read", "sync/atomic.LoadUint64", "sync/atomic.StoreUint64", "internal/synctest.Disassociate[sync.WaitGroup]", "sync.runtime_Semrelease", "(*sync.WaitGroup).Done", "(*sync.WaitGroup).Wait", "internal/race.Acquire", "internal/synctest.IsAssociated[sync.WaitGroup]", "sync/atomic.CompareAndSwapUint64", "internal/race.Write", "sync.runtime_SemacquireWaitGroup"], unfollowed := true, recurses := true, plainKeys := false, leaving := true, apart := false }
def FnExactIsFairSaid : Prop := fnExactIsFairRow.holds Try.pinned (OpenSpec.ofChange fnExactIsFairSpec)

/-- ITS FALSE NEIGHBOUR: 'it returns false'. Refute it at one input. -/
def fnExactIsFairWrong : ChangeSpec := { name := "fnExactIsFair", fn := fun _ => fun
  | [d] => { results := [.lit (.bool false)], args := [d] }
  | _ => none }
def FnExactIsFairWrongFalsely : Prop := fnExactIsFairRow.holds Try.pinned (OpenSpec.ofChange fnExactIsFairWrong)

/-- 'laws.FnExactIsComplete': WHATEVER THE INPUT: true; the input reads as it did. -/
def fnExactIsCompleteSpec : ChangeSpec := { name := "fnExactIsComplete", fn := fun _ => fun
  | [d] => { results := [.lit (.bool true)], args := [d] }
  | _ => none }
def fnExactIsCompleteRow : OpenClaim := { program := "ytdgaabkgfbihpaa", sum := "80b82907b2d1d5a5788c5806dd686626d68c39d1566bb05dd29bb8a20a3498ea", func := "loop.example/g01379/laws.FnExactIsComplete", spec := "fnExactIsComplete", inPlace := ["(*sync.WaitGroup).Add", "internal/race.ReleaseMerge", "internal/race.Disable", "internal/race.Enable", "internal/synctest.IsInBubble", "internal/synctest.Associate[sync.WaitGroup]", "sync.fatal", "sync/atomic.OrUint64", "sync/atomic.AddUint64", "internal/race.Read", "sync/atomic.LoadUint64", "sync/atomic.StoreUint64", "internal/synctest.Disassociate[sync.WaitGroup]", "sync.runtime_Semrelease", "(*sync.WaitGroup).Done", "(*sync.WaitGroup).Wait", "internal/race.Acquire", "internal/synctest.IsAssociated[sync.WaitGroup]", "sync/atomic.CompareAndSwapUint64", "internal/race.Write", "sync.runtime_SemacquireWaitGroup"], unfollowed := true, recurses := true, plainKeys := false, leaving := true, apart := false }
def FnExactIsCompleteSaid : Prop := fnExactIsCompleteRow.holds Try.pinned (OpenSpec.ofChange fnExactIsCompleteSpec)

/-- ITS FALSE NEIGHBOUR: 'it returns false'. Refute it at one input. -/
def fnExactIsCompleteWrong : ChangeSpec := { name := "fnExactIsComplete", fn := fun _ => fun
  | [d] => { results := [.lit (.bool false)], args := [d] }
  | _ => none }
def FnExactIsCompleteWrongFalsely : Prop := fnExactIsCompleteRow.holds Try.pinned (OpenSpec.ofChange fnExactIsCompleteWrong)

/-- 'laws.FnExactPlaysOf': WHATEVER THE INPUT: true; the input reads as it did. -/
def fnExactPlaysOfSpec : ChangeSpec := { name := "fnExactPlaysOf", fn := fun _ => fun
  | [d] => { results := [.lit (.bool true)], args := [d] }
  | _ => none }
def fnExactPlaysOfRow : OpenClaim := { program := "ytdgaabkgfbihpaa", sum := "80b82907b2d1d5a5788c5806dd686626d68c39d1566bb05dd29bb8a20a3498ea", func := "loop.example/g01379/laws.FnExactPlaysOf", spec := "fnExactPlaysOf", inPlace := ["(*sync.WaitGroup).Add", "internal/race.ReleaseMerge", "internal/race.Disable", "internal/race.Enable", "internal/synctest.IsInBubble", "internal/synctest.Associate[sync.WaitGroup]", "sync.fatal", "sync/atomic.OrUint64", "sync/atomic.AddUint64", "internal/race.Read", "sync/atomic.LoadUint64", "sync/atomic.StoreUint64", "internal/synctest.Disassociate[sync.WaitGroup]", "sync.runtime_Semrelease", "(*sync.WaitGroup).Done", "(*sync.WaitGroup).Wait", "internal/race.Acquire", "internal/synctest.IsAssociated[sync.WaitGroup]", "sync/atomic.CompareAndSwapUint64", "internal/race.Write", "sync.runtime_SemacquireWaitGroup"], unfollowed := true, recurses := true, plainKeys := false, leaving := true, apart := false }
def FnExactPlaysOfSaid : Prop := fnExactPlaysOfRow.holds Try.pinned (OpenSpec.ofChange fnExactPlaysOfSpec)

/-- ITS FALSE NEIGHBOUR: 'it returns false'. Refute it at one input. -/
def fnExactPlaysOfWrong : ChangeSpec := { name := "fnExactPlaysOf", fn := fun _ => fun
  | [d] => { results := [.lit (.bool false)], args := [d] }
  | _ => none }
def FnExactPlaysOfWrongFalsely : Prop := fnExactPlaysOfRow.holds Try.pinned (OpenSpec.ofChange fnExactPlaysOfWrong)

/-- 'laws.FnExactComparisonsOf': WHATEVER THE INPUT: true; the input reads as it did. -/
def fnExactComparisonsOfSpec : ChangeSpec := { name := "fnExactComparisonsOf", fn := fun _ => fun
  | [d] => { results := [.lit (.bool true)], args := [d] }
  | _ => none }
def fnExactComparisonsOfRow : OpenClaim := { program := "ytdgaabkgfbihpaa", sum := "80b82907b2d1d5a5788c5806dd686626d68c39d1566bb05dd29bb8a20a3498ea", func := "loop.example/g01379/laws.FnExactComparisonsOf", spec := "fnExactComparisonsOf", inPlace := ["(*sync.WaitGroup).Add", "internal/race.ReleaseMerge", "internal/race.Disable", "internal/race.Enable", "internal/synctest.IsInBubble", "internal/synctest.Associate[sync.WaitGroup]", "sync.fatal", "sync/atomic.OrUint64", "sync/atomic.AddUint64", "internal/race.Read", "sync/atomic.LoadUint64", "sync/atomic.StoreUint64", "internal/synctest.Disassociate[sync.WaitGroup]", "sync.runtime_Semrelease", "(*sync.WaitGroup).Done", "(*sync.WaitGroup).Wait", "internal/race.Acquire", "internal/synctest.IsAssociated[sync.WaitGroup]", "sync/atomic.CompareAndSwapUint64", "internal/race.Write", "sync.runtime_SemacquireWaitGroup"], unfollowed := true, recurses := true, plainKeys := false, leaving := true, apart := false }
def FnExactComparisonsOfSaid : Prop := fnExactComparisonsOfRow.holds Try.pinned (OpenSpec.ofChange fnExactComparisonsOfSpec)

/-- ITS FALSE NEIGHBOUR: 'it returns false'. Refute it at one input. -/
def fnExactComparisonsOfWrong : ChangeSpec := { name := "fnExactComparisonsOf", fn := fun _ => fun
  | [d] => { results := [.lit (.bool false)], args := [d] }
  | _ => none }
def FnExactComparisonsOfWrongFalsely : Prop := fnExactComparisonsOfRow.holds Try.pinned (OpenSpec.ofChange fnExactComparisonsOfWrong)

/-- 'laws.FnExactTakePair': WHATEVER THE INPUT: true; the input reads as it did. -/
def fnExactTakePairSpec : ChangeSpec := { name := "fnExactTakePair", fn := fun _ => fun
  | [d1, d2] => { results := [.lit (.bool true)], args := [d1, d2] }
  | _ => none }
def fnExactTakePairRow : OpenClaim := { program := "ytdgaabkgfbihpaa", sum := "80b82907b2d1d5a5788c5806dd686626d68c39d1566bb05dd29bb8a20a3498ea", func := "loop.example/g01379/laws.FnExactTakePair", spec := "fnExactTakePair", inPlace := ["(*sync.WaitGroup).Add", "internal/race.ReleaseMerge", "internal/race.Disable", "internal/race.Enable", "internal/synctest.IsInBubble", "internal/synctest.Associate[sync.WaitGroup]", "sync.fatal", "sync/atomic.OrUint64", "sync/atomic.AddUint64", "internal/race.Read", "sync/atomic.LoadUint64", "sync/atomic.StoreUint64", "internal/synctest.Disassociate[sync.WaitGroup]", "sync.runtime_Semrelease", "(*sync.WaitGroup).Done", "(*sync.WaitGroup).Wait", "internal/race.Acquire", "internal/synctest.IsAssociated[sync.WaitGroup]", "sync/atomic.CompareAndSwapUint64", "internal/race.Write", "sync.runtime_SemacquireWaitGroup"], unfollowed := true, recurses := true, plainKeys := false, leaving := true, apart := false }
def FnExactTakePairSaid : Prop := fnExactTakePairRow.holds Try.pinned (OpenSpec.ofChange fnExactTakePairSpec)

/-- ITS FALSE NEIGHBOUR: 'it returns false'. Refute it at one input. -/
def fnExactTakePairWrong : ChangeSpec := { name := "fnExactTakePair", fn := fun _ => fun
  | [d1, d2] => { results := [.lit (.bool false)], args := [d1, d2] }
  | _ => none }
def FnExactTakePairWrongFalsely : Prop := fnExactTakePairRow.holds Try.pinned (OpenSpec.ofChange fnExactTakePairWrong)

/-- 'laws.FnExactArrowSwitch': WHATEVER THE INPUT: true; the input reads as it did. -/
def fnExactArrowSwitchSpec : ChangeSpec := { name := "fnExactArrowSwitch", fn := fun _ => fun
  | [d1, d2] => { results := [.lit (.bool true)], args := [d1, d2] }
  | _ => none }
def fnExactArrowSwitchRow : OpenClaim := { program := "ytdgaabkgfbihpaa", sum := "80b82907b2d1d5a5788c5806dd686626d68c39d1566bb05dd29bb8a20a3498ea", func := "loop.example/g01379/laws.FnExactArrowSwitch", spec := "fnExactArrowSwitch", inPlace := ["(*sync.WaitGroup).Add", "internal/race.ReleaseMerge", "internal/race.Disable", "internal/race.Enable", "internal/synctest.IsInBubble", "internal/synctest.Associate[sync.WaitGroup]", "sync.fatal", "sync/atomic.OrUint64", "sync/atomic.AddUint64", "internal/race.Read", "sync/atomic.LoadUint64", "sync/atomic.StoreUint64", "internal/synctest.Disassociate[sync.WaitGroup]", "sync.runtime_Semrelease", "(*sync.WaitGroup).Done", "(*sync.WaitGroup).Wait", "internal/race.Acquire", "internal/synctest.IsAssociated[sync.WaitGroup]", "sync/atomic.CompareAndSwapUint64", "internal/race.Write", "sync.runtime_SemacquireWaitGroup"], unfollowed := true, recurses := true, plainKeys := false, leaving := true, apart := false }
def FnExactArrowSwitchSaid : Prop := fnExactArrowSwitchRow.holds Try.pinned (OpenSpec.ofChange fnExactArrowSwitchSpec)

/-- ITS FALSE NEIGHBOUR: 'it returns false'. Refute it at one input. -/
def fnExactArrowSwitchWrong : ChangeSpec := { name := "fnExactArrowSwitch", fn := fun _ => fun
  | [d1, d2] => { results := [.lit (.bool false)], args := [d1, d2] }
  | _ => none }
def FnExactArrowSwitchWrongFalsely : Prop := fnExactArrowSwitchRow.holds Try.pinned (OpenSpec.ofChange fnExactArrowSwitchWrong)

/-- 'laws.FnExactScheduleOfMovement': WHATEVER THE INPUT: true; the input reads as it did. -/
def fnExactScheduleOfMovementSpec : ChangeSpec := { name := "fnExactScheduleOfMovement", fn := fun _ => fun
  | [d] => { results := [.lit (.bool true)], args := [d] }
  | _ => none }
def fnExactScheduleOfMovementRow : OpenClaim := { program := "ytdgaabkgfbihpaa", sum := "80b82907b2d1d5a5788c5806dd686626d68c39d1566bb05dd29bb8a20a3498ea", func := "loop.example/g01379/laws.FnExactScheduleOfMovement", spec := "fnExactScheduleOfMovement", inPlace := ["(*sync.WaitGroup).Add", "internal/race.ReleaseMerge", "internal/race.Disable", "internal/race.Enable", "internal/synctest.IsInBubble", "internal/synctest.Associate[sync.WaitGroup]", "sync.fatal", "sync/atomic.OrUint64", "sync/atomic.AddUint64", "internal/race.Read", "sync/atomic.LoadUint64", "sync/atomic.StoreUint64", "internal/synctest.Disassociate[sync.WaitGroup]", "sync.runtime_Semrelease", "(*sync.WaitGroup).Done", "(*sync.WaitGroup).Wait", "internal/race.Acquire", "internal/synctest.IsAssociated[sync.WaitGroup]", "sync/atomic.CompareAndSwapUint64", "internal/race.Write", "sync.runtime_SemacquireWaitGroup"], unfollowed := true, recurses := true, plainKeys := false, leaving := true, apart := false }
def FnExactScheduleOfMovementSaid : Prop := fnExactScheduleOfMovementRow.holds Try.pinned (OpenSpec.ofChange fnExactScheduleOfMovementSpec)

/-- ITS FALSE NEIGHBOUR: 'it returns false'. Refute it at one input. -/
def fnExactScheduleOfMovementWrong : ChangeSpec := { name := "fnExactScheduleOfMovement", fn := fun _ => fun
  | [d] => { results := [.lit (.bool false)], args := [d] }
  | _ => none }
def FnExactScheduleOfMovementWrongFalsely : Prop := fnExactScheduleOfMovementRow.holds Try.pinned (OpenSpec.ofChange fnExactScheduleOfMovementWrong)

/- THE SECOND FORM. 'bulk': how many values and letters a reading holds, each counted each time it is reached (what is shared counts as often as it is met; a slice's spare places count too). A statement '..UptoSaid' is the law's where the arguments, and the package variables that the reading takes, are together of bulk at most 1048576: NARROWER than '..Said'. Prove '..Said' where nothing that the law and all that it calls make is longer than what came in: it says more and counts as full. Else prove '..UptoSaid'. A law counts once. -/
mutual
def uptoBulk {H : Type} : DataW H → Nat
  | .lit (.string bytes) => bytes.length + 1
  | .lit _ => 1
  | .nil => 1
  | .ptr d => uptoBulk d + 1
  | .slice elems spare => uptoBulkAll elems + uptoBulkAll spare + 1
  | .agg parts => uptoBulkAll parts + 1
  | .iface _ d => uptoBulk d + 1
  | .map entries => uptoBulkEntries entries + 1
  | .held _ => 1
def uptoBulkAll {H : Type} : List (DataW H) → Nat
  | [] => 0
  | d :: r => uptoBulk d + uptoBulkAll r
def uptoBulkEntries {H : Type} : List (Lit × DataW H) → Nat
  | [] => 0
  | x :: r => uptoBulkEntry x + uptoBulkEntries r
def uptoBulkEntry {H : Type} : Lit × DataW H → Nat
  | (.string bytes, d) => bytes.length + uptoBulk d + 1
  | (_, d) => uptoBulk d + 1
 end
def uptoSmall : (H : Type) → List (DataW H) → Bool := fun _ ds => decide (uptoBulkAll ds ≤ 1048576)
def OpenSpec.upto (s : _root_.Go.ChangeSpec) : _root_.Go.OpenSpec := { _root_.Go.OpenSpec.ofChange s with cond := some uptoSmall }

/-- 'laws.FnVenues', WHERE WHAT IT READS IS OF BULK AT MOST 1048576: true; the input reads as it did. -/
def fnVenuesUptoRow : OpenClaim := { program := "ytdgaabkgfbihpaa", sum := "80b82907b2d1d5a5788c5806dd686626d68c39d1566bb05dd29bb8a20a3498ea", func := "loop.example/g01379/laws.FnVenues", spec := "fnVenues", unfollowed := true, recurses := true, plainKeys := false, leaving := true, apart := false, narrowed := true }
def FnVenuesUptoSaid : Prop := fnVenuesUptoRow.holds Try.pinned (OpenSpec.upto fnVenuesSpec)

/-- 'laws.FnComponents', WHERE WHAT IT READS IS OF BULK AT MOST 1048576: true; the input reads as it did. -/
def fnComponentsUptoRow : OpenClaim := { program := "ytdgaabkgfbihpaa", sum := "80b82907b2d1d5a5788c5806dd686626d68c39d1566bb05dd29bb8a20a3498ea", func := "loop.example/g01379/laws.FnComponents", spec := "fnComponents", unfollowed := true, recurses := true, plainKeys := false, leaving := true, apart := false, narrowed := true }
def FnComponentsUptoSaid : Prop := fnComponentsUptoRow.holds Try.pinned (OpenSpec.upto fnComponentsSpec)

/-- 'laws.FnWhist', WHERE WHAT IT READS IS OF BULK AT MOST 1048576: true; the input reads as it did. -/
def fnWhistUptoRow : OpenClaim := { program := "ytdgaabkgfbihpaa", sum := "80b82907b2d1d5a5788c5806dd686626d68c39d1566bb05dd29bb8a20a3498ea", func := "loop.example/g01379/laws.FnWhist", spec := "fnWhist", unfollowed := true, recurses := true, plainKeys := false, leaving := true, apart := false, narrowed := true }
def FnWhistUptoSaid : Prop := fnWhistUptoRow.holds Try.pinned (OpenSpec.upto fnWhistSpec)

/-- 'laws.FnExactCompleteSchedule', WHERE WHAT IT READS IS OF BULK AT MOST 1048576: true; the input reads as it did. -/
def fnExactCompleteScheduleUptoRow : OpenClaim := { program := "ytdgaabkgfbihpaa", sum := "80b82907b2d1d5a5788c5806dd686626d68c39d1566bb05dd29bb8a20a3498ea", func := "loop.example/g01379/laws.FnExactCompleteSchedule", spec := "fnExactCompleteSchedule", unfollowed := true, recurses := true, plainKeys := false, leaving := true, apart := false, narrowed := true }
def FnExactCompleteScheduleUptoSaid : Prop := fnExactCompleteScheduleUptoRow.holds Try.pinned (OpenSpec.upto fnExactCompleteScheduleSpec)

/-- 'laws.FnExactFewestBreaks', WHERE WHAT IT READS IS OF BULK AT MOST 1048576: true; the input reads as it did. -/
def fnExactFewestBreaksUptoRow : OpenClaim := { program := "ytdgaabkgfbihpaa", sum := "80b82907b2d1d5a5788c5806dd686626d68c39d1566bb05dd29bb8a20a3498ea", func := "loop.example/g01379/laws.FnExactFewestBreaks", spec := "fnExactFewestBreaks", unfollowed := true, recurses := true, plainKeys := false, leaving := true, apart := false, narrowed := true }
def FnExactFewestBreaksUptoSaid : Prop := fnExactFewestBreaksUptoRow.holds Try.pinned (OpenSpec.upto fnExactFewestBreaksSpec)

/-- 'laws.FnExactIsMovement', WHERE WHAT IT READS IS OF BULK AT MOST 1048576: true; the input reads as it did. -/
def fnExactIsMovementUptoRow : OpenClaim := { program := "ytdgaabkgfbihpaa", sum := "80b82907b2d1d5a5788c5806dd686626d68c39d1566bb05dd29bb8a20a3498ea", func := "loop.example/g01379/laws.FnExactIsMovement", spec := "fnExactIsMovement", inPlace := ["(*sync.WaitGroup).Add", "internal/race.ReleaseMerge", "internal/race.Disable", "internal/race.Enable", "internal/synctest.IsInBubble", "internal/synctest.Associate[sync.WaitGroup]", "sync.fatal", "sync/atomic.OrUint64", "sync/atomic.AddUint64", "internal/race.Read", "sync/atomic.LoadUint64", "sync/atomic.StoreUint64", "internal/synctest.Disassociate[sync.WaitGroup]", "sync.runtime_Semrelease", "(*sync.WaitGroup).Done", "(*sync.WaitGroup).Wait", "internal/race.Acquire", "internal/synctest.IsAssociated[sync.WaitGroup]", "sync/atomic.CompareAndSwapUint64", "internal/race.Write", "sync.runtime_SemacquireWaitGroup"], unfollowed := true, recurses := true, plainKeys := false, leaving := true, apart := false, narrowed := true }
def FnExactIsMovementUptoSaid : Prop := fnExactIsMovementUptoRow.holds Try.pinned (OpenSpec.upto fnExactIsMovementSpec)

/-- 'laws.FnExactMitchellOf', WHERE WHAT IT READS IS OF BULK AT MOST 1048576: true; the input reads as it did. -/
def fnExactMitchellOfUptoRow : OpenClaim := { program := "ytdgaabkgfbihpaa", sum := "80b82907b2d1d5a5788c5806dd686626d68c39d1566bb05dd29bb8a20a3498ea", func := "loop.example/g01379/laws.FnExactMitchellOf", spec := "fnExactMitchellOf", unfollowed := true, recurses := true, plainKeys := false, leaving := true, apart := false, narrowed := true }
def FnExactMitchellOfUptoSaid : Prop := fnExactMitchellOfUptoRow.holds Try.pinned (OpenSpec.upto fnExactMitchellOfSpec)

/-- 'laws.FnExactBoardsOf', WHERE WHAT IT READS IS OF BULK AT MOST 1048576: true; the input reads as it did. -/
def fnExactBoardsOfUptoRow : OpenClaim := { program := "ytdgaabkgfbihpaa", sum := "80b82907b2d1d5a5788c5806dd686626d68c39d1566bb05dd29bb8a20a3498ea", func := "loop.example/g01379/laws.FnExactBoardsOf", spec := "fnExactBoardsOf", inPlace := ["(*sync.WaitGroup).Add", "internal/race.ReleaseMerge", "internal/race.Disable", "internal/race.Enable", "internal/synctest.IsInBubble", "internal/synctest.Associate[sync.WaitGroup]", "sync.fatal", "sync/atomic.OrUint64", "sync/atomic.AddUint64", "internal/race.Read", "sync/atomic.LoadUint64", "sync/atomic.StoreUint64", "internal/synctest.Disassociate[sync.WaitGroup]", "sync.runtime_Semrelease", "(*sync.WaitGroup).Done", "(*sync.WaitGroup).Wait", "internal/race.Acquire", "internal/synctest.IsAssociated[sync.WaitGroup]", "sync/atomic.CompareAndSwapUint64", "internal/race.Write", "sync.runtime_SemacquireWaitGroup"], unfollowed := true, recurses := true, plainKeys := false, leaving := true, apart := false, narrowed := true }
def FnExactBoardsOfUptoSaid : Prop := fnExactBoardsOfUptoRow.holds Try.pinned (OpenSpec.upto fnExactBoardsOfSpec)

/-- 'laws.FnExactOpponentsAt', WHERE WHAT IT READS IS OF BULK AT MOST 1048576: true; the input reads as it did. -/
def fnExactOpponentsAtUptoRow : OpenClaim := { program := "ytdgaabkgfbihpaa", sum := "80b82907b2d1d5a5788c5806dd686626d68c39d1566bb05dd29bb8a20a3498ea", func := "loop.example/g01379/laws.FnExactOpponentsAt", spec := "fnExactOpponentsAt", inPlace := ["(*sync.WaitGroup).Add", "internal/race.ReleaseMerge", "internal/race.Disable", "internal/race.Enable", "internal/synctest.IsInBubble", "internal/synctest.Associate[sync.WaitGroup]", "sync.fatal", "sync/atomic.OrUint64", "sync/atomic.AddUint64", "internal/race.Read", "sync/atomic.LoadUint64", "sync/atomic.StoreUint64", "internal/synctest.Disassociate[sync.WaitGroup]", "sync.runtime_Semrelease", "(*sync.WaitGroup).Done", "(*sync.WaitGroup).Wait", "internal/race.Acquire", "internal/synctest.IsAssociated[sync.WaitGroup]", "sync/atomic.CompareAndSwapUint64", "internal/race.Write", "sync.runtime_SemacquireWaitGroup"], unfollowed := true, recurses := true, plainKeys := false, leaving := true, apart := false, narrowed := true }
def FnExactOpponentsAtUptoSaid : Prop := fnExactOpponentsAtUptoRow.holds Try.pinned (OpenSpec.upto fnExactOpponentsAtSpec)

/-- 'laws.FnExactSitOuts', WHERE WHAT IT READS IS OF BULK AT MOST 1048576: true; the input reads as it did. -/
def fnExactSitOutsUptoRow : OpenClaim := { program := "ytdgaabkgfbihpaa", sum := "80b82907b2d1d5a5788c5806dd686626d68c39d1566bb05dd29bb8a20a3498ea", func := "loop.example/g01379/laws.FnExactSitOuts", spec := "fnExactSitOuts", inPlace := ["(*sync.WaitGroup).Add", "internal/race.ReleaseMerge", "internal/race.Disable", "internal/race.Enable", "internal/synctest.IsInBubble", "internal/synctest.Associate[sync.WaitGroup]", "sync.fatal", "sync/atomic.OrUint64", "sync/atomic.AddUint64", "internal/race.Read", "sync/atomic.LoadUint64", "sync/atomic.StoreUint64", "internal/synctest.Disassociate[sync.WaitGroup]", "sync.runtime_Semrelease", "(*sync.WaitGroup).Done", "(*sync.WaitGroup).Wait", "internal/race.Acquire", "internal/synctest.IsAssociated[sync.WaitGroup]", "sync/atomic.CompareAndSwapUint64", "internal/race.Write", "sync.runtime_SemacquireWaitGroup"], unfollowed := true, recurses := true, plainKeys := false, leaving := true, apart := false, narrowed := true }
def FnExactSitOutsUptoSaid : Prop := fnExactSitOutsUptoRow.holds Try.pinned (OpenSpec.upto fnExactSitOutsSpec)

/-- 'laws.FnExactIsFair', WHERE WHAT IT READS IS OF BULK AT MOST 1048576: true; the input reads as it did. -/
def fnExactIsFairUptoRow : OpenClaim := { program := "ytdgaabkgfbihpaa", sum := "80b82907b2d1d5a5788c5806dd686626d68c39d1566bb05dd29bb8a20a3498ea", func := "loop.example/g01379/laws.FnExactIsFair", spec := "fnExactIsFair", inPlace := ["(*sync.WaitGroup).Add", "internal/race.ReleaseMerge", "internal/race.Disable", "internal/race.Enable", "internal/synctest.IsInBubble", "internal/synctest.Associate[sync.WaitGroup]", "sync.fatal", "sync/atomic.OrUint64", "sync/atomic.AddUint64", "internal/race.Read", "sync/atomic.LoadUint64", "sync/atomic.StoreUint64", "internal/synctest.Disassociate[sync.WaitGroup]", "sync.runtime_Semrelease", "(*sync.WaitGroup).Done", "(*sync.WaitGroup).Wait", "internal/race.Acquire", "internal/synctest.IsAssociated[sync.WaitGroup]", "sync/atomic.CompareAndSwapUint64", "internal/race.Write", "sync.runtime_SemacquireWaitGroup"], unfollowed := true, recurses := true, plainKeys := false, leaving := true, apart := false, narrowed := true }
def FnExactIsFairUptoSaid : Prop := fnExactIsFairUptoRow.holds Try.pinned (OpenSpec.upto fnExactIsFairSpec)

/-- 'laws.FnExactIsComplete', WHERE WHAT IT READS IS OF BULK AT MOST 1048576: true; the input reads as it did. -/
def fnExactIsCompleteUptoRow : OpenClaim := { program := "ytdgaabkgfbihpaa", sum := "80b82907b2d1d5a5788c5806dd686626d68c39d1566bb05dd29bb8a20a3498ea", func := "loop.example/g01379/laws.FnExactIsComplete", spec := "fnExactIsComplete", inPlace := ["(*sync.WaitGroup).Add", "internal/race.ReleaseMerge", "internal/race.Disable", "internal/race.Enable", "internal/synctest.IsInBubble", "internal/synctest.Associate[sync.WaitGroup]", "sync.fatal", "sync/atomic.OrUint64", "sync/atomic.AddUint64", "internal/race.Read", "sync/atomic.LoadUint64", "sync/atomic.StoreUint64", "internal/synctest.Disassociate[sync.WaitGroup]", "sync.runtime_Semrelease", "(*sync.WaitGroup).Done", "(*sync.WaitGroup).Wait", "internal/race.Acquire", "internal/synctest.IsAssociated[sync.WaitGroup]", "sync/atomic.CompareAndSwapUint64", "internal/race.Write", "sync.runtime_SemacquireWaitGroup"], unfollowed := true, recurses := true, plainKeys := false, leaving := true, apart := false, narrowed := true }
def FnExactIsCompleteUptoSaid : Prop := fnExactIsCompleteUptoRow.holds Try.pinned (OpenSpec.upto fnExactIsCompleteSpec)

/-- 'laws.FnExactPlaysOf', WHERE WHAT IT READS IS OF BULK AT MOST 1048576: true; the input reads as it did. -/
def fnExactPlaysOfUptoRow : OpenClaim := { program := "ytdgaabkgfbihpaa", sum := "80b82907b2d1d5a5788c5806dd686626d68c39d1566bb05dd29bb8a20a3498ea", func := "loop.example/g01379/laws.FnExactPlaysOf", spec := "fnExactPlaysOf", inPlace := ["(*sync.WaitGroup).Add", "internal/race.ReleaseMerge", "internal/race.Disable", "internal/race.Enable", "internal/synctest.IsInBubble", "internal/synctest.Associate[sync.WaitGroup]", "sync.fatal", "sync/atomic.OrUint64", "sync/atomic.AddUint64", "internal/race.Read", "sync/atomic.LoadUint64", "sync/atomic.StoreUint64", "internal/synctest.Disassociate[sync.WaitGroup]", "sync.runtime_Semrelease", "(*sync.WaitGroup).Done", "(*sync.WaitGroup).Wait", "internal/race.Acquire", "internal/synctest.IsAssociated[sync.WaitGroup]", "sync/atomic.CompareAndSwapUint64", "internal/race.Write", "sync.runtime_SemacquireWaitGroup"], unfollowed := true, recurses := true, plainKeys := false, leaving := true, apart := false, narrowed := true }
def FnExactPlaysOfUptoSaid : Prop := fnExactPlaysOfUptoRow.holds Try.pinned (OpenSpec.upto fnExactPlaysOfSpec)

/-- 'laws.FnExactComparisonsOf', WHERE WHAT IT READS IS OF BULK AT MOST 1048576: true; the input reads as it did. -/
def fnExactComparisonsOfUptoRow : OpenClaim := { program := "ytdgaabkgfbihpaa", sum := "80b82907b2d1d5a5788c5806dd686626d68c39d1566bb05dd29bb8a20a3498ea", func := "loop.example/g01379/laws.FnExactComparisonsOf", spec := "fnExactComparisonsOf", inPlace := ["(*sync.WaitGroup).Add", "internal/race.ReleaseMerge", "internal/race.Disable", "internal/race.Enable", "internal/synctest.IsInBubble", "internal/synctest.Associate[sync.WaitGroup]", "sync.fatal", "sync/atomic.OrUint64", "sync/atomic.AddUint64", "internal/race.Read", "sync/atomic.LoadUint64", "sync/atomic.StoreUint64", "internal/synctest.Disassociate[sync.WaitGroup]", "sync.runtime_Semrelease", "(*sync.WaitGroup).Done", "(*sync.WaitGroup).Wait", "internal/race.Acquire", "internal/synctest.IsAssociated[sync.WaitGroup]", "sync/atomic.CompareAndSwapUint64", "internal/race.Write", "sync.runtime_SemacquireWaitGroup"], unfollowed := true, recurses := true, plainKeys := false, leaving := true, apart := false, narrowed := true }
def FnExactComparisonsOfUptoSaid : Prop := fnExactComparisonsOfUptoRow.holds Try.pinned (OpenSpec.upto fnExactComparisonsOfSpec)

/-- 'laws.FnExactTakePair', WHERE WHAT IT READS IS OF BULK AT MOST 1048576: true; the input reads as it did. -/
def fnExactTakePairUptoRow : OpenClaim := { program := "ytdgaabkgfbihpaa", sum := "80b82907b2d1d5a5788c5806dd686626d68c39d1566bb05dd29bb8a20a3498ea", func := "loop.example/g01379/laws.FnExactTakePair", spec := "fnExactTakePair", inPlace := ["(*sync.WaitGroup).Add", "internal/race.ReleaseMerge", "internal/race.Disable", "internal/race.Enable", "internal/synctest.IsInBubble", "internal/synctest.Associate[sync.WaitGroup]", "sync.fatal", "sync/atomic.OrUint64", "sync/atomic.AddUint64", "internal/race.Read", "sync/atomic.LoadUint64", "sync/atomic.StoreUint64", "internal/synctest.Disassociate[sync.WaitGroup]", "sync.runtime_Semrelease", "(*sync.WaitGroup).Done", "(*sync.WaitGroup).Wait", "internal/race.Acquire", "internal/synctest.IsAssociated[sync.WaitGroup]", "sync/atomic.CompareAndSwapUint64", "internal/race.Write", "sync.runtime_SemacquireWaitGroup"], unfollowed := true, recurses := true, plainKeys := false, leaving := true, apart := false, narrowed := true }
def FnExactTakePairUptoSaid : Prop := fnExactTakePairUptoRow.holds Try.pinned (OpenSpec.upto fnExactTakePairSpec)

/-- 'laws.FnExactArrowSwitch', WHERE WHAT IT READS IS OF BULK AT MOST 1048576: true; the input reads as it did. -/
def fnExactArrowSwitchUptoRow : OpenClaim := { program := "ytdgaabkgfbihpaa", sum := "80b82907b2d1d5a5788c5806dd686626d68c39d1566bb05dd29bb8a20a3498ea", func := "loop.example/g01379/laws.FnExactArrowSwitch", spec := "fnExactArrowSwitch", inPlace := ["(*sync.WaitGroup).Add", "internal/race.ReleaseMerge", "internal/race.Disable", "internal/race.Enable", "internal/synctest.IsInBubble", "internal/synctest.Associate[sync.WaitGroup]", "sync.fatal", "sync/atomic.OrUint64", "sync/atomic.AddUint64", "internal/race.Read", "sync/atomic.LoadUint64", "sync/atomic.StoreUint64", "internal/synctest.Disassociate[sync.WaitGroup]", "sync.runtime_Semrelease", "(*sync.WaitGroup).Done", "(*sync.WaitGroup).Wait", "internal/race.Acquire", "internal/synctest.IsAssociated[sync.WaitGroup]", "sync/atomic.CompareAndSwapUint64", "internal/race.Write", "sync.runtime_SemacquireWaitGroup"], unfollowed := true, recurses := true, plainKeys := false, leaving := true, apart := false, narrowed := true }
def FnExactArrowSwitchUptoSaid : Prop := fnExactArrowSwitchUptoRow.holds Try.pinned (OpenSpec.upto fnExactArrowSwitchSpec)

/-- 'laws.FnExactScheduleOfMovement', WHERE WHAT IT READS IS OF BULK AT MOST 1048576: true; the input reads as it did. -/
def fnExactScheduleOfMovementUptoRow : OpenClaim := { program := "ytdgaabkgfbihpaa", sum := "80b82907b2d1d5a5788c5806dd686626d68c39d1566bb05dd29bb8a20a3498ea", func := "loop.example/g01379/laws.FnExactScheduleOfMovement", spec := "fnExactScheduleOfMovement", inPlace := ["(*sync.WaitGroup).Add", "internal/race.ReleaseMerge", "internal/race.Disable", "internal/race.Enable", "internal/synctest.IsInBubble", "internal/synctest.Associate[sync.WaitGroup]", "sync.fatal", "sync/atomic.OrUint64", "sync/atomic.AddUint64", "internal/race.Read", "sync/atomic.LoadUint64", "sync/atomic.StoreUint64", "internal/synctest.Disassociate[sync.WaitGroup]", "sync.runtime_Semrelease", "(*sync.WaitGroup).Done", "(*sync.WaitGroup).Wait", "internal/race.Acquire", "internal/synctest.IsAssociated[sync.WaitGroup]", "sync/atomic.CompareAndSwapUint64", "internal/race.Write", "sync.runtime_SemacquireWaitGroup"], unfollowed := true, recurses := true, plainKeys := false, leaving := true, apart := false, narrowed := true }
def FnExactScheduleOfMovementUptoSaid : Prop := fnExactScheduleOfMovementUptoRow.holds Try.pinned (OpenSpec.upto fnExactScheduleOfMovementSpec)

end Rows
end Go.Proofs.Ytdgaabkgfbihpaa
