/-
  No cell of these rows narrows 'for every input' (looked for: loops, veiled, ifaces, maps, wideKeys, modest, calm, conditions, laid).
  DERIVED. THE GIVEN ROWS OF THIS SEAT. 20 by the template 'for every input the law returns true; each argument reads behind the call as it read before'; 0 by the template 'total and deterministic' (their statements: YtjbhmdhebmkgkaaTotals.lean).
  GIVEN WITH THE SEED: the statements are not yours to turn. If you find one false, say at which input.
  Laid BY PROGRAM, IN A SANDBOX (cutbox-rows.mjs): the forced cells as the released guide's own fill.sh prints them over the translation ccdfec675f78972c… (all of the seat's roots in one cut). By AI agents, Wed Nov 11 2026. No macro, syntax, notation, axiom, sorry.
-/
import Derived.Test.YtjbhmdhebmkgkaaChecked
import GoSem.Claim
import GoSem.ClaimJoined
import GoSem.ClaimMapViews
import Derived.JoinedTies
import Derived.KernelRfl
namespace Go.Proofs.Ytjbhmdhebmkgkaa
/- THE CELL 'sum', in the pinned program and in every row, IS THE sha256 OF THE DUMP (.gsa) THAT YtjbhmdhebmkgkaaProg.lean LOADS. Nothing in Lean hashes anything: it is a label: what it is worth is what the hold of that sum in a sandbox is worth. -/
noncomputable def Try.pinned : Pinned := { name := "ytjbhmdhebmkgkaa", sum := "ccdfec675f78972c29490b3b4546dda4f8d786307c7110172275a8ea16ab481f", checked := Try.checked }
namespace Rows
def none {H : Type} : Left H := { results := [], args := [] }

/-- 'laws.FnExactIsEvening': WHATEVER THE INPUT: true; the input reads as it did. -/
def fnExactIsEveningSpec : ChangeSpec := { name := "fnExactIsEvening", fn := fun _ => fun
  | [d] => { results := [.lit (.bool true)], args := [d] }
  | _ => none }
def fnExactIsEveningRow : OpenClaim := { program := "ytjbhmdhebmkgkaa", sum := "ccdfec675f78972c29490b3b4546dda4f8d786307c7110172275a8ea16ab481f", func := "loop.example/g01379/laws.FnExactIsEvening", spec := "fnExactIsEvening", plainKeys := false, apart := false }
def FnExactIsEveningSaid : Prop := fnExactIsEveningRow.holds Try.pinned (OpenSpec.ofChange fnExactIsEveningSpec)

/-- ITS FALSE NEIGHBOUR: 'it returns false'. Refute it at one input. -/
def fnExactIsEveningWrong : ChangeSpec := { name := "fnExactIsEvening", fn := fun _ => fun
  | [d] => { results := [.lit (.bool false)], args := [d] }
  | _ => none }
def FnExactIsEveningWrongFalsely : Prop := fnExactIsEveningRow.holds Try.pinned (OpenSpec.ofChange fnExactIsEveningWrong)

/-- 'laws.FnExactPartnersOf': WHATEVER THE INPUT: true; the input reads as it did. -/
def fnExactPartnersOfSpec : ChangeSpec := { name := "fnExactPartnersOf", fn := fun _ => fun
  | [d] => { results := [.lit (.bool true)], args := [d] }
  | _ => none }
def fnExactPartnersOfRow : OpenClaim := { program := "ytjbhmdhebmkgkaa", sum := "ccdfec675f78972c29490b3b4546dda4f8d786307c7110172275a8ea16ab481f", func := "loop.example/g01379/laws.FnExactPartnersOf", spec := "fnExactPartnersOf", unfollowed := true, recurses := true, plainKeys := false, leaving := true, apart := false }
def FnExactPartnersOfSaid : Prop := fnExactPartnersOfRow.holds Try.pinned (OpenSpec.ofChange fnExactPartnersOfSpec)

/-- ITS FALSE NEIGHBOUR: 'it returns false'. Refute it at one input. -/
def fnExactPartnersOfWrong : ChangeSpec := { name := "fnExactPartnersOf", fn := fun _ => fun
  | [d] => { results := [.lit (.bool false)], args := [d] }
  | _ => none }
def FnExactPartnersOfWrongFalsely : Prop := fnExactPartnersOfRow.holds Try.pinned (OpenSpec.ofChange fnExactPartnersOfWrong)

/-- 'laws.FnExactOpponentsIn': WHATEVER THE INPUT: true; the input reads as it did. -/
def fnExactOpponentsInSpec : ChangeSpec := { name := "fnExactOpponentsIn", fn := fun _ => fun
  | [d1, d2] => { results := [.lit (.bool true)], args := [d1, d2] }
  | _ => none }
def fnExactOpponentsInRow : OpenClaim := { program := "ytjbhmdhebmkgkaa", sum := "ccdfec675f78972c29490b3b4546dda4f8d786307c7110172275a8ea16ab481f", func := "loop.example/g01379/laws.FnExactOpponentsIn", spec := "fnExactOpponentsIn", unfollowed := true, recurses := true, plainKeys := false, leaving := true, apart := false }
def FnExactOpponentsInSaid : Prop := fnExactOpponentsInRow.holds Try.pinned (OpenSpec.ofChange fnExactOpponentsInSpec)

/-- ITS FALSE NEIGHBOUR: 'it returns false'. Refute it at one input. -/
def fnExactOpponentsInWrong : ChangeSpec := { name := "fnExactOpponentsIn", fn := fun _ => fun
  | [d1, d2] => { results := [.lit (.bool false)], args := [d1, d2] }
  | _ => none }
def FnExactOpponentsInWrongFalsely : Prop := fnExactOpponentsInRow.holds Try.pinned (OpenSpec.ofChange fnExactOpponentsInWrong)

/-- 'laws.FnExactSittingOut': WHATEVER THE INPUT: true; the input reads as it did. -/
def fnExactSittingOutSpec : ChangeSpec := { name := "fnExactSittingOut", fn := fun _ => fun
  | [d1, d2] => { results := [.lit (.bool true)], args := [d1, d2] }
  | _ => none }
def fnExactSittingOutRow : OpenClaim := { program := "ytjbhmdhebmkgkaa", sum := "ccdfec675f78972c29490b3b4546dda4f8d786307c7110172275a8ea16ab481f", func := "loop.example/g01379/laws.FnExactSittingOut", spec := "fnExactSittingOut", plainKeys := false, apart := false }
def FnExactSittingOutSaid : Prop := fnExactSittingOutRow.holds Try.pinned (OpenSpec.ofChange fnExactSittingOutSpec)

/-- ITS FALSE NEIGHBOUR: 'it returns false'. Refute it at one input. -/
def fnExactSittingOutWrong : ChangeSpec := { name := "fnExactSittingOut", fn := fun _ => fun
  | [d1, d2] => { results := [.lit (.bool false)], args := [d1, d2] }
  | _ => none }
def FnExactSittingOutWrongFalsely : Prop := fnExactSittingOutRow.holds Try.pinned (OpenSpec.ofChange fnExactSittingOutWrong)

/-- 'laws.FnExactIsWhist': WHATEVER THE INPUT: true; the input reads as it did. -/
def fnExactIsWhistSpec : ChangeSpec := { name := "fnExactIsWhist", fn := fun _ => fun
  | [d] => { results := [.lit (.bool true)], args := [d] }
  | _ => none }
def fnExactIsWhistRow : OpenClaim := { program := "ytjbhmdhebmkgkaa", sum := "ccdfec675f78972c29490b3b4546dda4f8d786307c7110172275a8ea16ab481f", func := "loop.example/g01379/laws.FnExactIsWhist", spec := "fnExactIsWhist", unfollowed := true, recurses := true, plainKeys := false, leaving := true, apart := false }
def FnExactIsWhistSaid : Prop := fnExactIsWhistRow.holds Try.pinned (OpenSpec.ofChange fnExactIsWhistSpec)

/-- ITS FALSE NEIGHBOUR: 'it returns false'. Refute it at one input. -/
def fnExactIsWhistWrong : ChangeSpec := { name := "fnExactIsWhist", fn := fun _ => fun
  | [d] => { results := [.lit (.bool false)], args := [d] }
  | _ => none }
def FnExactIsWhistWrongFalsely : Prop := fnExactIsWhistRow.holds Try.pinned (OpenSpec.ofChange fnExactIsWhistWrong)

/-- 'laws.FnExactIsTriple': WHATEVER THE INPUT: true; the input reads as it did. -/
def fnExactIsTripleSpec : ChangeSpec := { name := "fnExactIsTriple", fn := fun _ => fun
  | [d] => { results := [.lit (.bool true)], args := [d] }
  | _ => none }
def fnExactIsTripleRow : OpenClaim := { program := "ytjbhmdhebmkgkaa", sum := "ccdfec675f78972c29490b3b4546dda4f8d786307c7110172275a8ea16ab481f", func := "loop.example/g01379/laws.FnExactIsTriple", spec := "fnExactIsTriple", unfollowed := true, recurses := true, plainKeys := false, leaving := true, apart := false }
def FnExactIsTripleSaid : Prop := fnExactIsTripleRow.holds Try.pinned (OpenSpec.ofChange fnExactIsTripleSpec)

/-- ITS FALSE NEIGHBOUR: 'it returns false'. Refute it at one input. -/
def fnExactIsTripleWrong : ChangeSpec := { name := "fnExactIsTriple", fn := fun _ => fun
  | [d] => { results := [.lit (.bool false)], args := [d] }
  | _ => none }
def FnExactIsTripleWrongFalsely : Prop := fnExactIsTripleRow.holds Try.pinned (OpenSpec.ofChange fnExactIsTripleWrong)

/-- 'laws.FnExactMadeFrom': WHATEVER THE INPUT: true; the input reads as it did. -/
def fnExactMadeFromSpec : ChangeSpec := { name := "fnExactMadeFrom", fn := fun _ => fun
  | [d1, d2] => { results := [.lit (.bool true)], args := [d1, d2] }
  | _ => none }
def fnExactMadeFromRow : OpenClaim := { program := "ytjbhmdhebmkgkaa", sum := "ccdfec675f78972c29490b3b4546dda4f8d786307c7110172275a8ea16ab481f", func := "loop.example/g01379/laws.FnExactMadeFrom", spec := "fnExactMadeFrom", plainKeys := false, apart := false }
def FnExactMadeFromSaid : Prop := fnExactMadeFromRow.holds Try.pinned (OpenSpec.ofChange fnExactMadeFromSpec)

/-- ITS FALSE NEIGHBOUR: 'it returns false'. Refute it at one input. -/
def fnExactMadeFromWrong : ChangeSpec := { name := "fnExactMadeFrom", fn := fun _ => fun
  | [d1, d2] => { results := [.lit (.bool false)], args := [d1, d2] }
  | _ => none }
def FnExactMadeFromWrongFalsely : Prop := fnExactMadeFromRow.holds Try.pinned (OpenSpec.ofChange fnExactMadeFromWrong)

/-- 'laws.FnExactFirstBase': WHATEVER THE INPUT: true; the input reads as it did. -/
def fnExactFirstBaseSpec : ChangeSpec := { name := "fnExactFirstBase", fn := fun _ => fun
  | [d] => { results := [.lit (.bool true)], args := [d] }
  | _ => none }
def fnExactFirstBaseRow : OpenClaim := { program := "ytjbhmdhebmkgkaa", sum := "ccdfec675f78972c29490b3b4546dda4f8d786307c7110172275a8ea16ab481f", func := "loop.example/g01379/laws.FnExactFirstBase", spec := "fnExactFirstBase", unfollowed := true, recurses := true, plainKeys := false, leaving := true, apart := false }
def FnExactFirstBaseSaid : Prop := fnExactFirstBaseRow.holds Try.pinned (OpenSpec.ofChange fnExactFirstBaseSpec)

/-- ITS FALSE NEIGHBOUR: 'it returns false'. Refute it at one input. -/
def fnExactFirstBaseWrong : ChangeSpec := { name := "fnExactFirstBase", fn := fun _ => fun
  | [d] => { results := [.lit (.bool false)], args := [d] }
  | _ => none }
def FnExactFirstBaseWrongFalsely : Prop := fnExactFirstBaseRow.holds Try.pinned (OpenSpec.ofChange fnExactFirstBaseWrong)

/-- 'laws.FnExactPartnerSchedule': WHATEVER THE INPUT: true; the input reads as it did. -/
def fnExactPartnerScheduleSpec : ChangeSpec := { name := "fnExactPartnerSchedule", fn := fun _ => fun
  | [d] => { results := [.lit (.bool true)], args := [d] }
  | _ => none }
def fnExactPartnerScheduleRow : OpenClaim := { program := "ytjbhmdhebmkgkaa", sum := "ccdfec675f78972c29490b3b4546dda4f8d786307c7110172275a8ea16ab481f", func := "loop.example/g01379/laws.FnExactPartnerSchedule", spec := "fnExactPartnerSchedule", unfollowed := true, recurses := true, plainKeys := false, leaving := true, apart := false }
def FnExactPartnerScheduleSaid : Prop := fnExactPartnerScheduleRow.holds Try.pinned (OpenSpec.ofChange fnExactPartnerScheduleSpec)

/-- ITS FALSE NEIGHBOUR: 'it returns false'. Refute it at one input. -/
def fnExactPartnerScheduleWrong : ChangeSpec := { name := "fnExactPartnerSchedule", fn := fun _ => fun
  | [d] => { results := [.lit (.bool false)], args := [d] }
  | _ => none }
def FnExactPartnerScheduleWrongFalsely : Prop := fnExactPartnerScheduleRow.holds Try.pinned (OpenSpec.ofChange fnExactPartnerScheduleWrong)

/-- 'laws.FnExactRenumberPlayers': WHATEVER THE INPUT: true; the input reads as it did. -/
def fnExactRenumberPlayersSpec : ChangeSpec := { name := "fnExactRenumberPlayers", fn := fun _ => fun
  | [d1, d2] => { results := [.lit (.bool true)], args := [d1, d2] }
  | _ => none }
def fnExactRenumberPlayersRow : OpenClaim := { program := "ytjbhmdhebmkgkaa", sum := "ccdfec675f78972c29490b3b4546dda4f8d786307c7110172275a8ea16ab481f", func := "loop.example/g01379/laws.FnExactRenumberPlayers", spec := "fnExactRenumberPlayers", plainKeys := false, apart := false }
def FnExactRenumberPlayersSaid : Prop := fnExactRenumberPlayersRow.holds Try.pinned (OpenSpec.ofChange fnExactRenumberPlayersSpec)

/-- ITS FALSE NEIGHBOUR: 'it returns false'. Refute it at one input. -/
def fnExactRenumberPlayersWrong : ChangeSpec := { name := "fnExactRenumberPlayers", fn := fun _ => fun
  | [d1, d2] => { results := [.lit (.bool false)], args := [d1, d2] }
  | _ => none }
def FnExactRenumberPlayersWrongFalsely : Prop := fnExactRenumberPlayersRow.holds Try.pinned (OpenSpec.ofChange fnExactRenumberPlayersWrong)

/-- 'laws.FnWhist': WHATEVER THE INPUT: true; the input reads as it did. -/
def fnWhistSpec : ChangeSpec := { name := "fnWhist", fn := fun _ => fun
  | [d] => { results := [.lit (.bool true)], args := [d] }
  | _ => none }
def fnWhistRow : OpenClaim := { program := "ytjbhmdhebmkgkaa", sum := "ccdfec675f78972c29490b3b4546dda4f8d786307c7110172275a8ea16ab481f", func := "loop.example/g01379/laws.FnWhist", spec := "fnWhist", unfollowed := true, recurses := true, plainKeys := false, leaving := true, apart := false }
def FnWhistSaid : Prop := fnWhistRow.holds Try.pinned (OpenSpec.ofChange fnWhistSpec)

/-- ITS FALSE NEIGHBOUR: 'it returns false'. Refute it at one input. -/
def fnWhistWrong : ChangeSpec := { name := "fnWhist", fn := fun _ => fun
  | [d] => { results := [.lit (.bool false)], args := [d] }
  | _ => none }
def FnWhistWrongFalsely : Prop := fnWhistRow.holds Try.pinned (OpenSpec.ofChange fnWhistWrong)

/-- 'laws.FnTables': WHATEVER THE INPUT: true; the input reads as it did. -/
def fnTablesSpec : ChangeSpec := { name := "fnTables", fn := fun _ => fun
  | [d] => { results := [.lit (.bool true)], args := [d] }
  | _ => none }
def fnTablesRow : OpenClaim := { program := "ytjbhmdhebmkgkaa", sum := "ccdfec675f78972c29490b3b4546dda4f8d786307c7110172275a8ea16ab481f", func := "loop.example/g01379/laws.FnTables", spec := "fnTables", unfollowed := true, recurses := true, plainKeys := false, leaving := true, apart := false }
def FnTablesSaid : Prop := fnTablesRow.holds Try.pinned (OpenSpec.ofChange fnTablesSpec)

/-- ITS FALSE NEIGHBOUR: 'it returns false'. Refute it at one input. -/
def fnTablesWrong : ChangeSpec := { name := "fnTables", fn := fun _ => fun
  | [d] => { results := [.lit (.bool false)], args := [d] }
  | _ => none }
def FnTablesWrongFalsely : Prop := fnTablesRow.holds Try.pinned (OpenSpec.ofChange fnTablesWrong)

/-- 'laws.FnComponents': WHATEVER THE INPUT: true; the input reads as it did. -/
def fnComponentsSpec : ChangeSpec := { name := "fnComponents", fn := fun _ => fun
  | [d] => { results := [.lit (.bool true)], args := [d] }
  | _ => none }
def fnComponentsRow : OpenClaim := { program := "ytjbhmdhebmkgkaa", sum := "ccdfec675f78972c29490b3b4546dda4f8d786307c7110172275a8ea16ab481f", func := "loop.example/g01379/laws.FnComponents", spec := "fnComponents", unfollowed := true, recurses := true, plainKeys := false, leaving := true, apart := false }
def FnComponentsSaid : Prop := fnComponentsRow.holds Try.pinned (OpenSpec.ofChange fnComponentsSpec)

/-- ITS FALSE NEIGHBOUR: 'it returns false'. Refute it at one input. -/
def fnComponentsWrong : ChangeSpec := { name := "fnComponents", fn := fun _ => fun
  | [d] => { results := [.lit (.bool false)], args := [d] }
  | _ => none }
def FnComponentsWrongFalsely : Prop := fnComponentsRow.holds Try.pinned (OpenSpec.ofChange fnComponentsWrong)

/-- 'laws.FnExactCompleteSchedule': WHATEVER THE INPUT: true; the input reads as it did. -/
def fnExactCompleteScheduleSpec : ChangeSpec := { name := "fnExactCompleteSchedule", fn := fun _ => fun
  | [d] => { results := [.lit (.bool true)], args := [d] }
  | _ => none }
def fnExactCompleteScheduleRow : OpenClaim := { program := "ytjbhmdhebmkgkaa", sum := "ccdfec675f78972c29490b3b4546dda4f8d786307c7110172275a8ea16ab481f", func := "loop.example/g01379/laws.FnExactCompleteSchedule", spec := "fnExactCompleteSchedule", unfollowed := true, recurses := true, plainKeys := false, leaving := true, apart := false }
def FnExactCompleteScheduleSaid : Prop := fnExactCompleteScheduleRow.holds Try.pinned (OpenSpec.ofChange fnExactCompleteScheduleSpec)

/-- ITS FALSE NEIGHBOUR: 'it returns false'. Refute it at one input. -/
def fnExactCompleteScheduleWrong : ChangeSpec := { name := "fnExactCompleteSchedule", fn := fun _ => fun
  | [d] => { results := [.lit (.bool false)], args := [d] }
  | _ => none }
def FnExactCompleteScheduleWrongFalsely : Prop := fnExactCompleteScheduleRow.holds Try.pinned (OpenSpec.ofChange fnExactCompleteScheduleWrong)

/-- 'laws.FnExactCountRobins': WHATEVER THE INPUT: true; the input reads as it did. -/
def fnExactCountRobinsSpec : ChangeSpec := { name := "fnExactCountRobins", fn := fun _ => fun
  | [d] => { results := [.lit (.bool true)], args := [d] }
  | _ => none }
def fnExactCountRobinsRow : OpenClaim := { program := "ytjbhmdhebmkgkaa", sum := "ccdfec675f78972c29490b3b4546dda4f8d786307c7110172275a8ea16ab481f", func := "loop.example/g01379/laws.FnExactCountRobins", spec := "fnExactCountRobins", unfollowed := true, recurses := true, plainKeys := false, leaving := true, apart := false }
def FnExactCountRobinsSaid : Prop := fnExactCountRobinsRow.holds Try.pinned (OpenSpec.ofChange fnExactCountRobinsSpec)

/-- ITS FALSE NEIGHBOUR: 'it returns false'. Refute it at one input. -/
def fnExactCountRobinsWrong : ChangeSpec := { name := "fnExactCountRobins", fn := fun _ => fun
  | [d] => { results := [.lit (.bool false)], args := [d] }
  | _ => none }
def FnExactCountRobinsWrongFalsely : Prop := fnExactCountRobinsRow.holds Try.pinned (OpenSpec.ofChange fnExactCountRobinsWrong)

/-- 'laws.FnExactFewestBreaks': WHATEVER THE INPUT: true; the input reads as it did. -/
def fnExactFewestBreaksSpec : ChangeSpec := { name := "fnExactFewestBreaks", fn := fun _ => fun
  | [d] => { results := [.lit (.bool true)], args := [d] }
  | _ => none }
def fnExactFewestBreaksRow : OpenClaim := { program := "ytjbhmdhebmkgkaa", sum := "ccdfec675f78972c29490b3b4546dda4f8d786307c7110172275a8ea16ab481f", func := "loop.example/g01379/laws.FnExactFewestBreaks", spec := "fnExactFewestBreaks", unfollowed := true, recurses := true, plainKeys := false, leaving := true, apart := false }
def FnExactFewestBreaksSaid : Prop := fnExactFewestBreaksRow.holds Try.pinned (OpenSpec.ofChange fnExactFewestBreaksSpec)

/-- ITS FALSE NEIGHBOUR: 'it returns false'. Refute it at one input. -/
def fnExactFewestBreaksWrong : ChangeSpec := { name := "fnExactFewestBreaks", fn := fun _ => fun
  | [d] => { results := [.lit (.bool false)], args := [d] }
  | _ => none }
def FnExactFewestBreaksWrongFalsely : Prop := fnExactFewestBreaksRow.holds Try.pinned (OpenSpec.ofChange fnExactFewestBreaksWrong)

/-- 'laws.FnVenues': WHATEVER THE INPUT: true; the input reads as it did. -/
def fnVenuesSpec : ChangeSpec := { name := "fnVenues", fn := fun _ => fun
  | [d] => { results := [.lit (.bool true)], args := [d] }
  | _ => none }
def fnVenuesRow : OpenClaim := { program := "ytjbhmdhebmkgkaa", sum := "ccdfec675f78972c29490b3b4546dda4f8d786307c7110172275a8ea16ab481f", func := "loop.example/g01379/laws.FnVenues", spec := "fnVenues", unfollowed := true, recurses := true, plainKeys := false, leaving := true, apart := false }
def FnVenuesSaid : Prop := fnVenuesRow.holds Try.pinned (OpenSpec.ofChange fnVenuesSpec)

/-- ITS FALSE NEIGHBOUR: 'it returns false'. Refute it at one input. -/
def fnVenuesWrong : ChangeSpec := { name := "fnVenues", fn := fun _ => fun
  | [d] => { results := [.lit (.bool false)], args := [d] }
  | _ => none }
def FnVenuesWrongFalsely : Prop := fnVenuesRow.holds Try.pinned (OpenSpec.ofChange fnVenuesWrong)

/-- 'laws.FnExactCountStarters': WHATEVER THE INPUT: true; the input reads as it did. -/
def fnExactCountStartersSpec : ChangeSpec := { name := "fnExactCountStarters", fn := fun _ => fun
  | [d] => { results := [.lit (.bool true)], args := [d] }
  | _ => none }
def fnExactCountStartersRow : OpenClaim := { program := "ytjbhmdhebmkgkaa", sum := "ccdfec675f78972c29490b3b4546dda4f8d786307c7110172275a8ea16ab481f", func := "loop.example/g01379/laws.FnExactCountStarters", spec := "fnExactCountStarters", unfollowed := true, recurses := true, plainKeys := false, leaving := true, apart := false }
def FnExactCountStartersSaid : Prop := fnExactCountStartersRow.holds Try.pinned (OpenSpec.ofChange fnExactCountStartersSpec)

/-- ITS FALSE NEIGHBOUR: 'it returns false'. Refute it at one input. -/
def fnExactCountStartersWrong : ChangeSpec := { name := "fnExactCountStarters", fn := fun _ => fun
  | [d] => { results := [.lit (.bool false)], args := [d] }
  | _ => none }
def FnExactCountStartersWrongFalsely : Prop := fnExactCountStartersRow.holds Try.pinned (OpenSpec.ofChange fnExactCountStartersWrong)

/-- 'laws.FnExactStarterList': WHATEVER THE INPUT: true; the input reads as it did. -/
def fnExactStarterListSpec : ChangeSpec := { name := "fnExactStarterList", fn := fun _ => fun
  | [d] => { results := [.lit (.bool true)], args := [d] }
  | _ => none }
def fnExactStarterListRow : OpenClaim := { program := "ytjbhmdhebmkgkaa", sum := "ccdfec675f78972c29490b3b4546dda4f8d786307c7110172275a8ea16ab481f", func := "loop.example/g01379/laws.FnExactStarterList", spec := "fnExactStarterList", unfollowed := true, recurses := true, plainKeys := false, leaving := true, apart := false }
def FnExactStarterListSaid : Prop := fnExactStarterListRow.holds Try.pinned (OpenSpec.ofChange fnExactStarterListSpec)

/-- ITS FALSE NEIGHBOUR: 'it returns false'. Refute it at one input. -/
def fnExactStarterListWrong : ChangeSpec := { name := "fnExactStarterList", fn := fun _ => fun
  | [d] => { results := [.lit (.bool false)], args := [d] }
  | _ => none }
def FnExactStarterListWrongFalsely : Prop := fnExactStarterListRow.holds Try.pinned (OpenSpec.ofChange fnExactStarterListWrong)

/-- 'laws.FnExactFirstStrong': WHATEVER THE INPUT: true; the input reads as it did. -/
def fnExactFirstStrongSpec : ChangeSpec := { name := "fnExactFirstStrong", fn := fun _ => fun
  | [d] => { results := [.lit (.bool true)], args := [d] }
  | _ => none }
def fnExactFirstStrongRow : OpenClaim := { program := "ytjbhmdhebmkgkaa", sum := "ccdfec675f78972c29490b3b4546dda4f8d786307c7110172275a8ea16ab481f", func := "loop.example/g01379/laws.FnExactFirstStrong", spec := "fnExactFirstStrong", unfollowed := true, recurses := true, plainKeys := false, leaving := true, apart := false }
def FnExactFirstStrongSaid : Prop := fnExactFirstStrongRow.holds Try.pinned (OpenSpec.ofChange fnExactFirstStrongSpec)

/-- ITS FALSE NEIGHBOUR: 'it returns false'. Refute it at one input. -/
def fnExactFirstStrongWrong : ChangeSpec := { name := "fnExactFirstStrong", fn := fun _ => fun
  | [d] => { results := [.lit (.bool false)], args := [d] }
  | _ => none }
def FnExactFirstStrongWrongFalsely : Prop := fnExactFirstStrongRow.holds Try.pinned (OpenSpec.ofChange fnExactFirstStrongWrong)

/- THE SECOND FORM. 'bulk': how many values and letters a reading holds, each counted each time it is reached (what is shared counts as often as it is met; a slice's spare places count too). A statement '..UptoSaid' is the law's where the arguments, and the package variables that the reading takes, are together of bulk at most 1048576: NARROWER than '..Said'. Prove '..Said' where nothing that the law and all that it calls make is longer than what came in: it says more and counts as full. Else prove '..UptoSaid'. A law counts once. -/
mutual
def uptoBulk {H : Type} : DataW H → Nat
  | .lit (.string bytes) => bytes.length + 1
  | .lit _ => 1
  | .nil => 1
  | .ptr d => uptoBulk d + 1
  | .slice elems spare => uptoBulkAll elems + uptoBulkAll spare + 1
  | .agg parts => uptoBulkAll parts + 1
  | .iface _ d => uptoBulk d + 1
  | .map entries => uptoBulkEntries entries + 1
  | .held _ => 1
def uptoBulkAll {H : Type} : List (DataW H) → Nat
  | [] => 0
  | d :: r => uptoBulk d + uptoBulkAll r
def uptoBulkEntries {H : Type} : List (Lit × DataW H) → Nat
  | [] => 0
  | x :: r => uptoBulkEntry x + uptoBulkEntries r
def uptoBulkEntry {H : Type} : Lit × DataW H → Nat
  | (.string bytes, d) => bytes.length + uptoBulk d + 1
  | (_, d) => uptoBulk d + 1
 end
def uptoSmall : (H : Type) → List (DataW H) → Bool := fun _ ds => decide (uptoBulkAll ds ≤ 1048576)
def OpenSpec.upto (s : _root_.Go.ChangeSpec) : _root_.Go.OpenSpec := { _root_.Go.OpenSpec.ofChange s with cond := some uptoSmall }

/-- 'laws.FnExactIsEvening', WHERE WHAT IT READS IS OF BULK AT MOST 1048576: true; the input reads as it did. -/
def fnExactIsEveningUptoRow : OpenClaim := { program := "ytjbhmdhebmkgkaa", sum := "ccdfec675f78972c29490b3b4546dda4f8d786307c7110172275a8ea16ab481f", func := "loop.example/g01379/laws.FnExactIsEvening", spec := "fnExactIsEvening", plainKeys := false, apart := false, narrowed := true }
def FnExactIsEveningUptoSaid : Prop := fnExactIsEveningUptoRow.holds Try.pinned (OpenSpec.upto fnExactIsEveningSpec)

/-- 'laws.FnExactPartnersOf', WHERE WHAT IT READS IS OF BULK AT MOST 1048576: true; the input reads as it did. -/
def fnExactPartnersOfUptoRow : OpenClaim := { program := "ytjbhmdhebmkgkaa", sum := "ccdfec675f78972c29490b3b4546dda4f8d786307c7110172275a8ea16ab481f", func := "loop.example/g01379/laws.FnExactPartnersOf", spec := "fnExactPartnersOf", unfollowed := true, recurses := true, plainKeys := false, leaving := true, apart := false, narrowed := true }
def FnExactPartnersOfUptoSaid : Prop := fnExactPartnersOfUptoRow.holds Try.pinned (OpenSpec.upto fnExactPartnersOfSpec)

/-- 'laws.FnExactOpponentsIn', WHERE WHAT IT READS IS OF BULK AT MOST 1048576: true; the input reads as it did. -/
def fnExactOpponentsInUptoRow : OpenClaim := { program := "ytjbhmdhebmkgkaa", sum := "ccdfec675f78972c29490b3b4546dda4f8d786307c7110172275a8ea16ab481f", func := "loop.example/g01379/laws.FnExactOpponentsIn", spec := "fnExactOpponentsIn", unfollowed := true, recurses := true, plainKeys := false, leaving := true, apart := false, narrowed := true }
def FnExactOpponentsInUptoSaid : Prop := fnExactOpponentsInUptoRow.holds Try.pinned (OpenSpec.upto fnExactOpponentsInSpec)

/-- 'laws.FnExactSittingOut', WHERE WHAT IT READS IS OF BULK AT MOST 1048576: true; the input reads as it did. -/
def fnExactSittingOutUptoRow : OpenClaim := { program := "ytjbhmdhebmkgkaa", sum := "ccdfec675f78972c29490b3b4546dda4f8d786307c7110172275a8ea16ab481f", func := "loop.example/g01379/laws.FnExactSittingOut", spec := "fnExactSittingOut", plainKeys := false, apart := false, narrowed := true }
def FnExactSittingOutUptoSaid : Prop := fnExactSittingOutUptoRow.holds Try.pinned (OpenSpec.upto fnExactSittingOutSpec)

/-- 'laws.FnExactIsWhist', WHERE WHAT IT READS IS OF BULK AT MOST 1048576: true; the input reads as it did. -/
def fnExactIsWhistUptoRow : OpenClaim := { program := "ytjbhmdhebmkgkaa", sum := "ccdfec675f78972c29490b3b4546dda4f8d786307c7110172275a8ea16ab481f", func := "loop.example/g01379/laws.FnExactIsWhist", spec := "fnExactIsWhist", unfollowed := true, recurses := true, plainKeys := false, leaving := true, apart := false, narrowed := true }
def FnExactIsWhistUptoSaid : Prop := fnExactIsWhistUptoRow.holds Try.pinned (OpenSpec.upto fnExactIsWhistSpec)

/-- 'laws.FnExactIsTriple', WHERE WHAT IT READS IS OF BULK AT MOST 1048576: true; the input reads as it did. -/
def fnExactIsTripleUptoRow : OpenClaim := { program := "ytjbhmdhebmkgkaa", sum := "ccdfec675f78972c29490b3b4546dda4f8d786307c7110172275a8ea16ab481f", func := "loop.example/g01379/laws.FnExactIsTriple", spec := "fnExactIsTriple", unfollowed := true, recurses := true, plainKeys := false, leaving := true, apart := false, narrowed := true }
def FnExactIsTripleUptoSaid : Prop := fnExactIsTripleUptoRow.holds Try.pinned (OpenSpec.upto fnExactIsTripleSpec)

/-- 'laws.FnExactMadeFrom', WHERE WHAT IT READS IS OF BULK AT MOST 1048576: true; the input reads as it did. -/
def fnExactMadeFromUptoRow : OpenClaim := { program := "ytjbhmdhebmkgkaa", sum := "ccdfec675f78972c29490b3b4546dda4f8d786307c7110172275a8ea16ab481f", func := "loop.example/g01379/laws.FnExactMadeFrom", spec := "fnExactMadeFrom", plainKeys := false, apart := false, narrowed := true }
def FnExactMadeFromUptoSaid : Prop := fnExactMadeFromUptoRow.holds Try.pinned (OpenSpec.upto fnExactMadeFromSpec)

/-- 'laws.FnExactFirstBase', WHERE WHAT IT READS IS OF BULK AT MOST 1048576: true; the input reads as it did. -/
def fnExactFirstBaseUptoRow : OpenClaim := { program := "ytjbhmdhebmkgkaa", sum := "ccdfec675f78972c29490b3b4546dda4f8d786307c7110172275a8ea16ab481f", func := "loop.example/g01379/laws.FnExactFirstBase", spec := "fnExactFirstBase", unfollowed := true, recurses := true, plainKeys := false, leaving := true, apart := false, narrowed := true }
def FnExactFirstBaseUptoSaid : Prop := fnExactFirstBaseUptoRow.holds Try.pinned (OpenSpec.upto fnExactFirstBaseSpec)

/-- 'laws.FnExactPartnerSchedule', WHERE WHAT IT READS IS OF BULK AT MOST 1048576: true; the input reads as it did. -/
def fnExactPartnerScheduleUptoRow : OpenClaim := { program := "ytjbhmdhebmkgkaa", sum := "ccdfec675f78972c29490b3b4546dda4f8d786307c7110172275a8ea16ab481f", func := "loop.example/g01379/laws.FnExactPartnerSchedule", spec := "fnExactPartnerSchedule", unfollowed := true, recurses := true, plainKeys := false, leaving := true, apart := false, narrowed := true }
def FnExactPartnerScheduleUptoSaid : Prop := fnExactPartnerScheduleUptoRow.holds Try.pinned (OpenSpec.upto fnExactPartnerScheduleSpec)

/-- 'laws.FnExactRenumberPlayers', WHERE WHAT IT READS IS OF BULK AT MOST 1048576: true; the input reads as it did. -/
def fnExactRenumberPlayersUptoRow : OpenClaim := { program := "ytjbhmdhebmkgkaa", sum := "ccdfec675f78972c29490b3b4546dda4f8d786307c7110172275a8ea16ab481f", func := "loop.example/g01379/laws.FnExactRenumberPlayers", spec := "fnExactRenumberPlayers", plainKeys := false, apart := false, narrowed := true }
def FnExactRenumberPlayersUptoSaid : Prop := fnExactRenumberPlayersUptoRow.holds Try.pinned (OpenSpec.upto fnExactRenumberPlayersSpec)

/-- 'laws.FnWhist', WHERE WHAT IT READS IS OF BULK AT MOST 1048576: true; the input reads as it did. -/
def fnWhistUptoRow : OpenClaim := { program := "ytjbhmdhebmkgkaa", sum := "ccdfec675f78972c29490b3b4546dda4f8d786307c7110172275a8ea16ab481f", func := "loop.example/g01379/laws.FnWhist", spec := "fnWhist", unfollowed := true, recurses := true, plainKeys := false, leaving := true, apart := false, narrowed := true }
def FnWhistUptoSaid : Prop := fnWhistUptoRow.holds Try.pinned (OpenSpec.upto fnWhistSpec)

/-- 'laws.FnTables', WHERE WHAT IT READS IS OF BULK AT MOST 1048576: true; the input reads as it did. -/
def fnTablesUptoRow : OpenClaim := { program := "ytjbhmdhebmkgkaa", sum := "ccdfec675f78972c29490b3b4546dda4f8d786307c7110172275a8ea16ab481f", func := "loop.example/g01379/laws.FnTables", spec := "fnTables", unfollowed := true, recurses := true, plainKeys := false, leaving := true, apart := false, narrowed := true }
def FnTablesUptoSaid : Prop := fnTablesUptoRow.holds Try.pinned (OpenSpec.upto fnTablesSpec)

/-- 'laws.FnComponents', WHERE WHAT IT READS IS OF BULK AT MOST 1048576: true; the input reads as it did. -/
def fnComponentsUptoRow : OpenClaim := { program := "ytjbhmdhebmkgkaa", sum := "ccdfec675f78972c29490b3b4546dda4f8d786307c7110172275a8ea16ab481f", func := "loop.example/g01379/laws.FnComponents", spec := "fnComponents", unfollowed := true, recurses := true, plainKeys := false, leaving := true, apart := false, narrowed := true }
def FnComponentsUptoSaid : Prop := fnComponentsUptoRow.holds Try.pinned (OpenSpec.upto fnComponentsSpec)

/-- 'laws.FnExactCompleteSchedule', WHERE WHAT IT READS IS OF BULK AT MOST 1048576: true; the input reads as it did. -/
def fnExactCompleteScheduleUptoRow : OpenClaim := { program := "ytjbhmdhebmkgkaa", sum := "ccdfec675f78972c29490b3b4546dda4f8d786307c7110172275a8ea16ab481f", func := "loop.example/g01379/laws.FnExactCompleteSchedule", spec := "fnExactCompleteSchedule", unfollowed := true, recurses := true, plainKeys := false, leaving := true, apart := false, narrowed := true }
def FnExactCompleteScheduleUptoSaid : Prop := fnExactCompleteScheduleUptoRow.holds Try.pinned (OpenSpec.upto fnExactCompleteScheduleSpec)

/-- 'laws.FnExactCountRobins', WHERE WHAT IT READS IS OF BULK AT MOST 1048576: true; the input reads as it did. -/
def fnExactCountRobinsUptoRow : OpenClaim := { program := "ytjbhmdhebmkgkaa", sum := "ccdfec675f78972c29490b3b4546dda4f8d786307c7110172275a8ea16ab481f", func := "loop.example/g01379/laws.FnExactCountRobins", spec := "fnExactCountRobins", unfollowed := true, recurses := true, plainKeys := false, leaving := true, apart := false, narrowed := true }
def FnExactCountRobinsUptoSaid : Prop := fnExactCountRobinsUptoRow.holds Try.pinned (OpenSpec.upto fnExactCountRobinsSpec)

/-- 'laws.FnExactFewestBreaks', WHERE WHAT IT READS IS OF BULK AT MOST 1048576: true; the input reads as it did. -/
def fnExactFewestBreaksUptoRow : OpenClaim := { program := "ytjbhmdhebmkgkaa", sum := "ccdfec675f78972c29490b3b4546dda4f8d786307c7110172275a8ea16ab481f", func := "loop.example/g01379/laws.FnExactFewestBreaks", spec := "fnExactFewestBreaks", unfollowed := true, recurses := true, plainKeys := false, leaving := true, apart := false, narrowed := true }
def FnExactFewestBreaksUptoSaid : Prop := fnExactFewestBreaksUptoRow.holds Try.pinned (OpenSpec.upto fnExactFewestBreaksSpec)

/-- 'laws.FnVenues', WHERE WHAT IT READS IS OF BULK AT MOST 1048576: true; the input reads as it did. -/
def fnVenuesUptoRow : OpenClaim := { program := "ytjbhmdhebmkgkaa", sum := "ccdfec675f78972c29490b3b4546dda4f8d786307c7110172275a8ea16ab481f", func := "loop.example/g01379/laws.FnVenues", spec := "fnVenues", unfollowed := true, recurses := true, plainKeys := false, leaving := true, apart := false, narrowed := true }
def FnVenuesUptoSaid : Prop := fnVenuesUptoRow.holds Try.pinned (OpenSpec.upto fnVenuesSpec)

/-- 'laws.FnExactCountStarters', WHERE WHAT IT READS IS OF BULK AT MOST 1048576: true; the input reads as it did. -/
def fnExactCountStartersUptoRow : OpenClaim := { program := "ytjbhmdhebmkgkaa", sum := "ccdfec675f78972c29490b3b4546dda4f8d786307c7110172275a8ea16ab481f", func := "loop.example/g01379/laws.FnExactCountStarters", spec := "fnExactCountStarters", unfollowed := true, recurses := true, plainKeys := false, leaving := true, apart := false, narrowed := true }
def FnExactCountStartersUptoSaid : Prop := fnExactCountStartersUptoRow.holds Try.pinned (OpenSpec.upto fnExactCountStartersSpec)

/-- 'laws.FnExactStarterList', WHERE WHAT IT READS IS OF BULK AT MOST 1048576: true; the input reads as it did. -/
def fnExactStarterListUptoRow : OpenClaim := { program := "ytjbhmdhebmkgkaa", sum := "ccdfec675f78972c29490b3b4546dda4f8d786307c7110172275a8ea16ab481f", func := "loop.example/g01379/laws.FnExactStarterList", spec := "fnExactStarterList", unfollowed := true, recurses := true, plainKeys := false, leaving := true, apart := false, narrowed := true }
def FnExactStarterListUptoSaid : Prop := fnExactStarterListUptoRow.holds Try.pinned (OpenSpec.upto fnExactStarterListSpec)

/-- 'laws.FnExactFirstStrong', WHERE WHAT IT READS IS OF BULK AT MOST 1048576: true; the input reads as it did. -/
def fnExactFirstStrongUptoRow : OpenClaim := { program := "ytjbhmdhebmkgkaa", sum := "ccdfec675f78972c29490b3b4546dda4f8d786307c7110172275a8ea16ab481f", func := "loop.example/g01379/laws.FnExactFirstStrong", spec := "fnExactFirstStrong", unfollowed := true, recurses := true, plainKeys := false, leaving := true, apart := false, narrowed := true }
def FnExactFirstStrongUptoSaid : Prop := fnExactFirstStrongUptoRow.holds Try.pinned (OpenSpec.upto fnExactFirstStrongSpec)

end Rows
end Go.Proofs.Ytjbhmdhebmkgkaa
