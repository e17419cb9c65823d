/-
  No cell of these rows narrows 'for every input' (looked for: loops, veiled, ifaces, maps, wideKeys, modest, calm, conditions, laid).
  DERIVED. THE GIVEN ROWS OF THIS SEAT. 17 by the template 'for every input the law returns true; each argument reads behind the call as it read before'; 0 by the template 'total and deterministic' (their statements: YtdjghdolkickeaaTotals.lean).
  GIVEN WITH THE SEED: the statements are not yours to turn. If you find one false, say at which input.
  Laid BY PROGRAM, IN A SANDBOX (cutbox-rows.mjs): the forced cells as the released guide's own fill.sh prints them over the translation c28af9b0a7bdc059… (all of the seat's roots in one cut). By AI agents, Wed Nov 11 2026. No macro, syntax, notation, axiom, sorry.
-/
import Derived.Test.YtdjghdolkickeaaChecked
import GoSem.Claim
import GoSem.ClaimJoined
import GoSem.ClaimMapViews
import Derived.JoinedTies
import Derived.KernelRfl
namespace Go.Proofs.Ytdjghdolkickeaa
/- THE CELL 'sum', in the pinned program and in every row, IS THE sha256 OF THE DUMP (.gsa) THAT YtdjghdolkickeaaProg.lean LOADS. Nothing in Lean hashes anything: it is a label: what it is worth is what the hold of that sum in a sandbox is worth. -/
noncomputable def Try.pinned : Pinned := { name := "ytdjghdolkickeaa", sum := "c28af9b0a7bdc059ab9906058794117bba05d12857e4cacaced67501b13603a6", checked := Try.checked }
namespace Rows
def none {H : Type} : Left H := { results := [], args := [] }

/-- 'laws.FnTop': WHATEVER THE INPUT: true; the input reads as it did. -/
def fnTopSpec : ChangeSpec := { name := "fnTop", fn := fun _ => fun
  | [d] => { results := [.lit (.bool true)], args := [d] }
  | _ => none }
def fnTopRow : OpenClaim := { program := "ytdjghdolkickeaa", sum := "c28af9b0a7bdc059ab9906058794117bba05d12857e4cacaced67501b13603a6", func := "loop.example/g01379/laws.FnTop", spec := "fnTop", unfollowed := true, recurses := true, plainKeys := false, leaving := true, apart := false }
def FnTopSaid : Prop := fnTopRow.holds Try.pinned (OpenSpec.ofChange fnTopSpec)

/-- ITS FALSE NEIGHBOUR: 'it returns false'. Refute it at one input. -/
def fnTopWrong : ChangeSpec := { name := "fnTop", fn := fun _ => fun
  | [d] => { results := [.lit (.bool false)], args := [d] }
  | _ => none }
def FnTopWrongFalsely : Prop := fnTopRow.holds Try.pinned (OpenSpec.ofChange fnTopWrong)

/-- 'laws.FnPromiseOfAll': WHATEVER THE INPUT: true; the input reads as it did. -/
def fnPromiseOfAllSpec : ChangeSpec := { name := "fnPromiseOfAll", fn := fun _ => fun
  | [d1, d2, d3] => { results := [.lit (.bool true)], args := [d1, d2, d3] }
  | _ => none }
def fnPromiseOfAllRow : OpenClaim := { program := "ytdjghdolkickeaa", sum := "c28af9b0a7bdc059ab9906058794117bba05d12857e4cacaced67501b13603a6", func := "loop.example/g01379/laws.FnPromiseOfAll", spec := "fnPromiseOfAll", unfollowed := true, recurses := true, plainKeys := false, leaving := true, apart := false }
def FnPromiseOfAllSaid : Prop := fnPromiseOfAllRow.holds Try.pinned (OpenSpec.ofChange fnPromiseOfAllSpec)

/-- ITS FALSE NEIGHBOUR: 'it returns false'. Refute it at one input. -/
def fnPromiseOfAllWrong : ChangeSpec := { name := "fnPromiseOfAll", fn := fun _ => fun
  | [d1, d2, d3] => { results := [.lit (.bool false)], args := [d1, d2, d3] }
  | _ => none }
def FnPromiseOfAllWrongFalsely : Prop := fnPromiseOfAllRow.holds Try.pinned (OpenSpec.ofChange fnPromiseOfAllWrong)

/-- 'laws.FnVenues': WHATEVER THE INPUT: true; the input reads as it did. -/
def fnVenuesSpec : ChangeSpec := { name := "fnVenues", fn := fun _ => fun
  | [d] => { results := [.lit (.bool true)], args := [d] }
  | _ => none }
def fnVenuesRow : OpenClaim := { program := "ytdjghdolkickeaa", sum := "c28af9b0a7bdc059ab9906058794117bba05d12857e4cacaced67501b13603a6", func := "loop.example/g01379/laws.FnVenues", spec := "fnVenues", unfollowed := true, recurses := true, plainKeys := false, leaving := true, apart := false }
def FnVenuesSaid : Prop := fnVenuesRow.holds Try.pinned (OpenSpec.ofChange fnVenuesSpec)

/-- ITS FALSE NEIGHBOUR: 'it returns false'. Refute it at one input. -/
def fnVenuesWrong : ChangeSpec := { name := "fnVenues", fn := fun _ => fun
  | [d] => { results := [.lit (.bool false)], args := [d] }
  | _ => none }
def FnVenuesWrongFalsely : Prop := fnVenuesRow.holds Try.pinned (OpenSpec.ofChange fnVenuesWrong)

/-- 'laws.FnBreaks': WHATEVER THE INPUT: true; the input reads as it did. -/
def fnBreaksSpec : ChangeSpec := { name := "fnBreaks", fn := fun _ => fun
  | [d] => { results := [.lit (.bool true)], args := [d] }
  | _ => none }
def fnBreaksRow : OpenClaim := { program := "ytdjghdolkickeaa", sum := "c28af9b0a7bdc059ab9906058794117bba05d12857e4cacaced67501b13603a6", func := "loop.example/g01379/laws.FnBreaks", spec := "fnBreaks", unfollowed := true, recurses := true, plainKeys := false, leaving := true, apart := false }
def FnBreaksSaid : Prop := fnBreaksRow.holds Try.pinned (OpenSpec.ofChange fnBreaksSpec)

/-- ITS FALSE NEIGHBOUR: 'it returns false'. Refute it at one input. -/
def fnBreaksWrong : ChangeSpec := { name := "fnBreaks", fn := fun _ => fun
  | [d] => { results := [.lit (.bool false)], args := [d] }
  | _ => none }
def FnBreaksWrongFalsely : Prop := fnBreaksRow.holds Try.pinned (OpenSpec.ofChange fnBreaksWrong)

/-- 'laws.FnComponents': WHATEVER THE INPUT: true; the input reads as it did. -/
def fnComponentsSpec : ChangeSpec := { name := "fnComponents", fn := fun _ => fun
  | [d] => { results := [.lit (.bool true)], args := [d] }
  | _ => none }
def fnComponentsRow : OpenClaim := { program := "ytdjghdolkickeaa", sum := "c28af9b0a7bdc059ab9906058794117bba05d12857e4cacaced67501b13603a6", func := "loop.example/g01379/laws.FnComponents", spec := "fnComponents", unfollowed := true, recurses := true, plainKeys := false, leaving := true, apart := false }
def FnComponentsSaid : Prop := fnComponentsRow.holds Try.pinned (OpenSpec.ofChange fnComponentsSpec)

/-- ITS FALSE NEIGHBOUR: 'it returns false'. Refute it at one input. -/
def fnComponentsWrong : ChangeSpec := { name := "fnComponents", fn := fun _ => fun
  | [d] => { results := [.lit (.bool false)], args := [d] }
  | _ => none }
def FnComponentsWrongFalsely : Prop := fnComponentsRow.holds Try.pinned (OpenSpec.ofChange fnComponentsWrong)

/-- 'laws.FnExactAreVenues': WHATEVER THE INPUT: true; the input reads as it did. -/
def fnExactAreVenuesSpec : ChangeSpec := { name := "fnExactAreVenues", fn := fun _ => fun
  | [d1, d2] => { results := [.lit (.bool true)], args := [d1, d2] }
  | _ => none }
def fnExactAreVenuesRow : OpenClaim := { program := "ytdjghdolkickeaa", sum := "c28af9b0a7bdc059ab9906058794117bba05d12857e4cacaced67501b13603a6", func := "loop.example/g01379/laws.FnExactAreVenues", spec := "fnExactAreVenues", plainKeys := false, apart := false }
def FnExactAreVenuesSaid : Prop := fnExactAreVenuesRow.holds Try.pinned (OpenSpec.ofChange fnExactAreVenuesSpec)

/-- ITS FALSE NEIGHBOUR: 'it returns false'. Refute it at one input. -/
def fnExactAreVenuesWrong : ChangeSpec := { name := "fnExactAreVenues", fn := fun _ => fun
  | [d1, d2] => { results := [.lit (.bool false)], args := [d1, d2] }
  | _ => none }
def FnExactAreVenuesWrongFalsely : Prop := fnExactAreVenuesRow.holds Try.pinned (OpenSpec.ofChange fnExactAreVenuesWrong)

/-- 'laws.FnExactFirstVenues': WHATEVER THE INPUT: true; the input reads as it did. -/
def fnExactFirstVenuesSpec : ChangeSpec := { name := "fnExactFirstVenues", fn := fun _ => fun
  | [d] => { results := [.lit (.bool true)], args := [d] }
  | _ => none }
def fnExactFirstVenuesRow : OpenClaim := { program := "ytdjghdolkickeaa", sum := "c28af9b0a7bdc059ab9906058794117bba05d12857e4cacaced67501b13603a6", func := "loop.example/g01379/laws.FnExactFirstVenues", spec := "fnExactFirstVenues", unfollowed := true, recurses := true, plainKeys := false, leaving := true, apart := false }
def FnExactFirstVenuesSaid : Prop := fnExactFirstVenuesRow.holds Try.pinned (OpenSpec.ofChange fnExactFirstVenuesSpec)

/-- ITS FALSE NEIGHBOUR: 'it returns false'. Refute it at one input. -/
def fnExactFirstVenuesWrong : ChangeSpec := { name := "fnExactFirstVenues", fn := fun _ => fun
  | [d] => { results := [.lit (.bool false)], args := [d] }
  | _ => none }
def FnExactFirstVenuesWrongFalsely : Prop := fnExactFirstVenuesRow.holds Try.pinned (OpenSpec.ofChange fnExactFirstVenuesWrong)

/-- 'laws.FnExactPatternOf': WHATEVER THE INPUT: true; the input reads as it did. -/
def fnExactPatternOfSpec : ChangeSpec := { name := "fnExactPatternOf", fn := fun _ => fun
  | [d1, d2, d3] => { results := [.lit (.bool true)], args := [d1, d2, d3] }
  | _ => none }
def fnExactPatternOfRow : OpenClaim := { program := "ytdjghdolkickeaa", sum := "c28af9b0a7bdc059ab9906058794117bba05d12857e4cacaced67501b13603a6", func := "loop.example/g01379/laws.FnExactPatternOf", spec := "fnExactPatternOf", unfollowed := true, recurses := true, plainKeys := false, leaving := true, apart := false }
def FnExactPatternOfSaid : Prop := fnExactPatternOfRow.holds Try.pinned (OpenSpec.ofChange fnExactPatternOfSpec)

/-- ITS FALSE NEIGHBOUR: 'it returns false'. Refute it at one input. -/
def fnExactPatternOfWrong : ChangeSpec := { name := "fnExactPatternOf", fn := fun _ => fun
  | [d1, d2, d3] => { results := [.lit (.bool false)], args := [d1, d2, d3] }
  | _ => none }
def FnExactPatternOfWrongFalsely : Prop := fnExactPatternOfRow.holds Try.pinned (OpenSpec.ofChange fnExactPatternOfWrong)

/-- 'laws.FnExactBreaksOf': WHATEVER THE INPUT: true; the input reads as it did. -/
def fnExactBreaksOfSpec : ChangeSpec := { name := "fnExactBreaksOf", fn := fun _ => fun
  | [d1, d2] => { results := [.lit (.bool true)], args := [d1, d2] }
  | _ => none }
def fnExactBreaksOfRow : OpenClaim := { program := "ytdjghdolkickeaa", sum := "c28af9b0a7bdc059ab9906058794117bba05d12857e4cacaced67501b13603a6", func := "loop.example/g01379/laws.FnExactBreaksOf", spec := "fnExactBreaksOf", unfollowed := true, recurses := true, plainKeys := false, leaving := true, apart := false }
def FnExactBreaksOfSaid : Prop := fnExactBreaksOfRow.holds Try.pinned (OpenSpec.ofChange fnExactBreaksOfSpec)

/-- ITS FALSE NEIGHBOUR: 'it returns false'. Refute it at one input. -/
def fnExactBreaksOfWrong : ChangeSpec := { name := "fnExactBreaksOf", fn := fun _ => fun
  | [d1, d2] => { results := [.lit (.bool false)], args := [d1, d2] }
  | _ => none }
def FnExactBreaksOfWrongFalsely : Prop := fnExactBreaksOfRow.holds Try.pinned (OpenSpec.ofChange fnExactBreaksOfWrong)

/-- 'laws.FnExactFewestBreaks': WHATEVER THE INPUT: true; the input reads as it did. -/
def fnExactFewestBreaksSpec : ChangeSpec := { name := "fnExactFewestBreaks", fn := fun _ => fun
  | [d] => { results := [.lit (.bool true)], args := [d] }
  | _ => none }
def fnExactFewestBreaksRow : OpenClaim := { program := "ytdjghdolkickeaa", sum := "c28af9b0a7bdc059ab9906058794117bba05d12857e4cacaced67501b13603a6", func := "loop.example/g01379/laws.FnExactFewestBreaks", spec := "fnExactFewestBreaks", unfollowed := true, recurses := true, plainKeys := false, leaving := true, apart := false }
def FnExactFewestBreaksSaid : Prop := fnExactFewestBreaksRow.holds Try.pinned (OpenSpec.ofChange fnExactFewestBreaksSpec)

/-- ITS FALSE NEIGHBOUR: 'it returns false'. Refute it at one input. -/
def fnExactFewestBreaksWrong : ChangeSpec := { name := "fnExactFewestBreaks", fn := fun _ => fun
  | [d] => { results := [.lit (.bool false)], args := [d] }
  | _ => none }
def FnExactFewestBreaksWrongFalsely : Prop := fnExactFewestBreaksRow.holds Try.pinned (OpenSpec.ofChange fnExactFewestBreaksWrong)

/-- 'laws.FnExactHomesOf': WHATEVER THE INPUT: true; the input reads as it did. -/
def fnExactHomesOfSpec : ChangeSpec := { name := "fnExactHomesOf", fn := fun _ => fun
  | [d1, d2] => { results := [.lit (.bool true)], args := [d1, d2] }
  | _ => none }
def fnExactHomesOfRow : OpenClaim := { program := "ytdjghdolkickeaa", sum := "c28af9b0a7bdc059ab9906058794117bba05d12857e4cacaced67501b13603a6", func := "loop.example/g01379/laws.FnExactHomesOf", spec := "fnExactHomesOf", unfollowed := true, recurses := true, plainKeys := false, leaving := true, apart := false }
def FnExactHomesOfSaid : Prop := fnExactHomesOfRow.holds Try.pinned (OpenSpec.ofChange fnExactHomesOfSpec)

/-- ITS FALSE NEIGHBOUR: 'it returns false'. Refute it at one input. -/
def fnExactHomesOfWrong : ChangeSpec := { name := "fnExactHomesOf", fn := fun _ => fun
  | [d1, d2] => { results := [.lit (.bool false)], args := [d1, d2] }
  | _ => none }
def FnExactHomesOfWrongFalsely : Prop := fnExactHomesOfRow.holds Try.pinned (OpenSpec.ofChange fnExactHomesOfWrong)

/-- 'laws.FnExactAreBalanced': WHATEVER THE INPUT: true; the input reads as it did. -/
def fnExactAreBalancedSpec : ChangeSpec := { name := "fnExactAreBalanced", fn := fun _ => fun
  | [d1, d2] => { results := [.lit (.bool true)], args := [d1, d2] }
  | _ => none }
def fnExactAreBalancedRow : OpenClaim := { program := "ytdjghdolkickeaa", sum := "c28af9b0a7bdc059ab9906058794117bba05d12857e4cacaced67501b13603a6", func := "loop.example/g01379/laws.FnExactAreBalanced", spec := "fnExactAreBalanced", unfollowed := true, recurses := true, plainKeys := false, leaving := true, apart := false }
def FnExactAreBalancedSaid : Prop := fnExactAreBalancedRow.holds Try.pinned (OpenSpec.ofChange fnExactAreBalancedSpec)

/-- ITS FALSE NEIGHBOUR: 'it returns false'. Refute it at one input. -/
def fnExactAreBalancedWrong : ChangeSpec := { name := "fnExactAreBalanced", fn := fun _ => fun
  | [d1, d2] => { results := [.lit (.bool false)], args := [d1, d2] }
  | _ => none }
def FnExactAreBalancedWrongFalsely : Prop := fnExactAreBalancedRow.holds Try.pinned (OpenSpec.ofChange fnExactAreBalancedWrong)

/-- 'laws.FnExactExchangeGame': WHATEVER THE INPUT: true; the input reads as it did. -/
def fnExactExchangeGameSpec : ChangeSpec := { name := "fnExactExchangeGame", fn := fun _ => fun
  | [d1, d2, d3, d4] => { results := [.lit (.bool true)], args := [d1, d2, d3, d4] }
  | _ => none }
def fnExactExchangeGameRow : OpenClaim := { program := "ytdjghdolkickeaa", sum := "c28af9b0a7bdc059ab9906058794117bba05d12857e4cacaced67501b13603a6", func := "loop.example/g01379/laws.FnExactExchangeGame", spec := "fnExactExchangeGame", plainKeys := false, apart := false }
def FnExactExchangeGameSaid : Prop := fnExactExchangeGameRow.holds Try.pinned (OpenSpec.ofChange fnExactExchangeGameSpec)

/-- ITS FALSE NEIGHBOUR: 'it returns false'. Refute it at one input. -/
def fnExactExchangeGameWrong : ChangeSpec := { name := "fnExactExchangeGame", fn := fun _ => fun
  | [d1, d2, d3, d4] => { results := [.lit (.bool false)], args := [d1, d2, d3, d4] }
  | _ => none }
def FnExactExchangeGameWrongFalsely : Prop := fnExactExchangeGameRow.holds Try.pinned (OpenSpec.ofChange fnExactExchangeGameWrong)

/-- 'laws.FnExactCircleVenues': WHATEVER THE INPUT: true; the input reads as it did. -/
def fnExactCircleVenuesSpec : ChangeSpec := { name := "fnExactCircleVenues", fn := fun _ => fun
  | [d] => { results := [.lit (.bool true)], args := [d] }
  | _ => none }
def fnExactCircleVenuesRow : OpenClaim := { program := "ytdjghdolkickeaa", sum := "c28af9b0a7bdc059ab9906058794117bba05d12857e4cacaced67501b13603a6", func := "loop.example/g01379/laws.FnExactCircleVenues", spec := "fnExactCircleVenues", plainKeys := false, apart := false }
def FnExactCircleVenuesSaid : Prop := fnExactCircleVenuesRow.holds Try.pinned (OpenSpec.ofChange fnExactCircleVenuesSpec)

/-- ITS FALSE NEIGHBOUR: 'it returns false'. Refute it at one input. -/
def fnExactCircleVenuesWrong : ChangeSpec := { name := "fnExactCircleVenues", fn := fun _ => fun
  | [d] => { results := [.lit (.bool false)], args := [d] }
  | _ => none }
def FnExactCircleVenuesWrongFalsely : Prop := fnExactCircleVenuesRow.holds Try.pinned (OpenSpec.ofChange fnExactCircleVenuesWrong)

/-- 'laws.FnExactDoubleSchedule': WHATEVER THE INPUT: true; the input reads as it did. -/
def fnExactDoubleScheduleSpec : ChangeSpec := { name := "fnExactDoubleSchedule", fn := fun _ => fun
  | [d1, d2] => { results := [.lit (.bool true)], args := [d1, d2] }
  | _ => none }
def fnExactDoubleScheduleRow : OpenClaim := { program := "ytdjghdolkickeaa", sum := "c28af9b0a7bdc059ab9906058794117bba05d12857e4cacaced67501b13603a6", func := "loop.example/g01379/laws.FnExactDoubleSchedule", spec := "fnExactDoubleSchedule", plainKeys := false, apart := false }
def FnExactDoubleScheduleSaid : Prop := fnExactDoubleScheduleRow.holds Try.pinned (OpenSpec.ofChange fnExactDoubleScheduleSpec)

/-- ITS FALSE NEIGHBOUR: 'it returns false'. Refute it at one input. -/
def fnExactDoubleScheduleWrong : ChangeSpec := { name := "fnExactDoubleSchedule", fn := fun _ => fun
  | [d1, d2] => { results := [.lit (.bool false)], args := [d1, d2] }
  | _ => none }
def FnExactDoubleScheduleWrongFalsely : Prop := fnExactDoubleScheduleRow.holds Try.pinned (OpenSpec.ofChange fnExactDoubleScheduleWrong)

/-- 'laws.FnExactAreOpposite': WHATEVER THE INPUT: true; the input reads as it did. -/
def fnExactAreOppositeSpec : ChangeSpec := { name := "fnExactAreOpposite", fn := fun _ => fun
  | [d1, d2, d3, d4] => { results := [.lit (.bool true)], args := [d1, d2, d3, d4] }
  | _ => none }
def fnExactAreOppositeRow : OpenClaim := { program := "ytdjghdolkickeaa", sum := "c28af9b0a7bdc059ab9906058794117bba05d12857e4cacaced67501b13603a6", func := "loop.example/g01379/laws.FnExactAreOpposite", spec := "fnExactAreOpposite", unfollowed := true, recurses := true, plainKeys := false, leaving := true, apart := false }
def FnExactAreOppositeSaid : Prop := fnExactAreOppositeRow.holds Try.pinned (OpenSpec.ofChange fnExactAreOppositeSpec)

/-- ITS FALSE NEIGHBOUR: 'it returns false'. Refute it at one input. -/
def fnExactAreOppositeWrong : ChangeSpec := { name := "fnExactAreOpposite", fn := fun _ => fun
  | [d1, d2, d3, d4] => { results := [.lit (.bool false)], args := [d1, d2, d3, d4] }
  | _ => none }
def FnExactAreOppositeWrongFalsely : Prop := fnExactAreOppositeRow.holds Try.pinned (OpenSpec.ofChange fnExactAreOppositeWrong)

/-- 'laws.FnExactScheduleFor': WHATEVER THE INPUT: true; the input reads as it did. -/
def fnExactScheduleForSpec : ChangeSpec := { name := "fnExactScheduleFor", fn := fun _ => fun
  | [d] => { results := [.lit (.bool true)], args := [d] }
  | _ => none }
def fnExactScheduleForRow : OpenClaim := { program := "ytdjghdolkickeaa", sum := "c28af9b0a7bdc059ab9906058794117bba05d12857e4cacaced67501b13603a6", func := "loop.example/g01379/laws.FnExactScheduleFor", spec := "fnExactScheduleFor", recurses := true, plainKeys := false, apart := false }
def FnExactScheduleForSaid : Prop := fnExactScheduleForRow.holds Try.pinned (OpenSpec.ofChange fnExactScheduleForSpec)

/-- ITS FALSE NEIGHBOUR: 'it returns false'. Refute it at one input. -/
def fnExactScheduleForWrong : ChangeSpec := { name := "fnExactScheduleFor", fn := fun _ => fun
  | [d] => { results := [.lit (.bool false)], args := [d] }
  | _ => none }
def FnExactScheduleForWrongFalsely : Prop := fnExactScheduleForRow.holds Try.pinned (OpenSpec.ofChange fnExactScheduleForWrong)

/- THE SECOND FORM. 'bulk': how many values and letters a reading holds, each counted each time it is reached (what is shared counts as often as it is met; a slice's spare places count too). A statement '..UptoSaid' is the law's where the arguments, and the package variables that the reading takes, are together of bulk at most 1048576: NARROWER than '..Said'. Prove '..Said' where nothing that the law and all that it calls make is longer than what came in: it says more and counts as full. Else prove '..UptoSaid'. A law counts once. -/
mutual
def uptoBulk {H : Type} : DataW H → Nat
  | .lit (.string bytes) => bytes.length + 1
  | .lit _ => 1
  | .nil => 1
  | .ptr d => uptoBulk d + 1
  | .slice elems spare => uptoBulkAll elems + uptoBulkAll spare + 1
  | .agg parts => uptoBulkAll parts + 1
  | .iface _ d => uptoBulk d + 1
  | .map entries => uptoBulkEntries entries + 1
  | .held _ => 1
def uptoBulkAll {H : Type} : List (DataW H) → Nat
  | [] => 0
  | d :: r => uptoBulk d + uptoBulkAll r
def uptoBulkEntries {H : Type} : List (Lit × DataW H) → Nat
  | [] => 0
  | x :: r => uptoBulkEntry x + uptoBulkEntries r
def uptoBulkEntry {H : Type} : Lit × DataW H → Nat
  | (.string bytes, d) => bytes.length + uptoBulk d + 1
  | (_, d) => uptoBulk d + 1
 end
def uptoSmall : (H : Type) → List (DataW H) → Bool := fun _ ds => decide (uptoBulkAll ds ≤ 1048576)
def OpenSpec.upto (s : _root_.Go.ChangeSpec) : _root_.Go.OpenSpec := { _root_.Go.OpenSpec.ofChange s with cond := some uptoSmall }

/-- 'laws.FnTop', WHERE WHAT IT READS IS OF BULK AT MOST 1048576: true; the input reads as it did. -/
def fnTopUptoRow : OpenClaim := { program := "ytdjghdolkickeaa", sum := "c28af9b0a7bdc059ab9906058794117bba05d12857e4cacaced67501b13603a6", func := "loop.example/g01379/laws.FnTop", spec := "fnTop", unfollowed := true, recurses := true, plainKeys := false, leaving := true, apart := false, narrowed := true }
def FnTopUptoSaid : Prop := fnTopUptoRow.holds Try.pinned (OpenSpec.upto fnTopSpec)

/-- 'laws.FnPromiseOfAll', WHERE WHAT IT READS IS OF BULK AT MOST 1048576: true; the input reads as it did. -/
def fnPromiseOfAllUptoRow : OpenClaim := { program := "ytdjghdolkickeaa", sum := "c28af9b0a7bdc059ab9906058794117bba05d12857e4cacaced67501b13603a6", func := "loop.example/g01379/laws.FnPromiseOfAll", spec := "fnPromiseOfAll", unfollowed := true, recurses := true, plainKeys := false, leaving := true, apart := false, narrowed := true }
def FnPromiseOfAllUptoSaid : Prop := fnPromiseOfAllUptoRow.holds Try.pinned (OpenSpec.upto fnPromiseOfAllSpec)

/-- 'laws.FnVenues', WHERE WHAT IT READS IS OF BULK AT MOST 1048576: true; the input reads as it did. -/
def fnVenuesUptoRow : OpenClaim := { program := "ytdjghdolkickeaa", sum := "c28af9b0a7bdc059ab9906058794117bba05d12857e4cacaced67501b13603a6", func := "loop.example/g01379/laws.FnVenues", spec := "fnVenues", unfollowed := true, recurses := true, plainKeys := false, leaving := true, apart := false, narrowed := true }
def FnVenuesUptoSaid : Prop := fnVenuesUptoRow.holds Try.pinned (OpenSpec.upto fnVenuesSpec)

/-- 'laws.FnBreaks', WHERE WHAT IT READS IS OF BULK AT MOST 1048576: true; the input reads as it did. -/
def fnBreaksUptoRow : OpenClaim := { program := "ytdjghdolkickeaa", sum := "c28af9b0a7bdc059ab9906058794117bba05d12857e4cacaced67501b13603a6", func := "loop.example/g01379/laws.FnBreaks", spec := "fnBreaks", unfollowed := true, recurses := true, plainKeys := false, leaving := true, apart := false, narrowed := true }
def FnBreaksUptoSaid : Prop := fnBreaksUptoRow.holds Try.pinned (OpenSpec.upto fnBreaksSpec)

/-- 'laws.FnComponents', WHERE WHAT IT READS IS OF BULK AT MOST 1048576: true; the input reads as it did. -/
def fnComponentsUptoRow : OpenClaim := { program := "ytdjghdolkickeaa", sum := "c28af9b0a7bdc059ab9906058794117bba05d12857e4cacaced67501b13603a6", func := "loop.example/g01379/laws.FnComponents", spec := "fnComponents", unfollowed := true, recurses := true, plainKeys := false, leaving := true, apart := false, narrowed := true }
def FnComponentsUptoSaid : Prop := fnComponentsUptoRow.holds Try.pinned (OpenSpec.upto fnComponentsSpec)

/-- 'laws.FnExactAreVenues', WHERE WHAT IT READS IS OF BULK AT MOST 1048576: true; the input reads as it did. -/
def fnExactAreVenuesUptoRow : OpenClaim := { program := "ytdjghdolkickeaa", sum := "c28af9b0a7bdc059ab9906058794117bba05d12857e4cacaced67501b13603a6", func := "loop.example/g01379/laws.FnExactAreVenues", spec := "fnExactAreVenues", plainKeys := false, apart := false, narrowed := true }
def FnExactAreVenuesUptoSaid : Prop := fnExactAreVenuesUptoRow.holds Try.pinned (OpenSpec.upto fnExactAreVenuesSpec)

/-- 'laws.FnExactFirstVenues', WHERE WHAT IT READS IS OF BULK AT MOST 1048576: true; the input reads as it did. -/
def fnExactFirstVenuesUptoRow : OpenClaim := { program := "ytdjghdolkickeaa", sum := "c28af9b0a7bdc059ab9906058794117bba05d12857e4cacaced67501b13603a6", func := "loop.example/g01379/laws.FnExactFirstVenues", spec := "fnExactFirstVenues", unfollowed := true, recurses := true, plainKeys := false, leaving := true, apart := false, narrowed := true }
def FnExactFirstVenuesUptoSaid : Prop := fnExactFirstVenuesUptoRow.holds Try.pinned (OpenSpec.upto fnExactFirstVenuesSpec)

/-- 'laws.FnExactPatternOf', WHERE WHAT IT READS IS OF BULK AT MOST 1048576: true; the input reads as it did. -/
def fnExactPatternOfUptoRow : OpenClaim := { program := "ytdjghdolkickeaa", sum := "c28af9b0a7bdc059ab9906058794117bba05d12857e4cacaced67501b13603a6", func := "loop.example/g01379/laws.FnExactPatternOf", spec := "fnExactPatternOf", unfollowed := true, recurses := true, plainKeys := false, leaving := true, apart := false, narrowed := true }
def FnExactPatternOfUptoSaid : Prop := fnExactPatternOfUptoRow.holds Try.pinned (OpenSpec.upto fnExactPatternOfSpec)

/-- 'laws.FnExactBreaksOf', WHERE WHAT IT READS IS OF BULK AT MOST 1048576: true; the input reads as it did. -/
def fnExactBreaksOfUptoRow : OpenClaim := { program := "ytdjghdolkickeaa", sum := "c28af9b0a7bdc059ab9906058794117bba05d12857e4cacaced67501b13603a6", func := "loop.example/g01379/laws.FnExactBreaksOf", spec := "fnExactBreaksOf", unfollowed := true, recurses := true, plainKeys := false, leaving := true, apart := false, narrowed := true }
def FnExactBreaksOfUptoSaid : Prop := fnExactBreaksOfUptoRow.holds Try.pinned (OpenSpec.upto fnExactBreaksOfSpec)

/-- 'laws.FnExactFewestBreaks', WHERE WHAT IT READS IS OF BULK AT MOST 1048576: true; the input reads as it did. -/
def fnExactFewestBreaksUptoRow : OpenClaim := { program := "ytdjghdolkickeaa", sum := "c28af9b0a7bdc059ab9906058794117bba05d12857e4cacaced67501b13603a6", func := "loop.example/g01379/laws.FnExactFewestBreaks", spec := "fnExactFewestBreaks", unfollowed := true, recurses := true, plainKeys := false, leaving := true, apart := false, narrowed := true }
def FnExactFewestBreaksUptoSaid : Prop := fnExactFewestBreaksUptoRow.holds Try.pinned (OpenSpec.upto fnExactFewestBreaksSpec)

/-- 'laws.FnExactHomesOf', WHERE WHAT IT READS IS OF BULK AT MOST 1048576: true; the input reads as it did. -/
def fnExactHomesOfUptoRow : OpenClaim := { program := "ytdjghdolkickeaa", sum := "c28af9b0a7bdc059ab9906058794117bba05d12857e4cacaced67501b13603a6", func := "loop.example/g01379/laws.FnExactHomesOf", spec := "fnExactHomesOf", unfollowed := true, recurses := true, plainKeys := false, leaving := true, apart := false, narrowed := true }
def FnExactHomesOfUptoSaid : Prop := fnExactHomesOfUptoRow.holds Try.pinned (OpenSpec.upto fnExactHomesOfSpec)

/-- 'laws.FnExactAreBalanced', WHERE WHAT IT READS IS OF BULK AT MOST 1048576: true; the input reads as it did. -/
def fnExactAreBalancedUptoRow : OpenClaim := { program := "ytdjghdolkickeaa", sum := "c28af9b0a7bdc059ab9906058794117bba05d12857e4cacaced67501b13603a6", func := "loop.example/g01379/laws.FnExactAreBalanced", spec := "fnExactAreBalanced", unfollowed := true, recurses := true, plainKeys := false, leaving := true, apart := false, narrowed := true }
def FnExactAreBalancedUptoSaid : Prop := fnExactAreBalancedUptoRow.holds Try.pinned (OpenSpec.upto fnExactAreBalancedSpec)

/-- 'laws.FnExactExchangeGame', WHERE WHAT IT READS IS OF BULK AT MOST 1048576: true; the input reads as it did. -/
def fnExactExchangeGameUptoRow : OpenClaim := { program := "ytdjghdolkickeaa", sum := "c28af9b0a7bdc059ab9906058794117bba05d12857e4cacaced67501b13603a6", func := "loop.example/g01379/laws.FnExactExchangeGame", spec := "fnExactExchangeGame", plainKeys := false, apart := false, narrowed := true }
def FnExactExchangeGameUptoSaid : Prop := fnExactExchangeGameUptoRow.holds Try.pinned (OpenSpec.upto fnExactExchangeGameSpec)

/-- 'laws.FnExactCircleVenues', WHERE WHAT IT READS IS OF BULK AT MOST 1048576: true; the input reads as it did. -/
def fnExactCircleVenuesUptoRow : OpenClaim := { program := "ytdjghdolkickeaa", sum := "c28af9b0a7bdc059ab9906058794117bba05d12857e4cacaced67501b13603a6", func := "loop.example/g01379/laws.FnExactCircleVenues", spec := "fnExactCircleVenues", plainKeys := false, apart := false, narrowed := true }
def FnExactCircleVenuesUptoSaid : Prop := fnExactCircleVenuesUptoRow.holds Try.pinned (OpenSpec.upto fnExactCircleVenuesSpec)

/-- 'laws.FnExactDoubleSchedule', WHERE WHAT IT READS IS OF BULK AT MOST 1048576: true; the input reads as it did. -/
def fnExactDoubleScheduleUptoRow : OpenClaim := { program := "ytdjghdolkickeaa", sum := "c28af9b0a7bdc059ab9906058794117bba05d12857e4cacaced67501b13603a6", func := "loop.example/g01379/laws.FnExactDoubleSchedule", spec := "fnExactDoubleSchedule", plainKeys := false, apart := false, narrowed := true }
def FnExactDoubleScheduleUptoSaid : Prop := fnExactDoubleScheduleUptoRow.holds Try.pinned (OpenSpec.upto fnExactDoubleScheduleSpec)

/-- 'laws.FnExactAreOpposite', WHERE WHAT IT READS IS OF BULK AT MOST 1048576: true; the input reads as it did. -/
def fnExactAreOppositeUptoRow : OpenClaim := { program := "ytdjghdolkickeaa", sum := "c28af9b0a7bdc059ab9906058794117bba05d12857e4cacaced67501b13603a6", func := "loop.example/g01379/laws.FnExactAreOpposite", spec := "fnExactAreOpposite", unfollowed := true, recurses := true, plainKeys := false, leaving := true, apart := false, narrowed := true }
def FnExactAreOppositeUptoSaid : Prop := fnExactAreOppositeUptoRow.holds Try.pinned (OpenSpec.upto fnExactAreOppositeSpec)

/-- 'laws.FnExactScheduleFor', WHERE WHAT IT READS IS OF BULK AT MOST 1048576: true; the input reads as it did. -/
def fnExactScheduleForUptoRow : OpenClaim := { program := "ytdjghdolkickeaa", sum := "c28af9b0a7bdc059ab9906058794117bba05d12857e4cacaced67501b13603a6", func := "loop.example/g01379/laws.FnExactScheduleFor", spec := "fnExactScheduleFor", recurses := true, plainKeys := false, apart := false, narrowed := true }
def FnExactScheduleForUptoSaid : Prop := fnExactScheduleForUptoRow.holds Try.pinned (OpenSpec.upto fnExactScheduleForSpec)

end Rows
end Go.Proofs.Ytdjghdolkickeaa
