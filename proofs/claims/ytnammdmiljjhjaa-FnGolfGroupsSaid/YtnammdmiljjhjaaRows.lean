/-
  No cell of these rows narrows 'for every input' (looked for: loops, veiled, ifaces, maps, wideKeys, modest, calm, conditions, laid).
  DERIVED. THE GIVEN ROWS OF THIS SEAT. 12 by the template 'for every input the law returns true; each argument reads behind the call as it read before'; 0 by the template 'total and deterministic' (their statements: YtnammdmiljjhjaaTotals.lean).
  GIVEN WITH THE SEED: the statements are not yours to turn. If you find one false, say at which input.
  Laid BY PROGRAM, IN A SANDBOX (cutbox-rows.mjs): the forced cells as the released guide's own fill.sh prints them over the translation cd41211e1f73c1fb… (all of the seat's roots in one cut). By AI agents, Wed Nov 11 2026. No macro, syntax, notation, axiom, sorry.
-/
import Derived.Test.YtnammdmiljjhjaaChecked
import GoSem.Claim
import GoSem.ClaimJoined
import GoSem.ClaimMapViews
import Derived.JoinedTies
import Derived.KernelRfl
namespace Go.Proofs.Ytnammdmiljjhjaa
/- THE CELL 'sum', in the pinned program and in every row, IS THE sha256 OF THE DUMP (.gsa) THAT YtnammdmiljjhjaaProg.lean LOADS. Nothing in Lean hashes anything: it is a label: what it is worth is what the hold of that sum in a sandbox is worth. -/
noncomputable def Try.pinned : Pinned := { name := "ytnammdmiljjhjaa", sum := "cd41211e1f73c1fbe1f2ab58c78f59749eac805d6342826446a6041a1de56c81", checked := Try.checked }
namespace Rows
def none {H : Type} : Left H := { results := [], args := [] }

/-- 'laws.FnGolfGroups': WHATEVER THE INPUT: true; the input reads as it did. -/
def fnGolfGroupsSpec : ChangeSpec := { name := "fnGolfGroups", fn := fun _ => fun
  | [d] => { results := [.lit (.bool true)], args := [d] }
  | _ => none }
def fnGolfGroupsRow : OpenClaim := { program := "ytnammdmiljjhjaa", sum := "cd41211e1f73c1fbe1f2ab58c78f59749eac805d6342826446a6041a1de56c81", func := "loop.example/g01379/laws.FnGolfGroups", spec := "fnGolfGroups", unfollowed := true, recurses := true, apart := false }
def FnGolfGroupsSaid : Prop := fnGolfGroupsRow.holds Try.pinned (OpenSpec.ofChange fnGolfGroupsSpec)

/-- ITS FALSE NEIGHBOUR: 'it returns false'. Refute it at one input. -/
def fnGolfGroupsWrong : ChangeSpec := { name := "fnGolfGroups", fn := fun _ => fun
  | [d] => { results := [.lit (.bool false)], args := [d] }
  | _ => none }
def FnGolfGroupsWrongFalsely : Prop := fnGolfGroupsRow.holds Try.pinned (OpenSpec.ofChange fnGolfGroupsWrong)

/-- 'laws.FnExactIsGolf': WHATEVER THE INPUT: true; the input reads as it did. -/
def fnExactIsGolfSpec : ChangeSpec := { name := "fnExactIsGolf", fn := fun _ => fun
  | [d] => { results := [.lit (.bool true)], args := [d] }
  | _ => none }
def fnExactIsGolfRow : OpenClaim := { program := "ytnammdmiljjhjaa", sum := "cd41211e1f73c1fbe1f2ab58c78f59749eac805d6342826446a6041a1de56c81", func := "loop.example/g01379/laws.FnExactIsGolf", spec := "fnExactIsGolf", apart := false }
def FnExactIsGolfSaid : Prop := fnExactIsGolfRow.holds Try.pinned (OpenSpec.ofChange fnExactIsGolfSpec)

/-- ITS FALSE NEIGHBOUR: 'it returns false'. Refute it at one input. -/
def fnExactIsGolfWrong : ChangeSpec := { name := "fnExactIsGolf", fn := fun _ => fun
  | [d] => { results := [.lit (.bool false)], args := [d] }
  | _ => none }
def FnExactIsGolfWrongFalsely : Prop := fnExactIsGolfRow.holds Try.pinned (OpenSpec.ofChange fnExactIsGolfWrong)

/-- 'laws.FnExactGolfMeetings': WHATEVER THE INPUT: true; the input reads as it did. -/
def fnExactGolfMeetingsSpec : ChangeSpec := { name := "fnExactGolfMeetings", fn := fun _ => fun
  | [d] => { results := [.lit (.bool true)], args := [d] }
  | _ => none }
def fnExactGolfMeetingsRow : OpenClaim := { program := "ytnammdmiljjhjaa", sum := "cd41211e1f73c1fbe1f2ab58c78f59749eac805d6342826446a6041a1de56c81", func := "loop.example/g01379/laws.FnExactGolfMeetings", spec := "fnExactGolfMeetings", unfollowed := true, recurses := true, apart := false }
def FnExactGolfMeetingsSaid : Prop := fnExactGolfMeetingsRow.holds Try.pinned (OpenSpec.ofChange fnExactGolfMeetingsSpec)

/-- ITS FALSE NEIGHBOUR: 'it returns false'. Refute it at one input. -/
def fnExactGolfMeetingsWrong : ChangeSpec := { name := "fnExactGolfMeetings", fn := fun _ => fun
  | [d] => { results := [.lit (.bool false)], args := [d] }
  | _ => none }
def FnExactGolfMeetingsWrongFalsely : Prop := fnExactGolfMeetingsRow.holds Try.pinned (OpenSpec.ofChange fnExactGolfMeetingsWrong)

/-- 'laws.FnExactIsSocial': WHATEVER THE INPUT: true; the input reads as it did. -/
def fnExactIsSocialSpec : ChangeSpec := { name := "fnExactIsSocial", fn := fun _ => fun
  | [d] => { results := [.lit (.bool true)], args := [d] }
  | _ => none }
def fnExactIsSocialRow : OpenClaim := { program := "ytnammdmiljjhjaa", sum := "cd41211e1f73c1fbe1f2ab58c78f59749eac805d6342826446a6041a1de56c81", func := "loop.example/g01379/laws.FnExactIsSocial", spec := "fnExactIsSocial", unfollowed := true, recurses := true, apart := false }
def FnExactIsSocialSaid : Prop := fnExactIsSocialRow.holds Try.pinned (OpenSpec.ofChange fnExactIsSocialSpec)

/-- ITS FALSE NEIGHBOUR: 'it returns false'. Refute it at one input. -/
def fnExactIsSocialWrong : ChangeSpec := { name := "fnExactIsSocial", fn := fun _ => fun
  | [d] => { results := [.lit (.bool false)], args := [d] }
  | _ => none }
def FnExactIsSocialWrongFalsely : Prop := fnExactIsSocialRow.holds Try.pinned (OpenSpec.ofChange fnExactIsSocialWrong)

/-- 'laws.FnExactIsFull': WHATEVER THE INPUT: true; the input reads as it did. -/
def fnExactIsFullSpec : ChangeSpec := { name := "fnExactIsFull", fn := fun _ => fun
  | [d] => { results := [.lit (.bool true)], args := [d] }
  | _ => none }
def fnExactIsFullRow : OpenClaim := { program := "ytnammdmiljjhjaa", sum := "cd41211e1f73c1fbe1f2ab58c78f59749eac805d6342826446a6041a1de56c81", func := "loop.example/g01379/laws.FnExactIsFull", spec := "fnExactIsFull", unfollowed := true, recurses := true, apart := false }
def FnExactIsFullSaid : Prop := fnExactIsFullRow.holds Try.pinned (OpenSpec.ofChange fnExactIsFullSpec)

/-- ITS FALSE NEIGHBOUR: 'it returns false'. Refute it at one input. -/
def fnExactIsFullWrong : ChangeSpec := { name := "fnExactIsFull", fn := fun _ => fun
  | [d] => { results := [.lit (.bool false)], args := [d] }
  | _ => none }
def FnExactIsFullWrongFalsely : Prop := fnExactIsFullRow.holds Try.pinned (OpenSpec.ofChange fnExactIsFullWrong)

/-- 'laws.FnExactGolfBound': WHATEVER THE INPUT: true; the input reads as it did. -/
def fnExactGolfBoundSpec : ChangeSpec := { name := "fnExactGolfBound", fn := fun _ => fun
  | [d1, d2] => { results := [.lit (.bool true)], args := [d1, d2] }
  | _ => none }
def fnExactGolfBoundRow : OpenClaim := { program := "ytnammdmiljjhjaa", sum := "cd41211e1f73c1fbe1f2ab58c78f59749eac805d6342826446a6041a1de56c81", func := "loop.example/g01379/laws.FnExactGolfBound", spec := "fnExactGolfBound", apart := false }
def FnExactGolfBoundSaid : Prop := fnExactGolfBoundRow.holds Try.pinned (OpenSpec.ofChange fnExactGolfBoundSpec)

/-- ITS FALSE NEIGHBOUR: 'it returns false'. Refute it at one input. -/
def fnExactGolfBoundWrong : ChangeSpec := { name := "fnExactGolfBound", fn := fun _ => fun
  | [d1, d2] => { results := [.lit (.bool false)], args := [d1, d2] }
  | _ => none }
def FnExactGolfBoundWrongFalsely : Prop := fnExactGolfBoundRow.holds Try.pinned (OpenSpec.ofChange fnExactGolfBoundWrong)

/-- 'laws.FnExactTidyRound': WHATEVER THE INPUT: true; the input reads as it did. -/
def fnExactTidyRoundSpec : ChangeSpec := { name := "fnExactTidyRound", fn := fun _ => fun
  | [d1, d2] => { results := [.lit (.bool true)], args := [d1, d2] }
  | _ => none }
def fnExactTidyRoundRow : OpenClaim := { program := "ytnammdmiljjhjaa", sum := "cd41211e1f73c1fbe1f2ab58c78f59749eac805d6342826446a6041a1de56c81", func := "loop.example/g01379/laws.FnExactTidyRound", spec := "fnExactTidyRound", unfollowed := true, recurses := true, apart := false }
def FnExactTidyRoundSaid : Prop := fnExactTidyRoundRow.holds Try.pinned (OpenSpec.ofChange fnExactTidyRoundSpec)

/-- ITS FALSE NEIGHBOUR: 'it returns false'. Refute it at one input. -/
def fnExactTidyRoundWrong : ChangeSpec := { name := "fnExactTidyRound", fn := fun _ => fun
  | [d1, d2] => { results := [.lit (.bool false)], args := [d1, d2] }
  | _ => none }
def FnExactTidyRoundWrongFalsely : Prop := fnExactTidyRoundRow.holds Try.pinned (OpenSpec.ofChange fnExactTidyRoundWrong)

/-- 'laws.FnExactGroupOf': WHATEVER THE INPUT: true; the input reads as it did. -/
def fnExactGroupOfSpec : ChangeSpec := { name := "fnExactGroupOf", fn := fun _ => fun
  | [d1, d2, d3] => { results := [.lit (.bool true)], args := [d1, d2, d3] }
  | _ => none }
def fnExactGroupOfRow : OpenClaim := { program := "ytnammdmiljjhjaa", sum := "cd41211e1f73c1fbe1f2ab58c78f59749eac805d6342826446a6041a1de56c81", func := "loop.example/g01379/laws.FnExactGroupOf", spec := "fnExactGroupOf", recurses := true, apart := false }
def FnExactGroupOfSaid : Prop := fnExactGroupOfRow.holds Try.pinned (OpenSpec.ofChange fnExactGroupOfSpec)

/-- ITS FALSE NEIGHBOUR: 'it returns false'. Refute it at one input. -/
def fnExactGroupOfWrong : ChangeSpec := { name := "fnExactGroupOf", fn := fun _ => fun
  | [d1, d2, d3] => { results := [.lit (.bool false)], args := [d1, d2, d3] }
  | _ => none }
def FnExactGroupOfWrongFalsely : Prop := fnExactGroupOfRow.holds Try.pinned (OpenSpec.ofChange fnExactGroupOfWrong)

/-- 'laws.FnExactNotMet': WHATEVER THE INPUT: true; the input reads as it did. -/
def fnExactNotMetSpec : ChangeSpec := { name := "fnExactNotMet", fn := fun _ => fun
  | [d1, d2] => { results := [.lit (.bool true)], args := [d1, d2] }
  | _ => none }
def fnExactNotMetRow : OpenClaim := { program := "ytnammdmiljjhjaa", sum := "cd41211e1f73c1fbe1f2ab58c78f59749eac805d6342826446a6041a1de56c81", func := "loop.example/g01379/laws.FnExactNotMet", spec := "fnExactNotMet", unfollowed := true, recurses := true, apart := false }
def FnExactNotMetSaid : Prop := fnExactNotMetRow.holds Try.pinned (OpenSpec.ofChange fnExactNotMetSpec)

/-- ITS FALSE NEIGHBOUR: 'it returns false'. Refute it at one input. -/
def fnExactNotMetWrong : ChangeSpec := { name := "fnExactNotMet", fn := fun _ => fun
  | [d1, d2] => { results := [.lit (.bool false)], args := [d1, d2] }
  | _ => none }
def FnExactNotMetWrongFalsely : Prop := fnExactNotMetRow.holds Try.pinned (OpenSpec.ofChange fnExactNotMetWrong)

/-- 'laws.FnExactNextGolfRound': WHATEVER THE INPUT: true; the input reads as it did. -/
def fnExactNextGolfRoundSpec : ChangeSpec := { name := "fnExactNextGolfRound", fn := fun _ => fun
  | [d] => { results := [.lit (.bool true)], args := [d] }
  | _ => none }
def fnExactNextGolfRoundRow : OpenClaim := { program := "ytnammdmiljjhjaa", sum := "cd41211e1f73c1fbe1f2ab58c78f59749eac805d6342826446a6041a1de56c81", func := "loop.example/g01379/laws.FnExactNextGolfRound", spec := "fnExactNextGolfRound", unfollowed := true, recurses := true, apart := false }
def FnExactNextGolfRoundSaid : Prop := fnExactNextGolfRoundRow.holds Try.pinned (OpenSpec.ofChange fnExactNextGolfRoundSpec)

/-- ITS FALSE NEIGHBOUR: 'it returns false'. Refute it at one input. -/
def fnExactNextGolfRoundWrong : ChangeSpec := { name := "fnExactNextGolfRound", fn := fun _ => fun
  | [d] => { results := [.lit (.bool false)], args := [d] }
  | _ => none }
def FnExactNextGolfRoundWrongFalsely : Prop := fnExactNextGolfRoundRow.holds Try.pinned (OpenSpec.ofChange fnExactNextGolfRoundWrong)

/-- 'laws.FnExactFirstGolf': WHATEVER THE INPUT: true; the input reads as it did. -/
def fnExactFirstGolfSpec : ChangeSpec := { name := "fnExactFirstGolf", fn := fun _ => fun
  | [d1, d2, d3] => { results := [.lit (.bool true)], args := [d1, d2, d3] }
  | _ => none }
def fnExactFirstGolfRow : OpenClaim := { program := "ytnammdmiljjhjaa", sum := "cd41211e1f73c1fbe1f2ab58c78f59749eac805d6342826446a6041a1de56c81", func := "loop.example/g01379/laws.FnExactFirstGolf", spec := "fnExactFirstGolf", unfollowed := true, recurses := true, apart := false }
def FnExactFirstGolfSaid : Prop := fnExactFirstGolfRow.holds Try.pinned (OpenSpec.ofChange fnExactFirstGolfSpec)

/-- ITS FALSE NEIGHBOUR: 'it returns false'. Refute it at one input. -/
def fnExactFirstGolfWrong : ChangeSpec := { name := "fnExactFirstGolf", fn := fun _ => fun
  | [d1, d2, d3] => { results := [.lit (.bool false)], args := [d1, d2, d3] }
  | _ => none }
def FnExactFirstGolfWrongFalsely : Prop := fnExactFirstGolfRow.holds Try.pinned (OpenSpec.ofChange fnExactFirstGolfWrong)

/-- 'laws.FnExactGridOf': WHATEVER THE INPUT: true; the input reads as it did. -/
def fnExactGridOfSpec : ChangeSpec := { name := "fnExactGridOf", fn := fun _ => fun
  | [d] => { results := [.lit (.bool true)], args := [d] }
  | _ => none }
def fnExactGridOfRow : OpenClaim := { program := "ytnammdmiljjhjaa", sum := "cd41211e1f73c1fbe1f2ab58c78f59749eac805d6342826446a6041a1de56c81", func := "loop.example/g01379/laws.FnExactGridOf", spec := "fnExactGridOf", apart := false }
def FnExactGridOfSaid : Prop := fnExactGridOfRow.holds Try.pinned (OpenSpec.ofChange fnExactGridOfSpec)

/-- ITS FALSE NEIGHBOUR: 'it returns false'. Refute it at one input. -/
def fnExactGridOfWrong : ChangeSpec := { name := "fnExactGridOf", fn := fun _ => fun
  | [d] => { results := [.lit (.bool false)], args := [d] }
  | _ => none }
def FnExactGridOfWrongFalsely : Prop := fnExactGridOfRow.holds Try.pinned (OpenSpec.ofChange fnExactGridOfWrong)

/- THE SECOND FORM. 'bulk': how many values and letters a reading holds, each counted each time it is reached (what is shared counts as often as it is met; a slice's spare places count too). A statement '..UptoSaid' is the law's where the arguments, and the package variables that the reading takes, are together of bulk at most 1048576: NARROWER than '..Said'. Prove '..Said' where nothing that the law and all that it calls make is longer than what came in: it says more and counts as full. Else prove '..UptoSaid'. A law counts once. -/
mutual
def uptoBulk {H : Type} : DataW H → Nat
  | .lit (.string bytes) => bytes.length + 1
  | .lit _ => 1
  | .nil => 1
  | .ptr d => uptoBulk d + 1
  | .slice elems spare => uptoBulkAll elems + uptoBulkAll spare + 1
  | .agg parts => uptoBulkAll parts + 1
  | .iface _ d => uptoBulk d + 1
  | .map entries => uptoBulkEntries entries + 1
  | .held _ => 1
def uptoBulkAll {H : Type} : List (DataW H) → Nat
  | [] => 0
  | d :: r => uptoBulk d + uptoBulkAll r
def uptoBulkEntries {H : Type} : List (Lit × DataW H) → Nat
  | [] => 0
  | x :: r => uptoBulkEntry x + uptoBulkEntries r
def uptoBulkEntry {H : Type} : Lit × DataW H → Nat
  | (.string bytes, d) => bytes.length + uptoBulk d + 1
  | (_, d) => uptoBulk d + 1
 end
def uptoSmall : (H : Type) → List (DataW H) → Bool := fun _ ds => decide (uptoBulkAll ds ≤ 1048576)
def OpenSpec.upto (s : _root_.Go.ChangeSpec) : _root_.Go.OpenSpec := { _root_.Go.OpenSpec.ofChange s with cond := some uptoSmall }

/-- 'laws.FnGolfGroups', WHERE WHAT IT READS IS OF BULK AT MOST 1048576: true; the input reads as it did. -/
def fnGolfGroupsUptoRow : OpenClaim := { program := "ytnammdmiljjhjaa", sum := "cd41211e1f73c1fbe1f2ab58c78f59749eac805d6342826446a6041a1de56c81", func := "loop.example/g01379/laws.FnGolfGroups", spec := "fnGolfGroups", unfollowed := true, recurses := true, apart := false, narrowed := true }
def FnGolfGroupsUptoSaid : Prop := fnGolfGroupsUptoRow.holds Try.pinned (OpenSpec.upto fnGolfGroupsSpec)

/-- 'laws.FnExactIsGolf', WHERE WHAT IT READS IS OF BULK AT MOST 1048576: true; the input reads as it did. -/
def fnExactIsGolfUptoRow : OpenClaim := { program := "ytnammdmiljjhjaa", sum := "cd41211e1f73c1fbe1f2ab58c78f59749eac805d6342826446a6041a1de56c81", func := "loop.example/g01379/laws.FnExactIsGolf", spec := "fnExactIsGolf", apart := false, narrowed := true }
def FnExactIsGolfUptoSaid : Prop := fnExactIsGolfUptoRow.holds Try.pinned (OpenSpec.upto fnExactIsGolfSpec)

/-- 'laws.FnExactGolfMeetings', WHERE WHAT IT READS IS OF BULK AT MOST 1048576: true; the input reads as it did. -/
def fnExactGolfMeetingsUptoRow : OpenClaim := { program := "ytnammdmiljjhjaa", sum := "cd41211e1f73c1fbe1f2ab58c78f59749eac805d6342826446a6041a1de56c81", func := "loop.example/g01379/laws.FnExactGolfMeetings", spec := "fnExactGolfMeetings", unfollowed := true, recurses := true, apart := false, narrowed := true }
def FnExactGolfMeetingsUptoSaid : Prop := fnExactGolfMeetingsUptoRow.holds Try.pinned (OpenSpec.upto fnExactGolfMeetingsSpec)

/-- 'laws.FnExactIsSocial', WHERE WHAT IT READS IS OF BULK AT MOST 1048576: true; the input reads as it did. -/
def fnExactIsSocialUptoRow : OpenClaim := { program := "ytnammdmiljjhjaa", sum := "cd41211e1f73c1fbe1f2ab58c78f59749eac805d6342826446a6041a1de56c81", func := "loop.example/g01379/laws.FnExactIsSocial", spec := "fnExactIsSocial", unfollowed := true, recurses := true, apart := false, narrowed := true }
def FnExactIsSocialUptoSaid : Prop := fnExactIsSocialUptoRow.holds Try.pinned (OpenSpec.upto fnExactIsSocialSpec)

/-- 'laws.FnExactIsFull', WHERE WHAT IT READS IS OF BULK AT MOST 1048576: true; the input reads as it did. -/
def fnExactIsFullUptoRow : OpenClaim := { program := "ytnammdmiljjhjaa", sum := "cd41211e1f73c1fbe1f2ab58c78f59749eac805d6342826446a6041a1de56c81", func := "loop.example/g01379/laws.FnExactIsFull", spec := "fnExactIsFull", unfollowed := true, recurses := true, apart := false, narrowed := true }
def FnExactIsFullUptoSaid : Prop := fnExactIsFullUptoRow.holds Try.pinned (OpenSpec.upto fnExactIsFullSpec)

/-- 'laws.FnExactGolfBound', WHERE WHAT IT READS IS OF BULK AT MOST 1048576: true; the input reads as it did. -/
def fnExactGolfBoundUptoRow : OpenClaim := { program := "ytnammdmiljjhjaa", sum := "cd41211e1f73c1fbe1f2ab58c78f59749eac805d6342826446a6041a1de56c81", func := "loop.example/g01379/laws.FnExactGolfBound", spec := "fnExactGolfBound", apart := false, narrowed := true }
def FnExactGolfBoundUptoSaid : Prop := fnExactGolfBoundUptoRow.holds Try.pinned (OpenSpec.upto fnExactGolfBoundSpec)

/-- 'laws.FnExactTidyRound', WHERE WHAT IT READS IS OF BULK AT MOST 1048576: true; the input reads as it did. -/
def fnExactTidyRoundUptoRow : OpenClaim := { program := "ytnammdmiljjhjaa", sum := "cd41211e1f73c1fbe1f2ab58c78f59749eac805d6342826446a6041a1de56c81", func := "loop.example/g01379/laws.FnExactTidyRound", spec := "fnExactTidyRound", unfollowed := true, recurses := true, apart := false, narrowed := true }
def FnExactTidyRoundUptoSaid : Prop := fnExactTidyRoundUptoRow.holds Try.pinned (OpenSpec.upto fnExactTidyRoundSpec)

/-- 'laws.FnExactGroupOf', WHERE WHAT IT READS IS OF BULK AT MOST 1048576: true; the input reads as it did. -/
def fnExactGroupOfUptoRow : OpenClaim := { program := "ytnammdmiljjhjaa", sum := "cd41211e1f73c1fbe1f2ab58c78f59749eac805d6342826446a6041a1de56c81", func := "loop.example/g01379/laws.FnExactGroupOf", spec := "fnExactGroupOf", recurses := true, apart := false, narrowed := true }
def FnExactGroupOfUptoSaid : Prop := fnExactGroupOfUptoRow.holds Try.pinned (OpenSpec.upto fnExactGroupOfSpec)

/-- 'laws.FnExactNotMet', WHERE WHAT IT READS IS OF BULK AT MOST 1048576: true; the input reads as it did. -/
def fnExactNotMetUptoRow : OpenClaim := { program := "ytnammdmiljjhjaa", sum := "cd41211e1f73c1fbe1f2ab58c78f59749eac805d6342826446a6041a1de56c81", func := "loop.example/g01379/laws.FnExactNotMet", spec := "fnExactNotMet", unfollowed := true, recurses := true, apart := false, narrowed := true }
def FnExactNotMetUptoSaid : Prop := fnExactNotMetUptoRow.holds Try.pinned (OpenSpec.upto fnExactNotMetSpec)

/-- 'laws.FnExactNextGolfRound', WHERE WHAT IT READS IS OF BULK AT MOST 1048576: true; the input reads as it did. -/
def fnExactNextGolfRoundUptoRow : OpenClaim := { program := "ytnammdmiljjhjaa", sum := "cd41211e1f73c1fbe1f2ab58c78f59749eac805d6342826446a6041a1de56c81", func := "loop.example/g01379/laws.FnExactNextGolfRound", spec := "fnExactNextGolfRound", unfollowed := true, recurses := true, apart := false, narrowed := true }
def FnExactNextGolfRoundUptoSaid : Prop := fnExactNextGolfRoundUptoRow.holds Try.pinned (OpenSpec.upto fnExactNextGolfRoundSpec)

/-- 'laws.FnExactFirstGolf', WHERE WHAT IT READS IS OF BULK AT MOST 1048576: true; the input reads as it did. -/
def fnExactFirstGolfUptoRow : OpenClaim := { program := "ytnammdmiljjhjaa", sum := "cd41211e1f73c1fbe1f2ab58c78f59749eac805d6342826446a6041a1de56c81", func := "loop.example/g01379/laws.FnExactFirstGolf", spec := "fnExactFirstGolf", unfollowed := true, recurses := true, apart := false, narrowed := true }
def FnExactFirstGolfUptoSaid : Prop := fnExactFirstGolfUptoRow.holds Try.pinned (OpenSpec.upto fnExactFirstGolfSpec)

/-- 'laws.FnExactGridOf', WHERE WHAT IT READS IS OF BULK AT MOST 1048576: true; the input reads as it did. -/
def fnExactGridOfUptoRow : OpenClaim := { program := "ytnammdmiljjhjaa", sum := "cd41211e1f73c1fbe1f2ab58c78f59749eac805d6342826446a6041a1de56c81", func := "loop.example/g01379/laws.FnExactGridOf", spec := "fnExactGridOf", apart := false, narrowed := true }
def FnExactGridOfUptoSaid : Prop := fnExactGridOfUptoRow.holds Try.pinned (OpenSpec.upto fnExactGridOfSpec)

end Rows
end Go.Proofs.Ytnammdmiljjhjaa
