/-
  DERIVED. GIVEN WITH THE SEED: THE CARDS: each row of YtgaaiplodbnnjaaDoorRows.lean that lists a variable, with what it lists TIED to the program's text (the seventh form; the later family's looks); each row that meets fmt, with fmt's text TOLD by the authors' own Lean function (tested against real Go, not proved from fmt's source: count such statements apart). THE CARD IS WHAT COUNTS. Prove the row's statement (the work); the ties are given (YtgaaiplodbnnjaaDoorTie.lean); close each card by the builder's one call (the guide's Derived/Test/ToyasCard.lean, 'card_holds'). Laid BY PROGRAM, IN A SANDBOX (cutbox-door.mjs). By AI agents, Wed Nov 11 2026. No macro, syntax, notation, axiom, sorry.
-/
import Derived.Test.YtgaaiplodbnnjaaDoorRows
import GoSem.ClaimSeven
namespace Go.Proofs.YtgaaiplodbnnjaaDoor
namespace Rows

/-- THE TIED CARD OF 'laws.FnExactAreOrthogonal'. -/
def fnExactAreOrthogonalCard : Claim7 := { stood := { row := fnExactAreOrthogonalRow, standIns := [], harness := (true, "845d460ee46149ca8bd31750600cd6232fb3704d8f101a5642c5ca51fd07b7e3"), looks := true }, kinds := [], alts := [], laidByText := true, laidKinds := [.sentinel, .sentinel], laidTests := true, laidLooks := .later }
def FnExactAreOrthogonalCardSaid : Prop := Claim7.holds Tryd.pinned (.plain (OpenSpec.ofChange fnExactAreOrthogonalSpec)) fnExactAreOrthogonalCard

/-- THE TIED CARD OF 'laws.FnExactMultipleOf'. -/
def fnExactMultipleOfCard : Claim7 := { stood := { row := fnExactMultipleOfRow, standIns := [], harness := (true, "845d460ee46149ca8bd31750600cd6232fb3704d8f101a5642c5ca51fd07b7e3"), looks := true }, kinds := [], alts := [], laidByText := true, laidKinds := [.sentinel, .sentinel], laidTests := true, laidLooks := .later }
def FnExactMultipleOfCardSaid : Prop := Claim7.holds Tryd.pinned (.plain (OpenSpec.ofChange fnExactMultipleOfSpec)) fnExactMultipleOfCard

/-- THE TIED CARD OF 'laws.FnExactScheduleOfStarter'. -/
def fnExactScheduleOfStarterCard : Claim7 := { stood := { row := fnExactScheduleOfStarterRow, standIns := [], harness := (true, "845d460ee46149ca8bd31750600cd6232fb3704d8f101a5642c5ca51fd07b7e3"), looks := true }, kinds := [], alts := [], laidByText := true, laidKinds := [.sentinel, .sentinel], laidTests := true, laidLooks := .later }
def FnExactScheduleOfStarterCardSaid : Prop := Claim7.holds Tryd.pinned (.plain (OpenSpec.ofChange fnExactScheduleOfStarterSpec)) fnExactScheduleOfStarterCard

/-- THE TIED CARD OF 'laws.FnExactSquareOfStarter'. -/
def fnExactSquareOfStarterCard : Claim7 := { stood := { row := fnExactSquareOfStarterRow, standIns := [], harness := (true, "845d460ee46149ca8bd31750600cd6232fb3704d8f101a5642c5ca51fd07b7e3"), looks := true }, kinds := [], alts := [], laidByText := true, laidKinds := [.sentinel, .sentinel], laidTests := true, laidLooks := .later }
def FnExactSquareOfStarterCardSaid : Prop := Claim7.holds Tryd.pinned (.plain (OpenSpec.ofChange fnExactSquareOfStarterSpec)) fnExactSquareOfStarterCard

/-- THE SECOND FORM's CARD OF 'laws.FnExactAreOrthogonal'. -/
def fnExactAreOrthogonalUptoCard : Claim7 := { stood := { row := fnExactAreOrthogonalUptoRow, standIns := [], harness := (true, "845d460ee46149ca8bd31750600cd6232fb3704d8f101a5642c5ca51fd07b7e3"), looks := true }, kinds := [], alts := [], laidByText := true, laidKinds := [.sentinel, .sentinel], laidTests := true, laidLooks := .later }
def FnExactAreOrthogonalUptoCardSaid : Prop := Claim7.holds Tryd.pinned (.plain (OpenSpec.upto fnExactAreOrthogonalSpec)) fnExactAreOrthogonalUptoCard

/-- THE SECOND FORM's CARD OF 'laws.FnExactMultipleOf'. -/
def fnExactMultipleOfUptoCard : Claim7 := { stood := { row := fnExactMultipleOfUptoRow, standIns := [], harness := (true, "845d460ee46149ca8bd31750600cd6232fb3704d8f101a5642c5ca51fd07b7e3"), looks := true }, kinds := [], alts := [], laidByText := true, laidKinds := [.sentinel, .sentinel], laidTests := true, laidLooks := .later }
def FnExactMultipleOfUptoCardSaid : Prop := Claim7.holds Tryd.pinned (.plain (OpenSpec.upto fnExactMultipleOfSpec)) fnExactMultipleOfUptoCard

/-- THE SECOND FORM's CARD OF 'laws.FnExactScheduleOfStarter'. -/
def fnExactScheduleOfStarterUptoCard : Claim7 := { stood := { row := fnExactScheduleOfStarterUptoRow, standIns := [], harness := (true, "845d460ee46149ca8bd31750600cd6232fb3704d8f101a5642c5ca51fd07b7e3"), looks := true }, kinds := [], alts := [], laidByText := true, laidKinds := [.sentinel, .sentinel], laidTests := true, laidLooks := .later }
def FnExactScheduleOfStarterUptoCardSaid : Prop := Claim7.holds Tryd.pinned (.plain (OpenSpec.upto fnExactScheduleOfStarterSpec)) fnExactScheduleOfStarterUptoCard

/-- THE SECOND FORM's CARD OF 'laws.FnExactSquareOfStarter'. -/
def fnExactSquareOfStarterUptoCard : Claim7 := { stood := { row := fnExactSquareOfStarterUptoRow, standIns := [], harness := (true, "845d460ee46149ca8bd31750600cd6232fb3704d8f101a5642c5ca51fd07b7e3"), looks := true }, kinds := [], alts := [], laidByText := true, laidKinds := [.sentinel, .sentinel], laidTests := true, laidLooks := .later }
def FnExactSquareOfStarterUptoCardSaid : Prop := Claim7.holds Tryd.pinned (.plain (OpenSpec.upto fnExactSquareOfStarterSpec)) fnExactSquareOfStarterUptoCard
end Rows
end Go.Proofs.YtgaaiplodbnnjaaDoor
