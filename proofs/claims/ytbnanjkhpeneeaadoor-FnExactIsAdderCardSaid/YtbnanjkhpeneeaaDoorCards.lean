/-
  DERIVED. GIVEN WITH THE SEED: THE CARDS: each row of YtbnanjkhpeneeaaDoorRows.lean that lists a variable, with what it lists TIED to the program's text (the seventh form; the later family's looks); each row that meets fmt, with fmt's text TOLD by the authors' own Lean function (tested against real Go, not proved from fmt's source: count such statements apart). THE CARD IS WHAT COUNTS. Prove the row's statement (the work); the ties are given (YtbnanjkhpeneeaaDoorTie.lean); close each card by the builder's one call (the guide's Derived/Test/ToyasCard.lean, 'card_holds'). Laid BY PROGRAM, IN A SANDBOX (cutbox-door.mjs). By AI agents, Wed Nov 11 2026. No macro, syntax, notation, axiom, sorry.
-/
import Derived.Test.YtbnanjkhpeneeaaDoorRows
import GoSem.ClaimSeven
namespace Go.Proofs.YtbnanjkhpeneeaaDoor
namespace Rows

/-- THE TIED CARD OF 'laws.FnExactIsStarter'. -/
def fnExactIsStarterCard : Claim7 := { stood := { row := fnExactIsStarterRow, standIns := [], harness := (true, "8ebf81c4548854da9d33ef839b239fbefaaa0b9d1d3d28c8bab8a94459e114e9"), looks := true }, kinds := [], alts := [], laidByText := true, laidKinds := [.sentinel, .sentinel], laidTests := true, laidLooks := .later }
def FnExactIsStarterCardSaid : Prop := Claim7.holds Tryd.pinned (.plain (OpenSpec.ofChange fnExactIsStarterSpec)) fnExactIsStarterCard

/-- THE TIED CARD OF 'laws.FnExactSumsOf'. -/
def fnExactSumsOfCard : Claim7 := { stood := { row := fnExactSumsOfRow, standIns := [], harness := (true, "8ebf81c4548854da9d33ef839b239fbefaaa0b9d1d3d28c8bab8a94459e114e9"), looks := true }, kinds := [], alts := [], laidByText := true, laidKinds := [.sentinel, .sentinel], laidTests := true, laidLooks := .later }
def FnExactSumsOfCardSaid : Prop := Claim7.holds Tryd.pinned (.plain (OpenSpec.ofChange fnExactSumsOfSpec)) fnExactSumsOfCard

/-- THE TIED CARD OF 'laws.FnExactIsStrong'. -/
def fnExactIsStrongCard : Claim7 := { stood := { row := fnExactIsStrongRow, standIns := [], harness := (true, "8ebf81c4548854da9d33ef839b239fbefaaa0b9d1d3d28c8bab8a94459e114e9"), looks := true }, kinds := [], alts := [], laidByText := true, laidKinds := [.sentinel, .sentinel], laidTests := true, laidLooks := .later }
def FnExactIsStrongCardSaid : Prop := Claim7.holds Tryd.pinned (.plain (OpenSpec.ofChange fnExactIsStrongSpec)) fnExactIsStrongCard

/-- THE TIED CARD OF 'laws.FnExactIsSkew'. -/
def fnExactIsSkewCard : Claim7 := { stood := { row := fnExactIsSkewRow, standIns := [], harness := (true, "8ebf81c4548854da9d33ef839b239fbefaaa0b9d1d3d28c8bab8a94459e114e9"), looks := true }, kinds := [], alts := [], laidByText := true, laidKinds := [.sentinel, .sentinel], laidTests := true, laidLooks := .later }
def FnExactIsSkewCardSaid : Prop := Claim7.holds Tryd.pinned (.plain (OpenSpec.ofChange fnExactIsSkewSpec)) fnExactIsSkewCard

/-- THE TIED CARD OF 'laws.FnExactIsAdder'. -/
def fnExactIsAdderCard : Claim7 := { stood := { row := fnExactIsAdderRow, standIns := [], harness := (true, "8ebf81c4548854da9d33ef839b239fbefaaa0b9d1d3d28c8bab8a94459e114e9"), looks := true }, kinds := [], alts := [], laidByText := true, laidKinds := [.sentinel, .sentinel], laidTests := true, laidLooks := .later }
def FnExactIsAdderCardSaid : Prop := Claim7.holds Tryd.pinned (.plain (OpenSpec.ofChange fnExactIsAdderSpec)) fnExactIsAdderCard

/-- THE TIED CARD OF 'laws.FnExactFirstAdder'. -/
def fnExactFirstAdderCard : Claim7 := { stood := { row := fnExactFirstAdderRow, standIns := [], harness := (true, "8ebf81c4548854da9d33ef839b239fbefaaa0b9d1d3d28c8bab8a94459e114e9"), looks := true }, kinds := [], alts := [], laidByText := true, laidKinds := [.sentinel, .sentinel], laidTests := true, laidLooks := .later }
def FnExactFirstAdderCardSaid : Prop := Claim7.holds Tryd.pinned (.plain (OpenSpec.ofChange fnExactFirstAdderSpec)) fnExactFirstAdderCard

/-- THE TIED CARD OF 'laws.FnExactStrongAdder'. -/
def fnExactStrongAdderCard : Claim7 := { stood := { row := fnExactStrongAdderRow, standIns := [], harness := (true, "8ebf81c4548854da9d33ef839b239fbefaaa0b9d1d3d28c8bab8a94459e114e9"), looks := true }, kinds := [], alts := [], laidByText := true, laidKinds := [.sentinel, .sentinel], laidTests := true, laidLooks := .later }
def FnExactStrongAdderCardSaid : Prop := Claim7.holds Tryd.pinned (.plain (OpenSpec.ofChange fnExactStrongAdderSpec)) fnExactStrongAdderCard

/-- THE TIED CARD OF 'laws.FnExactAreOrthogonal'. -/
def fnExactAreOrthogonalCard : Claim7 := { stood := { row := fnExactAreOrthogonalRow, standIns := [], harness := (true, "8ebf81c4548854da9d33ef839b239fbefaaa0b9d1d3d28c8bab8a94459e114e9"), looks := true }, kinds := [], alts := [], laidByText := true, laidKinds := [.sentinel, .sentinel], laidTests := true, laidLooks := .later }
def FnExactAreOrthogonalCardSaid : Prop := Claim7.holds Tryd.pinned (.plain (OpenSpec.ofChange fnExactAreOrthogonalSpec)) fnExactAreOrthogonalCard

/-- THE TIED CARD OF 'laws.FnExactMultipleOf'. -/
def fnExactMultipleOfCard : Claim7 := { stood := { row := fnExactMultipleOfRow, standIns := [], harness := (true, "8ebf81c4548854da9d33ef839b239fbefaaa0b9d1d3d28c8bab8a94459e114e9"), looks := true }, kinds := [], alts := [], laidByText := true, laidKinds := [.sentinel, .sentinel], laidTests := true, laidLooks := .later }
def FnExactMultipleOfCardSaid : Prop := Claim7.holds Tryd.pinned (.plain (OpenSpec.ofChange fnExactMultipleOfSpec)) fnExactMultipleOfCard

/-- THE TIED CARD OF 'laws.FnExactScheduleOfStarter'. -/
def fnExactScheduleOfStarterCard : Claim7 := { stood := { row := fnExactScheduleOfStarterRow, standIns := [], harness := (true, "8ebf81c4548854da9d33ef839b239fbefaaa0b9d1d3d28c8bab8a94459e114e9"), looks := true }, kinds := [], alts := [], laidByText := true, laidKinds := [.sentinel, .sentinel], laidTests := true, laidLooks := .later }
def FnExactScheduleOfStarterCardSaid : Prop := Claim7.holds Tryd.pinned (.plain (OpenSpec.ofChange fnExactScheduleOfStarterSpec)) fnExactScheduleOfStarterCard

/-- THE SECOND FORM's CARD OF 'laws.FnExactIsStarter'. -/
def fnExactIsStarterUptoCard : Claim7 := { stood := { row := fnExactIsStarterUptoRow, standIns := [], harness := (true, "8ebf81c4548854da9d33ef839b239fbefaaa0b9d1d3d28c8bab8a94459e114e9"), looks := true }, kinds := [], alts := [], laidByText := true, laidKinds := [.sentinel, .sentinel], laidTests := true, laidLooks := .later }
def FnExactIsStarterUptoCardSaid : Prop := Claim7.holds Tryd.pinned (.plain (OpenSpec.upto fnExactIsStarterSpec)) fnExactIsStarterUptoCard

/-- THE SECOND FORM's CARD OF 'laws.FnExactSumsOf'. -/
def fnExactSumsOfUptoCard : Claim7 := { stood := { row := fnExactSumsOfUptoRow, standIns := [], harness := (true, "8ebf81c4548854da9d33ef839b239fbefaaa0b9d1d3d28c8bab8a94459e114e9"), looks := true }, kinds := [], alts := [], laidByText := true, laidKinds := [.sentinel, .sentinel], laidTests := true, laidLooks := .later }
def FnExactSumsOfUptoCardSaid : Prop := Claim7.holds Tryd.pinned (.plain (OpenSpec.upto fnExactSumsOfSpec)) fnExactSumsOfUptoCard

/-- THE SECOND FORM's CARD OF 'laws.FnExactIsStrong'. -/
def fnExactIsStrongUptoCard : Claim7 := { stood := { row := fnExactIsStrongUptoRow, standIns := [], harness := (true, "8ebf81c4548854da9d33ef839b239fbefaaa0b9d1d3d28c8bab8a94459e114e9"), looks := true }, kinds := [], alts := [], laidByText := true, laidKinds := [.sentinel, .sentinel], laidTests := true, laidLooks := .later }
def FnExactIsStrongUptoCardSaid : Prop := Claim7.holds Tryd.pinned (.plain (OpenSpec.upto fnExactIsStrongSpec)) fnExactIsStrongUptoCard

/-- THE SECOND FORM's CARD OF 'laws.FnExactIsSkew'. -/
def fnExactIsSkewUptoCard : Claim7 := { stood := { row := fnExactIsSkewUptoRow, standIns := [], harness := (true, "8ebf81c4548854da9d33ef839b239fbefaaa0b9d1d3d28c8bab8a94459e114e9"), looks := true }, kinds := [], alts := [], laidByText := true, laidKinds := [.sentinel, .sentinel], laidTests := true, laidLooks := .later }
def FnExactIsSkewUptoCardSaid : Prop := Claim7.holds Tryd.pinned (.plain (OpenSpec.upto fnExactIsSkewSpec)) fnExactIsSkewUptoCard

/-- THE SECOND FORM's CARD OF 'laws.FnExactIsAdder'. -/
def fnExactIsAdderUptoCard : Claim7 := { stood := { row := fnExactIsAdderUptoRow, standIns := [], harness := (true, "8ebf81c4548854da9d33ef839b239fbefaaa0b9d1d3d28c8bab8a94459e114e9"), looks := true }, kinds := [], alts := [], laidByText := true, laidKinds := [.sentinel, .sentinel], laidTests := true, laidLooks := .later }
def FnExactIsAdderUptoCardSaid : Prop := Claim7.holds Tryd.pinned (.plain (OpenSpec.upto fnExactIsAdderSpec)) fnExactIsAdderUptoCard

/-- THE SECOND FORM's CARD OF 'laws.FnExactFirstAdder'. -/
def fnExactFirstAdderUptoCard : Claim7 := { stood := { row := fnExactFirstAdderUptoRow, standIns := [], harness := (true, "8ebf81c4548854da9d33ef839b239fbefaaa0b9d1d3d28c8bab8a94459e114e9"), looks := true }, kinds := [], alts := [], laidByText := true, laidKinds := [.sentinel, .sentinel], laidTests := true, laidLooks := .later }
def FnExactFirstAdderUptoCardSaid : Prop := Claim7.holds Tryd.pinned (.plain (OpenSpec.upto fnExactFirstAdderSpec)) fnExactFirstAdderUptoCard

/-- THE SECOND FORM's CARD OF 'laws.FnExactStrongAdder'. -/
def fnExactStrongAdderUptoCard : Claim7 := { stood := { row := fnExactStrongAdderUptoRow, standIns := [], harness := (true, "8ebf81c4548854da9d33ef839b239fbefaaa0b9d1d3d28c8bab8a94459e114e9"), looks := true }, kinds := [], alts := [], laidByText := true, laidKinds := [.sentinel, .sentinel], laidTests := true, laidLooks := .later }
def FnExactStrongAdderUptoCardSaid : Prop := Claim7.holds Tryd.pinned (.plain (OpenSpec.upto fnExactStrongAdderSpec)) fnExactStrongAdderUptoCard

/-- THE SECOND FORM's CARD OF 'laws.FnExactAreOrthogonal'. -/
def fnExactAreOrthogonalUptoCard : Claim7 := { stood := { row := fnExactAreOrthogonalUptoRow, standIns := [], harness := (true, "8ebf81c4548854da9d33ef839b239fbefaaa0b9d1d3d28c8bab8a94459e114e9"), looks := true }, kinds := [], alts := [], laidByText := true, laidKinds := [.sentinel, .sentinel], laidTests := true, laidLooks := .later }
def FnExactAreOrthogonalUptoCardSaid : Prop := Claim7.holds Tryd.pinned (.plain (OpenSpec.upto fnExactAreOrthogonalSpec)) fnExactAreOrthogonalUptoCard

/-- THE SECOND FORM's CARD OF 'laws.FnExactMultipleOf'. -/
def fnExactMultipleOfUptoCard : Claim7 := { stood := { row := fnExactMultipleOfUptoRow, standIns := [], harness := (true, "8ebf81c4548854da9d33ef839b239fbefaaa0b9d1d3d28c8bab8a94459e114e9"), looks := true }, kinds := [], alts := [], laidByText := true, laidKinds := [.sentinel, .sentinel], laidTests := true, laidLooks := .later }
def FnExactMultipleOfUptoCardSaid : Prop := Claim7.holds Tryd.pinned (.plain (OpenSpec.upto fnExactMultipleOfSpec)) fnExactMultipleOfUptoCard

/-- THE SECOND FORM's CARD OF 'laws.FnExactScheduleOfStarter'. -/
def fnExactScheduleOfStarterUptoCard : Claim7 := { stood := { row := fnExactScheduleOfStarterUptoRow, standIns := [], harness := (true, "8ebf81c4548854da9d33ef839b239fbefaaa0b9d1d3d28c8bab8a94459e114e9"), looks := true }, kinds := [], alts := [], laidByText := true, laidKinds := [.sentinel, .sentinel], laidTests := true, laidLooks := .later }
def FnExactScheduleOfStarterUptoCardSaid : Prop := Claim7.holds Tryd.pinned (.plain (OpenSpec.upto fnExactScheduleOfStarterSpec)) fnExactScheduleOfStarterUptoCard
end Rows
end Go.Proofs.YtbnanjkhpeneeaaDoor
