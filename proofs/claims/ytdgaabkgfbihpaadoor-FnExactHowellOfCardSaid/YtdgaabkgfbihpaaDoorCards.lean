/-
  DERIVED. GIVEN WITH THE SEED: THE CARDS: each row of YtdgaabkgfbihpaaDoorRows.lean that lists a variable, with what it lists TIED to the program's text (the seventh form; the later family's looks); each row that meets fmt, with fmt's text TOLD by the authors' own Lean function (tested against real Go, not proved from fmt's source: count such statements apart). THE CARD IS WHAT COUNTS. Prove the row's statement (the work); the ties are given (YtdgaabkgfbihpaaDoorTie.lean); close each card by the builder's one call (the guide's Derived/Test/ToyasCard.lean, 'card_holds'). Laid BY PROGRAM, IN A SANDBOX (cutbox-door.mjs). By AI agents, Wed Nov 11 2026. No macro, syntax, notation, axiom, sorry.
-/
import Derived.Test.YtdgaabkgfbihpaaDoorRows
import GoSem.ClaimSeven
namespace Go.Proofs.YtdgaabkgfbihpaaDoor
namespace Rows

/-- THE TIED CARD OF 'laws.FnExactHowellOf'. -/
def fnExactHowellOfCard : Claim7 := { stood := { row := fnExactHowellOfRow, standIns := [], harness := (true, "e94ad09c9007ed2aa3695e4da8267b31d8f3d9417e494a8338769e7a0e1e7602"), looks := true }, kinds := [], alts := [], laidByText := true, laidKinds := [.sentinel, .sentinel], laidTests := true, laidLooks := .later }
def FnExactHowellOfCardSaid : Prop := Claim7.holds Tryd.pinned (.plain (OpenSpec.ofChange fnExactHowellOfSpec)) fnExactHowellOfCard

/-- THE SECOND FORM's CARD OF 'laws.FnExactHowellOf'. -/
def fnExactHowellOfUptoCard : Claim7 := { stood := { row := fnExactHowellOfUptoRow, standIns := [], harness := (true, "e94ad09c9007ed2aa3695e4da8267b31d8f3d9417e494a8338769e7a0e1e7602"), looks := true }, kinds := [], alts := [], laidByText := true, laidKinds := [.sentinel, .sentinel], laidTests := true, laidLooks := .later }
def FnExactHowellOfUptoCardSaid : Prop := Claim7.holds Tryd.pinned (.plain (OpenSpec.upto fnExactHowellOfSpec)) fnExactHowellOfUptoCard
end Rows
end Go.Proofs.YtdgaabkgfbihpaaDoor
