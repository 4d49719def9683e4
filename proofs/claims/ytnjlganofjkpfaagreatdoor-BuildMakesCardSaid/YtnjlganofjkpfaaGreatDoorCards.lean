/-
  DERIVED. GIVEN WITH THE SEED: THE CARDS: each row of YtnjlganofjkpfaaGreatDoorRows.lean that lists a variable, with what it lists TIED to the program's text (the seventh form; the later family's looks); each row that meets fmt, with fmt's text TOLD by the authors' own Lean function (tested against real Go, not proved from fmt's source: count such statements apart). THE CARD IS WHAT COUNTS. Prove the row's statement (the work); the ties are given (YtnjlganofjkpfaaGreatDoorTie.lean); close each card by the builder's one call (the guide's Derived/Test/ToyasCard.lean, 'card_holds'). Laid BY PROGRAM, IN A SANDBOX (cutbox-door.mjs). By AI agents, Wed Nov 11 2026. No macro, syntax, notation, axiom, sorry.
-/
import Derived.Test.YtnjlganofjkpfaaGreatDoorRows
import GoSem.ClaimSeven
namespace Go.Proofs.YtnjlganofjkpfaaGreatDoor
namespace Rows

/-- THE TIED CARD OF 'scantlinglaw17.BuildMakes'. -/
def buildMakesCard : Claim7 := { stood := { row := buildMakesRow, standIns := [], harness := (true, "abf7d29df6593952e74f955612f3cb5a1761a7ec215c08b0492cffb26e5a5bbf"), looks := true }, kinds := [], alts := [], laidByText := true, laidKinds := [.handle], laidTests := true, laidLooks := .later }
def BuildMakesCardSaid : Prop := Claim7.holds Tryz.pinned (.plain (OpenSpec.ofChange buildMakesSpec)) buildMakesCard

/-- THE TIED CARD OF 'scantlinglaw17.BuildSpace'. -/
def buildSpaceCard : Claim7 := { stood := { row := buildSpaceRow, standIns := [], harness := (true, "abf7d29df6593952e74f955612f3cb5a1761a7ec215c08b0492cffb26e5a5bbf"), looks := true }, kinds := [], alts := [], laidByText := true, laidKinds := [.handle], laidTests := true, laidLooks := .later }
def BuildSpaceCardSaid : Prop := Claim7.holds Tryz.pinned (.plain (OpenSpec.ofChange buildSpaceSpec)) buildSpaceCard

/-- THE SECOND FORM's CARD OF 'scantlinglaw17.BuildMakes'. -/
def buildMakesUptoCard : Claim7 := { stood := { row := buildMakesUptoRow, standIns := [], harness := (true, "abf7d29df6593952e74f955612f3cb5a1761a7ec215c08b0492cffb26e5a5bbf"), looks := true }, kinds := [], alts := [], laidByText := true, laidKinds := [.handle], laidTests := true, laidLooks := .later }
def BuildMakesUptoCardSaid : Prop := Claim7.holds Tryz.pinned (.plain (OpenSpec.upto buildMakesSpec)) buildMakesUptoCard

/-- THE SECOND FORM's CARD OF 'scantlinglaw17.BuildSpace'. -/
def buildSpaceUptoCard : Claim7 := { stood := { row := buildSpaceUptoRow, standIns := [], harness := (true, "abf7d29df6593952e74f955612f3cb5a1761a7ec215c08b0492cffb26e5a5bbf"), looks := true }, kinds := [], alts := [], laidByText := true, laidKinds := [.handle], laidTests := true, laidLooks := .later }
def BuildSpaceUptoCardSaid : Prop := Claim7.holds Tryz.pinned (.plain (OpenSpec.upto buildSpaceSpec)) buildSpaceUptoCard
end Rows
end Go.Proofs.YtnjlganofjkpfaaGreatDoor
