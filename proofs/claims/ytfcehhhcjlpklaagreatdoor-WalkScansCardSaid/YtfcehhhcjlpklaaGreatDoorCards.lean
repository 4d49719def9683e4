/-
  DERIVED. GIVEN WITH THE SEED: THE CARDS: each row of YtfcehhhcjlpklaaGreatDoorRows.lean that lists a variable, with what it lists TIED to the program's text (the seventh form; the later family's looks); each row that meets fmt, with fmt's text TOLD by the authors' own Lean function (tested against real Go, not proved from fmt's source: count such statements apart). THE CARD IS WHAT COUNTS. Prove the row's statement (the work); the ties are given (YtfcehhhcjlpklaaGreatDoorTie.lean); close each card by the builder's one call (the guide's Derived/Test/ToyasCard.lean, 'card_holds'). Laid BY PROGRAM, IN A SANDBOX (cutbox-door.mjs). By AI agents, Wed Nov 11 2026. No macro, syntax, notation, axiom, sorry.
-/
import Derived.Test.YtfcehhhcjlpklaaGreatDoorRows
import GoSem.ClaimSeven
namespace Go.Proofs.YtfcehhhcjlpklaaGreatDoor
namespace Rows

/-- THE TIED CARD OF 'scantlinglaw14.WalkScans'. -/
def walkScansCard : Claim7 := { stood := { row := walkScansRow, standIns := [], harness := (true, "b2cc3fb801df6fd59cb10d11314b863d0f53ed772767ab87838b972176357b4a"), looks := true }, kinds := [], alts := [], laidByText := true, laidKinds := [.handle], laidTests := true, laidLooks := .later }
def WalkScansCardSaid : Prop := Claim7.holds Tryz.pinned (.plain (OpenSpec.ofChange walkScansSpec)) walkScansCard

/-- THE TIED CARD OF 'scantlinglaw14.WalkWhole'. -/
def walkWholeCard : Claim7 := { stood := { row := walkWholeRow, standIns := [], harness := (true, "b2cc3fb801df6fd59cb10d11314b863d0f53ed772767ab87838b972176357b4a"), looks := true }, kinds := [], alts := [], laidByText := true, laidKinds := [.handle], laidTests := true, laidLooks := .later }
def WalkWholeCardSaid : Prop := Claim7.holds Tryz.pinned (.plain (OpenSpec.ofChange walkWholeSpec)) walkWholeCard

/-- THE SECOND FORM's CARD OF 'scantlinglaw14.WalkScans'. -/
def walkScansUptoCard : Claim7 := { stood := { row := walkScansUptoRow, standIns := [], harness := (true, "b2cc3fb801df6fd59cb10d11314b863d0f53ed772767ab87838b972176357b4a"), looks := true }, kinds := [], alts := [], laidByText := true, laidKinds := [.handle], laidTests := true, laidLooks := .later }
def WalkScansUptoCardSaid : Prop := Claim7.holds Tryz.pinned (.plain (OpenSpec.upto walkScansSpec)) walkScansUptoCard

/-- THE SECOND FORM's CARD OF 'scantlinglaw14.WalkWhole'. -/
def walkWholeUptoCard : Claim7 := { stood := { row := walkWholeUptoRow, standIns := [], harness := (true, "b2cc3fb801df6fd59cb10d11314b863d0f53ed772767ab87838b972176357b4a"), looks := true }, kinds := [], alts := [], laidByText := true, laidKinds := [.handle], laidTests := true, laidLooks := .later }
def WalkWholeUptoCardSaid : Prop := Claim7.holds Tryz.pinned (.plain (OpenSpec.upto walkWholeSpec)) walkWholeUptoCard
end Rows
end Go.Proofs.YtfcehhhcjlpklaaGreatDoor
