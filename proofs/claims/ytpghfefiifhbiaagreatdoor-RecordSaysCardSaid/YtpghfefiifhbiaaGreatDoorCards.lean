/-
  DERIVED. GIVEN WITH THE SEED: THE CARDS: each row of YtpghfefiifhbiaaGreatDoorRows.lean that lists a variable, with what it lists TIED to the program's text (the seventh form; the later family's looks); each row that meets fmt, with fmt's text TOLD by the authors' own Lean function (tested against real Go, not proved from fmt's source: count such statements apart). THE CARD IS WHAT COUNTS. Prove the row's statement (the work); the ties are given (YtpghfefiifhbiaaGreatDoorTie.lean); close each card by the builder's one call (the guide's Derived/Test/ToyasCard.lean, 'card_holds'). Laid BY PROGRAM, IN A SANDBOX (cutbox-door.mjs). By AI agents, Wed Nov 11 2026. No macro, syntax, notation, axiom, sorry.
-/
import Derived.Test.YtpghfefiifhbiaaGreatDoorRows
import GoSem.ClaimSeven
namespace Go.Proofs.YtpghfefiifhbiaaGreatDoor
namespace Rows

/-- THE TIED CARD OF 'hammerpondlaw.RecordSays'. -/
def recordSaysCard : Claim7 := { stood := { row := recordSaysRow, standIns := [], harness := (true, "57e49398d2a1d5b21e029c904b7cc1323a5f4c3f6c86a74d0b7695c0532397f4"), looks := true }, kinds := [], alts := [], laidByText := true, laidKinds := [.data, .data, .data, .data, .sentinel, .sentinel, .pinned], laidTests := true, laidLooks := .later }
def RecordSaysCardSaid : Prop := Claim7.holds Tryz.pinned (.plain (OpenSpec.ofChange recordSaysSpec)) recordSaysCard

/-- THE SECOND FORM's CARD OF 'hammerpondlaw.RecordSays'. -/
def recordSaysUptoCard : Claim7 := { stood := { row := recordSaysUptoRow, standIns := [], harness := (true, "57e49398d2a1d5b21e029c904b7cc1323a5f4c3f6c86a74d0b7695c0532397f4"), looks := true }, kinds := [], alts := [], laidByText := true, laidKinds := [.data, .data, .data, .data, .sentinel, .sentinel, .pinned], laidTests := true, laidLooks := .later }
def RecordSaysUptoCardSaid : Prop := Claim7.holds Tryz.pinned (.plain (OpenSpec.upto recordSaysSpec)) recordSaysUptoCard
end Rows
end Go.Proofs.YtpghfefiifhbiaaGreatDoor
