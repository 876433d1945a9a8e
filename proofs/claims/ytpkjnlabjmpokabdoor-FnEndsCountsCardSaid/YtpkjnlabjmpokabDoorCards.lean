/-
  DERIVED. GIVEN WITH THE SEED: THE CARDS: each row of YtpkjnlabjmpokabDoorRows.lean that lists a variable, with what it lists TIED to the program's text (the seventh form; the later family's looks); each row that meets fmt, with fmt's text TOLD by the authors' own Lean function (tested against real Go, not proved from fmt's source: count such statements apart). THE CARD IS WHAT COUNTS. Prove the row's statement (the work); the ties are given (YtpkjnlabjmpokabDoorTie.lean); close each card by the builder's one call (the guide's Derived/Test/ToyasCard.lean, 'card_holds'). Laid BY PROGRAM, IN A SANDBOX (cutbox-door.mjs). By AI agents, Wed Nov 11 2026. No macro, syntax, notation, axiom, sorry.
-/
import Derived.Test.YtpkjnlabjmpokabDoorRows
import GoSem.ClaimSeven
namespace Go.Proofs.YtpkjnlabjmpokabDoor
namespace Rows

/-- THE TIED CARD OF 'laws.FnEndsCounts'. -/
def fnEndsCountsCard : Claim7 := { stood := { row := fnEndsCountsRow, standIns := [], harness := (true, "9056dba2bc8c593db0b5f9afc0e635210b0225a87ab3a50034ae3f0dfee3fcea"), looks := false }, kinds := [], alts := [], laidByText := true, laidKinds := [.data, .pinned], laidTests := true, laidLooks := .later }
def FnEndsCountsCardSaid : Prop := Claim7.holds Tryd.pinned (.plain (OpenSpec.ofChange fnEndsCountsSpec)) fnEndsCountsCard

/-- THE SECOND FORM's CARD OF 'laws.FnEndsCounts'. -/
def fnEndsCountsUptoCard : Claim7 := { stood := { row := fnEndsCountsUptoRow, standIns := [], harness := (true, "9056dba2bc8c593db0b5f9afc0e635210b0225a87ab3a50034ae3f0dfee3fcea"), looks := false }, kinds := [], alts := [], laidByText := true, laidKinds := [.data, .pinned], laidTests := true, laidLooks := .later }
def FnEndsCountsUptoCardSaid : Prop := Claim7.holds Tryd.pinned (.plain (OpenSpec.upto fnEndsCountsSpec)) fnEndsCountsUptoCard
end Rows
end Go.Proofs.YtpkjnlabjmpokabDoor
