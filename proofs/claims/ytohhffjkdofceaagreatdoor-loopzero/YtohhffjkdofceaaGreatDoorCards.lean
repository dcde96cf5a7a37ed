/-
  DERIVED. GIVEN WITH THE SEED: THE CARDS: each row of YtohhffjkdofceaaGreatDoorRows.lean that lists a variable, with what it lists TIED to the program's text (the seventh form; the later family's looks); each row that meets fmt, with fmt's text TOLD by the authors' own Lean function (tested against real Go, not proved from fmt's source: count such statements apart). THE CARD IS WHAT COUNTS. Prove the row's statement (the work); the ties are given (YtohhffjkdofceaaGreatDoorTie.lean); close each card by the builder's one call (the guide's Derived/Test/ToyasCard.lean, 'card_holds'). Laid BY PROGRAM, IN A SANDBOX (cutbox-door.mjs). By AI agents, Wed Nov 11 2026. No macro, syntax, notation, axiom, sorry.
-/
import Derived.Test.YtohhffjkdofceaaGreatDoorRows
import GoSem.ClaimSeven
namespace Go.Proofs.YtohhffjkdofceaaGreatDoor
namespace Rows

/-- THE TIED CARD OF 'hornbeamlaw21.LoopZero'. -/
def loopZeroCard : Claim7 := { stood := { row := loopZeroRow, standIns := [], harness := (true, "10c8e6143e61051255dc46de29a5f21114ceeefecb7195ba6173897167f5bb16"), looks := true }, kinds := [], alts := [], laidByText := true, laidKinds := [.data, .handle, .pinned], laidTests := true, laidLooks := .later }
def LoopZeroCardSaid : Prop := Claim7.holds Tryz.pinned (.plain (OpenSpec.ofChange loopZeroSpec)) loopZeroCard

/-- THE SECOND FORM's CARD OF 'hornbeamlaw21.LoopZero'. -/
def loopZeroUptoCard : Claim7 := { stood := { row := loopZeroUptoRow, standIns := [], harness := (true, "10c8e6143e61051255dc46de29a5f21114ceeefecb7195ba6173897167f5bb16"), looks := true }, kinds := [], alts := [], laidByText := true, laidKinds := [.data, .handle, .pinned], laidTests := true, laidLooks := .later }
def LoopZeroUptoCardSaid : Prop := Claim7.holds Tryz.pinned (.plain (OpenSpec.upto loopZeroSpec)) loopZeroUptoCard
end Rows
end Go.Proofs.YtohhffjkdofceaaGreatDoor
