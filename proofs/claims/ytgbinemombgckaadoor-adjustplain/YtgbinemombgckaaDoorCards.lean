/-
  DERIVED. GIVEN WITH THE SEED: THE CARDS: each row of YtgbinemombgckaaDoorRows.lean that lists a variable, with what it lists TIED to the program's text (the seventh form; the later family's looks); each row that meets fmt, with fmt's text TOLD by the authors' own Lean function (tested against real Go, not proved from fmt's source: count such statements apart). THE CARD IS WHAT COUNTS. Prove the row's statement (the work); the ties are given (YtgbinemombgckaaDoorTie.lean); close each card by the builder's one call (the guide's Derived/Test/ToyasCard.lean, 'card_holds'). Laid BY PROGRAM, IN A SANDBOX (cutbox-door.mjs). By AI agents, Wed Nov 11 2026. No macro, syntax, notation, axiom, sorry.
-/
import Derived.Test.YtgbinemombgckaaDoorRows
import GoSem.ClaimSeven
namespace Go.Proofs.YtgbinemombgckaaDoor
namespace Rows

/-- THE TIED CARD OF 'hornbeamlaw11.AdjustForeign'. -/
def adjustForeignCard : Claim7 := { stood := { row := adjustForeignRow, standIns := [], harness := (true, "4dea7161d2ff4e0d235a00e0ab76cd6eb71b876d99d5daa38d7b0c43bc69dab6"), looks := false }, kinds := [], alts := [], laidByText := true, laidKinds := [.data], laidTests := true, laidLooks := .later }
def AdjustForeignCardSaid : Prop := Claim7.holds Tryd.pinned (.plain (OpenSpec.ofChange adjustForeignSpec)) adjustForeignCard

/-- THE TIED CARD OF 'hornbeamlaw11.AdjustOnce'. -/
def adjustOnceCard : Claim7 := { stood := { row := adjustOnceRow, standIns := [], harness := (true, "4dea7161d2ff4e0d235a00e0ab76cd6eb71b876d99d5daa38d7b0c43bc69dab6"), looks := false }, kinds := [], alts := [], laidByText := true, laidKinds := [.data], laidTests := true, laidLooks := .later }
def AdjustOnceCardSaid : Prop := Claim7.holds Tryd.pinned (.plain (OpenSpec.ofChange adjustOnceSpec)) adjustOnceCard

/-- THE TIED CARD OF 'hornbeamlaw11.AdjustPlain'. -/
def adjustPlainCard : Claim7 := { stood := { row := adjustPlainRow, standIns := [], harness := (true, "4dea7161d2ff4e0d235a00e0ab76cd6eb71b876d99d5daa38d7b0c43bc69dab6"), looks := false }, kinds := [], alts := [], laidByText := true, laidKinds := [.data], laidTests := true, laidLooks := .later }
def AdjustPlainCardSaid : Prop := Claim7.holds Tryd.pinned (.plain (OpenSpec.ofChange adjustPlainSpec)) adjustPlainCard

/-- THE SECOND FORM's CARD OF 'hornbeamlaw11.AdjustForeign'. -/
def adjustForeignUptoCard : Claim7 := { stood := { row := adjustForeignUptoRow, standIns := [], harness := (true, "4dea7161d2ff4e0d235a00e0ab76cd6eb71b876d99d5daa38d7b0c43bc69dab6"), looks := false }, kinds := [], alts := [], laidByText := true, laidKinds := [.data], laidTests := true, laidLooks := .later }
def AdjustForeignUptoCardSaid : Prop := Claim7.holds Tryd.pinned (.plain (OpenSpec.upto adjustForeignSpec)) adjustForeignUptoCard

/-- THE SECOND FORM's CARD OF 'hornbeamlaw11.AdjustOnce'. -/
def adjustOnceUptoCard : Claim7 := { stood := { row := adjustOnceUptoRow, standIns := [], harness := (true, "4dea7161d2ff4e0d235a00e0ab76cd6eb71b876d99d5daa38d7b0c43bc69dab6"), looks := false }, kinds := [], alts := [], laidByText := true, laidKinds := [.data], laidTests := true, laidLooks := .later }
def AdjustOnceUptoCardSaid : Prop := Claim7.holds Tryd.pinned (.plain (OpenSpec.upto adjustOnceSpec)) adjustOnceUptoCard

/-- THE SECOND FORM's CARD OF 'hornbeamlaw11.AdjustPlain'. -/
def adjustPlainUptoCard : Claim7 := { stood := { row := adjustPlainUptoRow, standIns := [], harness := (true, "4dea7161d2ff4e0d235a00e0ab76cd6eb71b876d99d5daa38d7b0c43bc69dab6"), looks := false }, kinds := [], alts := [], laidByText := true, laidKinds := [.data], laidTests := true, laidLooks := .later }
def AdjustPlainUptoCardSaid : Prop := Claim7.holds Tryd.pinned (.plain (OpenSpec.upto adjustPlainSpec)) adjustPlainUptoCard
end Rows
end Go.Proofs.YtgbinemombgckaaDoor
