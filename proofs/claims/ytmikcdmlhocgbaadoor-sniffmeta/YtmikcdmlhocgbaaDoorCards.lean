/-
  DERIVED. GIVEN WITH THE SEED: THE CARDS: each row of YtmikcdmlhocgbaaDoorRows.lean that lists a variable, with what it lists TIED to the program's text (the seventh form; the later family's looks); each row that meets fmt, with fmt's text TOLD by the authors' own Lean function (tested against real Go, not proved from fmt's source: count such statements apart). THE CARD IS WHAT COUNTS. Prove the row's statement (the work); the ties are given (YtmikcdmlhocgbaaDoorTie.lean); close each card by the builder's one call (the guide's Derived/Test/ToyasCard.lean, 'card_holds'). Laid BY PROGRAM, IN A SANDBOX (cutbox-door.mjs). By AI agents, Wed Nov 11 2026. No macro, syntax, notation, axiom, sorry.
-/
import Derived.Test.YtmikcdmlhocgbaaDoorRows
import GoSem.ClaimSeven
namespace Go.Proofs.YtmikcdmlhocgbaaDoor
namespace Rows

/-- THE TIED CARD OF 'hornbeamlaw06.SniffMarks'. -/
def sniffMarksCard : Claim7 := { stood := { row := sniffMarksRow, standIns := [], harness := (true, "43626b1285b5c59ec2c0c457548771643ef6e04cb75304d6036b2e25e185c2c0"), looks := false }, kinds := [], alts := [], laidByText := true, laidKinds := [.data, .pinned], laidTests := true, laidLooks := .later }
def SniffMarksCardSaid : Prop := Claim7.holds Tryd.pinned (.plain (OpenSpec.ofChange sniffMarksSpec)) sniffMarksCard

/-- THE TIED CARD OF 'hornbeamlaw06.SniffPrescans'. -/
def sniffPrescansCard : Claim7 := { stood := { row := sniffPrescansRow, standIns := [], harness := (true, "43626b1285b5c59ec2c0c457548771643ef6e04cb75304d6036b2e25e185c2c0"), looks := false }, kinds := [], alts := [], laidByText := true, laidKinds := [.data, .pinned], laidTests := true, laidLooks := .later }
def SniffPrescansCardSaid : Prop := Claim7.holds Tryd.pinned (.plain (OpenSpec.ofChange sniffPrescansSpec)) sniffPrescansCard

/-- THE TIED CARD OF 'hornbeamlaw06.SniffContents'. -/
def sniffContentsCard : Claim7 := { stood := { row := sniffContentsRow, standIns := [], harness := (true, "43626b1285b5c59ec2c0c457548771643ef6e04cb75304d6036b2e25e185c2c0"), looks := false }, kinds := [], alts := [], laidByText := true, laidKinds := [.data, .pinned], laidTests := true, laidLooks := .later }
def SniffContentsCardSaid : Prop := Claim7.holds Tryd.pinned (.plain (OpenSpec.ofChange sniffContentsSpec)) sniffContentsCard

/-- THE TIED CARD OF 'hornbeamlaw06.SniffChooses'. -/
def sniffChoosesCard : Claim7 := { stood := { row := sniffChoosesRow, standIns := [], harness := (true, "43626b1285b5c59ec2c0c457548771643ef6e04cb75304d6036b2e25e185c2c0"), looks := false }, kinds := [], alts := [], laidByText := true, laidKinds := [.data, .pinned], laidTests := true, laidLooks := .later }
def SniffChoosesCardSaid : Prop := Claim7.holds Tryd.pinned (.plain (OpenSpec.ofChange sniffChoosesSpec)) sniffChoosesCard

/-- THE TIED CARD OF 'hornbeamlaw06.SniffBound'. -/
def sniffBoundCard : Claim7 := { stood := { row := sniffBoundRow, standIns := [], harness := (true, "43626b1285b5c59ec2c0c457548771643ef6e04cb75304d6036b2e25e185c2c0"), looks := false }, kinds := [], alts := [], laidByText := true, laidKinds := [.data, .pinned], laidTests := true, laidLooks := .later }
def SniffBoundCardSaid : Prop := Claim7.holds Tryd.pinned (.plain (OpenSpec.ofChange sniffBoundSpec)) sniffBoundCard

/-- THE TIED CARD OF 'hornbeamlaw06.SniffPlain'. -/
def sniffPlainCard : Claim7 := { stood := { row := sniffPlainRow, standIns := [], harness := (true, "43626b1285b5c59ec2c0c457548771643ef6e04cb75304d6036b2e25e185c2c0"), looks := false }, kinds := [], alts := [], laidByText := true, laidKinds := [.data, .pinned], laidTests := true, laidLooks := .later }
def SniffPlainCardSaid : Prop := Claim7.holds Tryd.pinned (.plain (OpenSpec.ofChange sniffPlainSpec)) sniffPlainCard

/-- THE TIED CARD OF 'hornbeamlaw06.SniffMeta'. -/
def sniffMetaCard : Claim7 := { stood := { row := sniffMetaRow, standIns := [], harness := (true, "43626b1285b5c59ec2c0c457548771643ef6e04cb75304d6036b2e25e185c2c0"), looks := false }, kinds := [], alts := [], laidByText := true, laidKinds := [.data, .pinned], laidTests := true, laidLooks := .later }
def SniffMetaCardSaid : Prop := Claim7.holds Tryd.pinned (.plain (OpenSpec.ofChange sniffMetaSpec)) sniffMetaCard

/-- THE SECOND FORM's CARD OF 'hornbeamlaw06.SniffMarks'. -/
def sniffMarksUptoCard : Claim7 := { stood := { row := sniffMarksUptoRow, standIns := [], harness := (true, "43626b1285b5c59ec2c0c457548771643ef6e04cb75304d6036b2e25e185c2c0"), looks := false }, kinds := [], alts := [], laidByText := true, laidKinds := [.data, .pinned], laidTests := true, laidLooks := .later }
def SniffMarksUptoCardSaid : Prop := Claim7.holds Tryd.pinned (.plain (OpenSpec.upto sniffMarksSpec)) sniffMarksUptoCard

/-- THE SECOND FORM's CARD OF 'hornbeamlaw06.SniffPrescans'. -/
def sniffPrescansUptoCard : Claim7 := { stood := { row := sniffPrescansUptoRow, standIns := [], harness := (true, "43626b1285b5c59ec2c0c457548771643ef6e04cb75304d6036b2e25e185c2c0"), looks := false }, kinds := [], alts := [], laidByText := true, laidKinds := [.data, .pinned], laidTests := true, laidLooks := .later }
def SniffPrescansUptoCardSaid : Prop := Claim7.holds Tryd.pinned (.plain (OpenSpec.upto sniffPrescansSpec)) sniffPrescansUptoCard

/-- THE SECOND FORM's CARD OF 'hornbeamlaw06.SniffContents'. -/
def sniffContentsUptoCard : Claim7 := { stood := { row := sniffContentsUptoRow, standIns := [], harness := (true, "43626b1285b5c59ec2c0c457548771643ef6e04cb75304d6036b2e25e185c2c0"), looks := false }, kinds := [], alts := [], laidByText := true, laidKinds := [.data, .pinned], laidTests := true, laidLooks := .later }
def SniffContentsUptoCardSaid : Prop := Claim7.holds Tryd.pinned (.plain (OpenSpec.upto sniffContentsSpec)) sniffContentsUptoCard

/-- THE SECOND FORM's CARD OF 'hornbeamlaw06.SniffChooses'. -/
def sniffChoosesUptoCard : Claim7 := { stood := { row := sniffChoosesUptoRow, standIns := [], harness := (true, "43626b1285b5c59ec2c0c457548771643ef6e04cb75304d6036b2e25e185c2c0"), looks := false }, kinds := [], alts := [], laidByText := true, laidKinds := [.data, .pinned], laidTests := true, laidLooks := .later }
def SniffChoosesUptoCardSaid : Prop := Claim7.holds Tryd.pinned (.plain (OpenSpec.upto sniffChoosesSpec)) sniffChoosesUptoCard

/-- THE SECOND FORM's CARD OF 'hornbeamlaw06.SniffBound'. -/
def sniffBoundUptoCard : Claim7 := { stood := { row := sniffBoundUptoRow, standIns := [], harness := (true, "43626b1285b5c59ec2c0c457548771643ef6e04cb75304d6036b2e25e185c2c0"), looks := false }, kinds := [], alts := [], laidByText := true, laidKinds := [.data, .pinned], laidTests := true, laidLooks := .later }
def SniffBoundUptoCardSaid : Prop := Claim7.holds Tryd.pinned (.plain (OpenSpec.upto sniffBoundSpec)) sniffBoundUptoCard

/-- THE SECOND FORM's CARD OF 'hornbeamlaw06.SniffPlain'. -/
def sniffPlainUptoCard : Claim7 := { stood := { row := sniffPlainUptoRow, standIns := [], harness := (true, "43626b1285b5c59ec2c0c457548771643ef6e04cb75304d6036b2e25e185c2c0"), looks := false }, kinds := [], alts := [], laidByText := true, laidKinds := [.data, .pinned], laidTests := true, laidLooks := .later }
def SniffPlainUptoCardSaid : Prop := Claim7.holds Tryd.pinned (.plain (OpenSpec.upto sniffPlainSpec)) sniffPlainUptoCard

/-- THE SECOND FORM's CARD OF 'hornbeamlaw06.SniffMeta'. -/
def sniffMetaUptoCard : Claim7 := { stood := { row := sniffMetaUptoRow, standIns := [], harness := (true, "43626b1285b5c59ec2c0c457548771643ef6e04cb75304d6036b2e25e185c2c0"), looks := false }, kinds := [], alts := [], laidByText := true, laidKinds := [.data, .pinned], laidTests := true, laidLooks := .later }
def SniffMetaUptoCardSaid : Prop := Claim7.holds Tryd.pinned (.plain (OpenSpec.upto sniffMetaSpec)) sniffMetaUptoCard
end Rows
end Go.Proofs.YtmikcdmlhocgbaaDoor
