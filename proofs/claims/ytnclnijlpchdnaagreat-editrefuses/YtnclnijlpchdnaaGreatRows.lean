/-
  No cell of these rows narrows 'for every input' (looked for: loops, veiled, ifaces, maps, wideKeys, modest, calm, conditions, laid).
  DERIVED. THE GIVEN ROWS OF THIS SEAT. 4 by the template 'for every input the law returns true; each argument reads behind the call as it read before'; 0 by the template 'total and deterministic' (their statements: YtnclnijlpchdnaaGreatTotals.lean).
  GIVEN WITH THE SEED: the statements are not yours to turn. If you find one false, say at which input.
  Laid BY PROGRAM, IN A SANDBOX (cutbox-rows.mjs): the forced cells as the released guide's own fill.sh prints them over the translation 86b7a1d1de8bed63… (all of the seat's roots in one cut). By AI agents, Wed Nov 11 2026. No macro, syntax, notation, axiom, sorry.
-/
import Derived.Test.YtnclnijlpchdnaaGreatChecked
import GoSem.Claim
import GoSem.ClaimJoined
import GoSem.ClaimMapViews
import Derived.JoinedTies
import Derived.KernelRfl
namespace Go.Proofs.YtnclnijlpchdnaaGreat
/- THE CELL 'sum', in the pinned program and in every row, IS THE sha256 OF THE DUMP (.gsa) THAT YtnclnijlpchdnaaGreatProg.lean LOADS. Nothing in Lean hashes anything: it is a label: what it is worth is what the hold of that sum in a sandbox is worth. -/
noncomputable def Tryz.pinned : Pinned := { name := "ytnclnijlpchdnaagreat", sum := "86b7a1d1de8bed6324dea80da7a972f05bf807d56823af2cc4110fa538123d5b", checked := Tryz.checked }
namespace Rows
def none {H : Type} : Left H := { results := [], args := [] }

/-- 'hornbeamlaw02.EditPlays': WHATEVER THE INPUT: true; the input reads as it did. -/
def editPlaysSpec : ChangeSpec := { name := "editPlays", fn := fun _ => fun
  | [d] => { results := [.lit (.bool true)], args := [d] }
  | _ => none }
def editPlaysRow : OpenClaim := { program := "ytnclnijlpchdnaagreat", sum := "86b7a1d1de8bed6324dea80da7a972f05bf807d56823af2cc4110fa538123d5b", func := "hornbeam/hornbeamlaw02.EditPlays", spec := "editPlays", inPlace := ["internal/bytealg.IndexByteString", "internal/bytealg.IndexString"], unfollowed := true, recurses := true, named := ["internal/bytealg.MaxLen"], apart := false }
def EditPlaysSaid : Prop := editPlaysRow.holds Tryz.pinned (OpenSpec.ofChange editPlaysSpec)

/-- ITS FALSE NEIGHBOUR: 'it returns false'. Refute it at one input. -/
def editPlaysWrong : ChangeSpec := { name := "editPlays", fn := fun _ => fun
  | [d] => { results := [.lit (.bool false)], args := [d] }
  | _ => none }
def EditPlaysWrongFalsely : Prop := editPlaysRow.holds Tryz.pinned (OpenSpec.ofChange editPlaysWrong)

/-- 'hornbeamlaw02.EditDocument': WHATEVER THE INPUT: true; the input reads as it did. -/
def editDocumentSpec : ChangeSpec := { name := "editDocument", fn := fun _ => fun
  | [d] => { results := [.lit (.bool true)], args := [d] }
  | _ => none }
def editDocumentRow : OpenClaim := { program := "ytnclnijlpchdnaagreat", sum := "86b7a1d1de8bed6324dea80da7a972f05bf807d56823af2cc4110fa538123d5b", func := "hornbeam/hornbeamlaw02.EditDocument", spec := "editDocument", inPlace := ["internal/bytealg.IndexByteString", "internal/bytealg.IndexString"], unfollowed := true, recurses := true, named := ["internal/bytealg.MaxLen"], apart := false }
def EditDocumentSaid : Prop := editDocumentRow.holds Tryz.pinned (OpenSpec.ofChange editDocumentSpec)

/-- ITS FALSE NEIGHBOUR: 'it returns false'. Refute it at one input. -/
def editDocumentWrong : ChangeSpec := { name := "editDocument", fn := fun _ => fun
  | [d] => { results := [.lit (.bool false)], args := [d] }
  | _ => none }
def EditDocumentWrongFalsely : Prop := editDocumentRow.holds Tryz.pinned (OpenSpec.ofChange editDocumentWrong)

/-- 'hornbeamlaw02.EditRefuses': WHATEVER THE INPUT: true; the input reads as it did. -/
def editRefusesSpec : ChangeSpec := { name := "editRefuses", fn := fun _ => fun
  | [d1, d2] => { results := [.lit (.bool true)], args := [d1, d2] }
  | _ => none }
def editRefusesRow : OpenClaim := { program := "ytnclnijlpchdnaagreat", sum := "86b7a1d1de8bed6324dea80da7a972f05bf807d56823af2cc4110fa538123d5b", func := "hornbeam/hornbeamlaw02.EditRefuses", spec := "editRefuses", inPlace := ["internal/bytealg.IndexByteString", "internal/bytealg.IndexString"], unfollowed := true, recurses := true, named := ["internal/bytealg.MaxLen"], apart := false }
def EditRefusesSaid : Prop := editRefusesRow.holds Tryz.pinned (OpenSpec.ofChange editRefusesSpec)

/-- ITS FALSE NEIGHBOUR: 'it returns false'. Refute it at one input. -/
def editRefusesWrong : ChangeSpec := { name := "editRefuses", fn := fun _ => fun
  | [d1, d2] => { results := [.lit (.bool false)], args := [d1, d2] }
  | _ => none }
def EditRefusesWrongFalsely : Prop := editRefusesRow.holds Tryz.pinned (OpenSpec.ofChange editRefusesWrong)

/-- 'hornbeamlaw02.EditMoves': WHATEVER THE INPUT: true; the input reads as it did. -/
def editMovesSpec : ChangeSpec := { name := "editMoves", fn := fun _ => fun
  | [d1, d2, d3, d4] => { results := [.lit (.bool true)], args := [d1, d2, d3, d4] }
  | _ => none }
def editMovesRow : OpenClaim := { program := "ytnclnijlpchdnaagreat", sum := "86b7a1d1de8bed6324dea80da7a972f05bf807d56823af2cc4110fa538123d5b", func := "hornbeam/hornbeamlaw02.EditMoves", spec := "editMoves", inPlace := ["internal/bytealg.IndexByteString", "internal/bytealg.IndexString"], unfollowed := true, recurses := true, named := ["internal/bytealg.MaxLen"], apart := false }
def EditMovesSaid : Prop := editMovesRow.holds Tryz.pinned (OpenSpec.ofChange editMovesSpec)

/-- ITS FALSE NEIGHBOUR: 'it returns false'. Refute it at one input. -/
def editMovesWrong : ChangeSpec := { name := "editMoves", fn := fun _ => fun
  | [d1, d2, d3, d4] => { results := [.lit (.bool false)], args := [d1, d2, d3, d4] }
  | _ => none }
def EditMovesWrongFalsely : Prop := editMovesRow.holds Tryz.pinned (OpenSpec.ofChange editMovesWrong)

/- THE SECOND FORM. 'bulk': how many values and letters a reading holds, each counted each time it is reached (what is shared counts as often as it is met; a slice's spare places count too). A statement '..UptoSaid' is the law's where the arguments, and the package variables that the reading takes, are together of bulk at most 1048576: NARROWER than '..Said'. Prove '..Said' where nothing that the law and all that it calls make is longer than what came in: it says more and counts as full. Else prove '..UptoSaid'. A law counts once. -/
mutual
def uptoBulk {H : Type} : DataW H → Nat
  | .lit (.string bytes) => bytes.length + 1
  | .lit _ => 1
  | .nil => 1
  | .ptr d => uptoBulk d + 1
  | .slice elems spare => uptoBulkAll elems + uptoBulkAll spare + 1
  | .agg parts => uptoBulkAll parts + 1
  | .iface _ d => uptoBulk d + 1
  | .map entries => uptoBulkEntries entries + 1
  | .held _ => 1
def uptoBulkAll {H : Type} : List (DataW H) → Nat
  | [] => 0
  | d :: r => uptoBulk d + uptoBulkAll r
def uptoBulkEntries {H : Type} : List (Lit × DataW H) → Nat
  | [] => 0
  | x :: r => uptoBulkEntry x + uptoBulkEntries r
def uptoBulkEntry {H : Type} : Lit × DataW H → Nat
  | (.string bytes, d) => bytes.length + uptoBulk d + 1
  | (_, d) => uptoBulk d + 1
 end
def uptoSmall : (H : Type) → List (DataW H) → Bool := fun _ ds => decide (uptoBulkAll ds ≤ 1048576)
def OpenSpec.upto (s : _root_.Go.ChangeSpec) : _root_.Go.OpenSpec := { _root_.Go.OpenSpec.ofChange s with cond := some uptoSmall }

/-- 'hornbeamlaw02.EditPlays', WHERE WHAT IT READS IS OF BULK AT MOST 1048576: true; the input reads as it did. -/
def editPlaysUptoRow : OpenClaim := { program := "ytnclnijlpchdnaagreat", sum := "86b7a1d1de8bed6324dea80da7a972f05bf807d56823af2cc4110fa538123d5b", func := "hornbeam/hornbeamlaw02.EditPlays", spec := "editPlays", inPlace := ["internal/bytealg.IndexByteString", "internal/bytealg.IndexString"], unfollowed := true, recurses := true, named := ["internal/bytealg.MaxLen"], apart := false, narrowed := true }
def EditPlaysUptoSaid : Prop := editPlaysUptoRow.holds Tryz.pinned (OpenSpec.upto editPlaysSpec)

/-- 'hornbeamlaw02.EditDocument', WHERE WHAT IT READS IS OF BULK AT MOST 1048576: true; the input reads as it did. -/
def editDocumentUptoRow : OpenClaim := { program := "ytnclnijlpchdnaagreat", sum := "86b7a1d1de8bed6324dea80da7a972f05bf807d56823af2cc4110fa538123d5b", func := "hornbeam/hornbeamlaw02.EditDocument", spec := "editDocument", inPlace := ["internal/bytealg.IndexByteString", "internal/bytealg.IndexString"], unfollowed := true, recurses := true, named := ["internal/bytealg.MaxLen"], apart := false, narrowed := true }
def EditDocumentUptoSaid : Prop := editDocumentUptoRow.holds Tryz.pinned (OpenSpec.upto editDocumentSpec)

/-- 'hornbeamlaw02.EditRefuses', WHERE WHAT IT READS IS OF BULK AT MOST 1048576: true; the input reads as it did. -/
def editRefusesUptoRow : OpenClaim := { program := "ytnclnijlpchdnaagreat", sum := "86b7a1d1de8bed6324dea80da7a972f05bf807d56823af2cc4110fa538123d5b", func := "hornbeam/hornbeamlaw02.EditRefuses", spec := "editRefuses", inPlace := ["internal/bytealg.IndexByteString", "internal/bytealg.IndexString"], unfollowed := true, recurses := true, named := ["internal/bytealg.MaxLen"], apart := false, narrowed := true }
def EditRefusesUptoSaid : Prop := editRefusesUptoRow.holds Tryz.pinned (OpenSpec.upto editRefusesSpec)

/-- 'hornbeamlaw02.EditMoves', WHERE WHAT IT READS IS OF BULK AT MOST 1048576: true; the input reads as it did. -/
def editMovesUptoRow : OpenClaim := { program := "ytnclnijlpchdnaagreat", sum := "86b7a1d1de8bed6324dea80da7a972f05bf807d56823af2cc4110fa538123d5b", func := "hornbeam/hornbeamlaw02.EditMoves", spec := "editMoves", inPlace := ["internal/bytealg.IndexByteString", "internal/bytealg.IndexString"], unfollowed := true, recurses := true, named := ["internal/bytealg.MaxLen"], apart := false, narrowed := true }
def EditMovesUptoSaid : Prop := editMovesUptoRow.holds Tryz.pinned (OpenSpec.upto editMovesSpec)

end Rows
end Go.Proofs.YtnclnijlpchdnaaGreat
