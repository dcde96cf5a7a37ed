/-
  No cell of these rows narrows 'for every input' (looked for: loops, veiled, ifaces, maps, wideKeys, modest, calm, conditions, laid).
  DERIVED. THE GIVEN ROWS OF THIS SEAT. 5 by the template 'for every input the law returns true; each argument reads behind the call as it read before'; 0 by the template 'total and deterministic' (their statements: YtflijabaniiccaaTotals.lean).
  GIVEN WITH THE SEED: the statements are not yours to turn. If you find one false, say at which input.
  Laid BY PROGRAM, IN A SANDBOX (cutbox-rows.mjs): the forced cells as the released guide's own fill.sh prints them over the translation fd3eade2673e91af… (all of the seat's roots in one cut). By AI agents, Wed Nov 11 2026. No macro, syntax, notation, axiom, sorry.
-/
import Derived.Test.YtflijabaniiccaaChecked
import GoSem.Claim
import GoSem.ClaimJoined
import GoSem.ClaimMapViews
import Derived.JoinedTies
import Derived.KernelRfl
namespace Go.Proofs.Ytflijabaniiccaa
/- THE CELL 'sum', in the pinned program and in every row, IS THE sha256 OF THE DUMP (.gsa) THAT YtflijabaniiccaaProg.lean LOADS. Nothing in Lean hashes anything: it is a label: what it is worth is what the hold of that sum in a sandbox is worth. -/
noncomputable def Try.pinned : Pinned := { name := "ytflijabaniiccaa", sum := "fd3eade2673e91afdf880b244e06e6f839122c1307221e1042754f5ad1c72391", checked := Try.checked }
namespace Rows
def none {H : Type} : Left H := { results := [], args := [] }

/-- 'hornbeamlaw12.StackPlays': WHATEVER THE INPUT: true; the input reads as it did. -/
def stackPlaysSpec : ChangeSpec := { name := "stackPlays", fn := fun _ => fun
  | [d1, d2] => { results := [.lit (.bool true)], args := [d1, d2] }
  | _ => none }
def stackPlaysRow : OpenClaim := { program := "ytflijabaniiccaa", sum := "fd3eade2673e91afdf880b244e06e6f839122c1307221e1042754f5ad1c72391", func := "hornbeam/hornbeamlaw12.StackPlays", spec := "stackPlays", unfollowed := true, recurses := true, apart := false }
def StackPlaysSaid : Prop := stackPlaysRow.holds Try.pinned (OpenSpec.ofChange stackPlaysSpec)

/-- ITS FALSE NEIGHBOUR: 'it returns false'. Refute it at one input. -/
def stackPlaysWrong : ChangeSpec := { name := "stackPlays", fn := fun _ => fun
  | [d1, d2] => { results := [.lit (.bool false)], args := [d1, d2] }
  | _ => none }
def StackPlaysWrongFalsely : Prop := stackPlaysRow.holds Try.pinned (OpenSpec.ofChange stackPlaysWrong)

/-- 'hornbeamlaw13.ActivePlays': WHATEVER THE INPUT: true; the input reads as it did. -/
def activePlaysSpec : ChangeSpec := { name := "activePlays", fn := fun _ => fun
  | [d1, d2] => { results := [.lit (.bool true)], args := [d1, d2] }
  | _ => none }
def activePlaysRow : OpenClaim := { program := "ytflijabaniiccaa", sum := "fd3eade2673e91afdf880b244e06e6f839122c1307221e1042754f5ad1c72391", func := "hornbeam/hornbeamlaw13.ActivePlays", spec := "activePlays", unfollowed := true, recurses := true, apart := false }
def ActivePlaysSaid : Prop := activePlaysRow.holds Try.pinned (OpenSpec.ofChange activePlaysSpec)

/-- ITS FALSE NEIGHBOUR: 'it returns false'. Refute it at one input. -/
def activePlaysWrong : ChangeSpec := { name := "activePlays", fn := fun _ => fun
  | [d1, d2] => { results := [.lit (.bool false)], args := [d1, d2] }
  | _ => none }
def ActivePlaysWrongFalsely : Prop := activePlaysRow.holds Try.pinned (OpenSpec.ofChange activePlaysWrong)

/-- 'hornbeamlaw13.ActiveArk': WHATEVER THE INPUT: true; the input reads as it did. -/
def activeArkSpec : ChangeSpec := { name := "activeArk", fn := fun _ => fun
  | [d1, d2, d3] => { results := [.lit (.bool true)], args := [d1, d2, d3] }
  | _ => none }
def activeArkRow : OpenClaim := { program := "ytflijabaniiccaa", sum := "fd3eade2673e91afdf880b244e06e6f839122c1307221e1042754f5ad1c72391", func := "hornbeam/hornbeamlaw13.ActiveArk", spec := "activeArk", unfollowed := true, recurses := true, apart := false }
def ActiveArkSaid : Prop := activeArkRow.holds Try.pinned (OpenSpec.ofChange activeArkSpec)

/-- ITS FALSE NEIGHBOUR: 'it returns false'. Refute it at one input. -/
def activeArkWrong : ChangeSpec := { name := "activeArk", fn := fun _ => fun
  | [d1, d2, d3] => { results := [.lit (.bool false)], args := [d1, d2, d3] }
  | _ => none }
def ActiveArkWrongFalsely : Prop := activeArkRow.holds Try.pinned (OpenSpec.ofChange activeArkWrong)

/-- 'hornbeamlaw13.ActiveZero': WHATEVER THE INPUT: true; the input reads as it did. -/
def activeZeroSpec : ChangeSpec := { name := "activeZero", fn := fun _ => fun
  | [d1, d2] => { results := [.lit (.bool true)], args := [d1, d2] }
  | _ => none }
def activeZeroRow : OpenClaim := { program := "ytflijabaniiccaa", sum := "fd3eade2673e91afdf880b244e06e6f839122c1307221e1042754f5ad1c72391", func := "hornbeam/hornbeamlaw13.ActiveZero", spec := "activeZero", unfollowed := true, recurses := true, apart := false }
def ActiveZeroSaid : Prop := activeZeroRow.holds Try.pinned (OpenSpec.ofChange activeZeroSpec)

/-- ITS FALSE NEIGHBOUR: 'it returns false'. Refute it at one input. -/
def activeZeroWrong : ChangeSpec := { name := "activeZero", fn := fun _ => fun
  | [d1, d2] => { results := [.lit (.bool false)], args := [d1, d2] }
  | _ => none }
def ActiveZeroWrongFalsely : Prop := activeZeroRow.holds Try.pinned (OpenSpec.ofChange activeZeroWrong)

/-- 'hornbeamlaw13.ActiveClears': WHATEVER THE INPUT: true; the input reads as it did. -/
def activeClearsSpec : ChangeSpec := { name := "activeClears", fn := fun _ => fun
  | [d1, d2, d3] => { results := [.lit (.bool true)], args := [d1, d2, d3] }
  | _ => none }
def activeClearsRow : OpenClaim := { program := "ytflijabaniiccaa", sum := "fd3eade2673e91afdf880b244e06e6f839122c1307221e1042754f5ad1c72391", func := "hornbeam/hornbeamlaw13.ActiveClears", spec := "activeClears", unfollowed := true, recurses := true, apart := false }
def ActiveClearsSaid : Prop := activeClearsRow.holds Try.pinned (OpenSpec.ofChange activeClearsSpec)

/-- ITS FALSE NEIGHBOUR: 'it returns false'. Refute it at one input. -/
def activeClearsWrong : ChangeSpec := { name := "activeClears", fn := fun _ => fun
  | [d1, d2, d3] => { results := [.lit (.bool false)], args := [d1, d2, d3] }
  | _ => none }
def ActiveClearsWrongFalsely : Prop := activeClearsRow.holds Try.pinned (OpenSpec.ofChange activeClearsWrong)

/- THE SECOND FORM. 'bulk': how many values and letters a reading holds, each counted each time it is reached (what is shared counts as often as it is met; a slice's spare places count too). A statement '..UptoSaid' is the law's where the arguments, and the package variables that the reading takes, are together of bulk at most 1048576: NARROWER than '..Said'. Prove '..Said' where nothing that the law and all that it calls make is longer than what came in: it says more and counts as full. Else prove '..UptoSaid'. A law counts once. -/
mutual
def uptoBulk {H : Type} : DataW H → Nat
  | .lit (.string bytes) => bytes.length + 1
  | .lit _ => 1
  | .nil => 1
  | .ptr d => uptoBulk d + 1
  | .slice elems spare => uptoBulkAll elems + uptoBulkAll spare + 1
  | .agg parts => uptoBulkAll parts + 1
  | .iface _ d => uptoBulk d + 1
  | .map entries => uptoBulkEntries entries + 1
  | .held _ => 1
def uptoBulkAll {H : Type} : List (DataW H) → Nat
  | [] => 0
  | d :: r => uptoBulk d + uptoBulkAll r
def uptoBulkEntries {H : Type} : List (Lit × DataW H) → Nat
  | [] => 0
  | x :: r => uptoBulkEntry x + uptoBulkEntries r
def uptoBulkEntry {H : Type} : Lit × DataW H → Nat
  | (.string bytes, d) => bytes.length + uptoBulk d + 1
  | (_, d) => uptoBulk d + 1
 end
def uptoSmall : (H : Type) → List (DataW H) → Bool := fun _ ds => decide (uptoBulkAll ds ≤ 1048576)
def OpenSpec.upto (s : _root_.Go.ChangeSpec) : _root_.Go.OpenSpec := { _root_.Go.OpenSpec.ofChange s with cond := some uptoSmall }

/-- 'hornbeamlaw12.StackPlays', WHERE WHAT IT READS IS OF BULK AT MOST 1048576: true; the input reads as it did. -/
def stackPlaysUptoRow : OpenClaim := { program := "ytflijabaniiccaa", sum := "fd3eade2673e91afdf880b244e06e6f839122c1307221e1042754f5ad1c72391", func := "hornbeam/hornbeamlaw12.StackPlays", spec := "stackPlays", unfollowed := true, recurses := true, apart := false, narrowed := true }
def StackPlaysUptoSaid : Prop := stackPlaysUptoRow.holds Try.pinned (OpenSpec.upto stackPlaysSpec)

/-- 'hornbeamlaw13.ActivePlays', WHERE WHAT IT READS IS OF BULK AT MOST 1048576: true; the input reads as it did. -/
def activePlaysUptoRow : OpenClaim := { program := "ytflijabaniiccaa", sum := "fd3eade2673e91afdf880b244e06e6f839122c1307221e1042754f5ad1c72391", func := "hornbeam/hornbeamlaw13.ActivePlays", spec := "activePlays", unfollowed := true, recurses := true, apart := false, narrowed := true }
def ActivePlaysUptoSaid : Prop := activePlaysUptoRow.holds Try.pinned (OpenSpec.upto activePlaysSpec)

/-- 'hornbeamlaw13.ActiveArk', WHERE WHAT IT READS IS OF BULK AT MOST 1048576: true; the input reads as it did. -/
def activeArkUptoRow : OpenClaim := { program := "ytflijabaniiccaa", sum := "fd3eade2673e91afdf880b244e06e6f839122c1307221e1042754f5ad1c72391", func := "hornbeam/hornbeamlaw13.ActiveArk", spec := "activeArk", unfollowed := true, recurses := true, apart := false, narrowed := true }
def ActiveArkUptoSaid : Prop := activeArkUptoRow.holds Try.pinned (OpenSpec.upto activeArkSpec)

/-- 'hornbeamlaw13.ActiveZero', WHERE WHAT IT READS IS OF BULK AT MOST 1048576: true; the input reads as it did. -/
def activeZeroUptoRow : OpenClaim := { program := "ytflijabaniiccaa", sum := "fd3eade2673e91afdf880b244e06e6f839122c1307221e1042754f5ad1c72391", func := "hornbeam/hornbeamlaw13.ActiveZero", spec := "activeZero", unfollowed := true, recurses := true, apart := false, narrowed := true }
def ActiveZeroUptoSaid : Prop := activeZeroUptoRow.holds Try.pinned (OpenSpec.upto activeZeroSpec)

/-- 'hornbeamlaw13.ActiveClears', WHERE WHAT IT READS IS OF BULK AT MOST 1048576: true; the input reads as it did. -/
def activeClearsUptoRow : OpenClaim := { program := "ytflijabaniiccaa", sum := "fd3eade2673e91afdf880b244e06e6f839122c1307221e1042754f5ad1c72391", func := "hornbeam/hornbeamlaw13.ActiveClears", spec := "activeClears", unfollowed := true, recurses := true, apart := false, narrowed := true }
def ActiveClearsUptoSaid : Prop := activeClearsUptoRow.holds Try.pinned (OpenSpec.upto activeClearsSpec)

end Rows
end Go.Proofs.Ytflijabaniiccaa
