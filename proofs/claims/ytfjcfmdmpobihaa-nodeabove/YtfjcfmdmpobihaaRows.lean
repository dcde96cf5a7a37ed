/-
  No cell of these rows narrows 'for every input' (looked for: loops, veiled, ifaces, maps, wideKeys, modest, calm, conditions, laid).
  DERIVED. THE GIVEN ROWS OF THIS SEAT. 7 by the template 'for every input the law returns true; each argument reads behind the call as it read before'; 0 by the template 'total and deterministic' (their statements: YtfjcfmdmpobihaaTotals.lean).
  GIVEN WITH THE SEED: the statements are not yours to turn. If you find one false, say at which input.
  Laid BY PROGRAM, IN A SANDBOX (cutbox-rows.mjs): the forced cells as the released guide's own fill.sh prints them over the translation 55d199ae286b0a07… (all of the seat's roots in one cut). By AI agents, Wed Nov 11 2026. No macro, syntax, notation, axiom, sorry.
-/
import Derived.Test.YtfjcfmdmpobihaaChecked
import GoSem.Claim
import GoSem.ClaimJoined
import GoSem.ClaimMapViews
import Derived.JoinedTies
import Derived.KernelRfl
namespace Go.Proofs.Ytfjcfmdmpobihaa
/- THE CELL 'sum', in the pinned program and in every row, IS THE sha256 OF THE DUMP (.gsa) THAT YtfjcfmdmpobihaaProg.lean LOADS. Nothing in Lean hashes anything: it is a label: what it is worth is what the hold of that sum in a sandbox is worth. -/
noncomputable def Try.pinned : Pinned := { name := "ytfjcfmdmpobihaa", sum := "55d199ae286b0a07bbb0059e7449657826d19c1a7a1c9f1d5c643b7e4701d53d", checked := Try.checked }
namespace Rows
def none {H : Type} : Left H := { results := [], args := [] }

/-- 'hornbeamlaw01.NodePlays': WHATEVER THE INPUT: true; the input reads as it did. -/
def nodePlaysSpec : ChangeSpec := { name := "nodePlays", fn := fun _ => fun
  | [d] => { results := [.lit (.bool true)], args := [d] }
  | _ => none }
def nodePlaysRow : OpenClaim := { program := "ytfjcfmdmpobihaa", sum := "55d199ae286b0a07bbb0059e7449657826d19c1a7a1c9f1d5c643b7e4701d53d", func := "hornbeam/hornbeamlaw01.NodePlays", spec := "nodePlays", unfollowed := true, recurses := true, apart := false }
def NodePlaysSaid : Prop := nodePlaysRow.holds Try.pinned (OpenSpec.ofChange nodePlaysSpec)

/-- ITS FALSE NEIGHBOUR: 'it returns false'. Refute it at one input. -/
def nodePlaysWrong : ChangeSpec := { name := "nodePlays", fn := fun _ => fun
  | [d] => { results := [.lit (.bool false)], args := [d] }
  | _ => none }
def NodePlaysWrongFalsely : Prop := nodePlaysRow.holds Try.pinned (OpenSpec.ofChange nodePlaysWrong)

/-- 'hornbeamlaw01.NodeAbove': WHATEVER THE INPUT: true; the input reads as it did. -/
def nodeAboveSpec : ChangeSpec := { name := "nodeAbove", fn := fun _ => fun
  | [d1, d2, d3] => { results := [.lit (.bool true)], args := [d1, d2, d3] }
  | _ => none }
def nodeAboveRow : OpenClaim := { program := "ytfjcfmdmpobihaa", sum := "55d199ae286b0a07bbb0059e7449657826d19c1a7a1c9f1d5c643b7e4701d53d", func := "hornbeam/hornbeamlaw01.NodeAbove", spec := "nodeAbove", unfollowed := true, recurses := true, apart := false }
def NodeAboveSaid : Prop := nodeAboveRow.holds Try.pinned (OpenSpec.ofChange nodeAboveSpec)

/-- ITS FALSE NEIGHBOUR: 'it returns false'. Refute it at one input. -/
def nodeAboveWrong : ChangeSpec := { name := "nodeAbove", fn := fun _ => fun
  | [d1, d2, d3] => { results := [.lit (.bool false)], args := [d1, d2, d3] }
  | _ => none }
def NodeAboveWrongFalsely : Prop := nodeAboveRow.holds Try.pinned (OpenSpec.ofChange nodeAboveWrong)

/-- 'hornbeamlaw01.NodeLinks': WHATEVER THE INPUT: true; the input reads as it did. -/
def nodeLinksSpec : ChangeSpec := { name := "nodeLinks", fn := fun _ => fun
  | [d] => { results := [.lit (.bool true)], args := [d] }
  | _ => none }
def nodeLinksRow : OpenClaim := { program := "ytfjcfmdmpobihaa", sum := "55d199ae286b0a07bbb0059e7449657826d19c1a7a1c9f1d5c643b7e4701d53d", func := "hornbeam/hornbeamlaw01.NodeLinks", spec := "nodeLinks", unfollowed := true, recurses := true, apart := false }
def NodeLinksSaid : Prop := nodeLinksRow.holds Try.pinned (OpenSpec.ofChange nodeLinksSpec)

/-- ITS FALSE NEIGHBOUR: 'it returns false'. Refute it at one input. -/
def nodeLinksWrong : ChangeSpec := { name := "nodeLinks", fn := fun _ => fun
  | [d] => { results := [.lit (.bool false)], args := [d] }
  | _ => none }
def NodeLinksWrongFalsely : Prop := nodeLinksRow.holds Try.pinned (OpenSpec.ofChange nodeLinksWrong)

/-- 'hornbeamlaw01.NodeCopies': WHATEVER THE INPUT: true; the input reads as it did. -/
def nodeCopiesSpec : ChangeSpec := { name := "nodeCopies", fn := fun _ => fun
  | [d1, d2] => { results := [.lit (.bool true)], args := [d1, d2] }
  | _ => none }
def nodeCopiesRow : OpenClaim := { program := "ytfjcfmdmpobihaa", sum := "55d199ae286b0a07bbb0059e7449657826d19c1a7a1c9f1d5c643b7e4701d53d", func := "hornbeam/hornbeamlaw01.NodeCopies", spec := "nodeCopies", unfollowed := true, recurses := true, apart := false }
def NodeCopiesSaid : Prop := nodeCopiesRow.holds Try.pinned (OpenSpec.ofChange nodeCopiesSpec)

/-- ITS FALSE NEIGHBOUR: 'it returns false'. Refute it at one input. -/
def nodeCopiesWrong : ChangeSpec := { name := "nodeCopies", fn := fun _ => fun
  | [d1, d2] => { results := [.lit (.bool false)], args := [d1, d2] }
  | _ => none }
def NodeCopiesWrongFalsely : Prop := nodeCopiesRow.holds Try.pinned (OpenSpec.ofChange nodeCopiesWrong)

/-- 'hornbeamlaw02.EditNames': WHATEVER THE INPUT: true; the input reads as it did. -/
def editNamesSpec : ChangeSpec := { name := "editNames", fn := fun _ => fun
  | [d] => { results := [.lit (.bool true)], args := [d] }
  | _ => none }
def editNamesRow : OpenClaim := { program := "ytfjcfmdmpobihaa", sum := "55d199ae286b0a07bbb0059e7449657826d19c1a7a1c9f1d5c643b7e4701d53d", func := "hornbeam/hornbeamlaw02.EditNames", spec := "editNames", inPlace := ["internal/bytealg.IndexByteString", "internal/bytealg.IndexString"], named := ["internal/bytealg.MaxLen"], apart := false }
def EditNamesSaid : Prop := editNamesRow.holds Try.pinned (OpenSpec.ofChange editNamesSpec)

/-- ITS FALSE NEIGHBOUR: 'it returns false'. Refute it at one input. -/
def editNamesWrong : ChangeSpec := { name := "editNames", fn := fun _ => fun
  | [d] => { results := [.lit (.bool false)], args := [d] }
  | _ => none }
def EditNamesWrongFalsely : Prop := editNamesRow.holds Try.pinned (OpenSpec.ofChange editNamesWrong)

/-- 'hornbeamlaw02.EditZero': WHATEVER THE INPUT: true; the input reads as it did. -/
def editZeroSpec : ChangeSpec := { name := "editZero", fn := fun _ => fun
  | [d1, d2] => { results := [.lit (.bool true)], args := [d1, d2] }
  | _ => none }
def editZeroRow : OpenClaim := { program := "ytfjcfmdmpobihaa", sum := "55d199ae286b0a07bbb0059e7449657826d19c1a7a1c9f1d5c643b7e4701d53d", func := "hornbeam/hornbeamlaw02.EditZero", spec := "editZero", inPlace := ["internal/bytealg.IndexByteString", "internal/bytealg.IndexString"], unfollowed := true, recurses := true, named := ["internal/bytealg.MaxLen"], apart := false }
def EditZeroSaid : Prop := editZeroRow.holds Try.pinned (OpenSpec.ofChange editZeroSpec)

/-- ITS FALSE NEIGHBOUR: 'it returns false'. Refute it at one input. -/
def editZeroWrong : ChangeSpec := { name := "editZero", fn := fun _ => fun
  | [d1, d2] => { results := [.lit (.bool false)], args := [d1, d2] }
  | _ => none }
def EditZeroWrongFalsely : Prop := editZeroRow.holds Try.pinned (OpenSpec.ofChange editZeroWrong)

/-- 'hornbeamlaw02.EditAppends': WHATEVER THE INPUT: true; the input reads as it did. -/
def editAppendsSpec : ChangeSpec := { name := "editAppends", fn := fun _ => fun
  | [d] => { results := [.lit (.bool true)], args := [d] }
  | _ => none }
def editAppendsRow : OpenClaim := { program := "ytfjcfmdmpobihaa", sum := "55d199ae286b0a07bbb0059e7449657826d19c1a7a1c9f1d5c643b7e4701d53d", func := "hornbeam/hornbeamlaw02.EditAppends", spec := "editAppends", inPlace := ["internal/bytealg.IndexByteString", "internal/bytealg.IndexString"], unfollowed := true, recurses := true, named := ["internal/bytealg.MaxLen"], apart := false }
def EditAppendsSaid : Prop := editAppendsRow.holds Try.pinned (OpenSpec.ofChange editAppendsSpec)

/-- ITS FALSE NEIGHBOUR: 'it returns false'. Refute it at one input. -/
def editAppendsWrong : ChangeSpec := { name := "editAppends", fn := fun _ => fun
  | [d] => { results := [.lit (.bool false)], args := [d] }
  | _ => none }
def EditAppendsWrongFalsely : Prop := editAppendsRow.holds Try.pinned (OpenSpec.ofChange editAppendsWrong)

/- THE SECOND FORM. 'bulk': how many values and letters a reading holds, each counted each time it is reached (what is shared counts as often as it is met; a slice's spare places count too). A statement '..UptoSaid' is the law's where the arguments, and the package variables that the reading takes, are together of bulk at most 1048576: NARROWER than '..Said'. Prove '..Said' where nothing that the law and all that it calls make is longer than what came in: it says more and counts as full. Else prove '..UptoSaid'. A law counts once. -/
mutual
def uptoBulk {H : Type} : DataW H → Nat
  | .lit (.string bytes) => bytes.length + 1
  | .lit _ => 1
  | .nil => 1
  | .ptr d => uptoBulk d + 1
  | .slice elems spare => uptoBulkAll elems + uptoBulkAll spare + 1
  | .agg parts => uptoBulkAll parts + 1
  | .iface _ d => uptoBulk d + 1
  | .map entries => uptoBulkEntries entries + 1
  | .held _ => 1
def uptoBulkAll {H : Type} : List (DataW H) → Nat
  | [] => 0
  | d :: r => uptoBulk d + uptoBulkAll r
def uptoBulkEntries {H : Type} : List (Lit × DataW H) → Nat
  | [] => 0
  | x :: r => uptoBulkEntry x + uptoBulkEntries r
def uptoBulkEntry {H : Type} : Lit × DataW H → Nat
  | (.string bytes, d) => bytes.length + uptoBulk d + 1
  | (_, d) => uptoBulk d + 1
 end
def uptoSmall : (H : Type) → List (DataW H) → Bool := fun _ ds => decide (uptoBulkAll ds ≤ 1048576)
def OpenSpec.upto (s : _root_.Go.ChangeSpec) : _root_.Go.OpenSpec := { _root_.Go.OpenSpec.ofChange s with cond := some uptoSmall }

/-- 'hornbeamlaw01.NodePlays', WHERE WHAT IT READS IS OF BULK AT MOST 1048576: true; the input reads as it did. -/
def nodePlaysUptoRow : OpenClaim := { program := "ytfjcfmdmpobihaa", sum := "55d199ae286b0a07bbb0059e7449657826d19c1a7a1c9f1d5c643b7e4701d53d", func := "hornbeam/hornbeamlaw01.NodePlays", spec := "nodePlays", unfollowed := true, recurses := true, apart := false, narrowed := true }
def NodePlaysUptoSaid : Prop := nodePlaysUptoRow.holds Try.pinned (OpenSpec.upto nodePlaysSpec)

/-- 'hornbeamlaw01.NodeAbove', WHERE WHAT IT READS IS OF BULK AT MOST 1048576: true; the input reads as it did. -/
def nodeAboveUptoRow : OpenClaim := { program := "ytfjcfmdmpobihaa", sum := "55d199ae286b0a07bbb0059e7449657826d19c1a7a1c9f1d5c643b7e4701d53d", func := "hornbeam/hornbeamlaw01.NodeAbove", spec := "nodeAbove", unfollowed := true, recurses := true, apart := false, narrowed := true }
def NodeAboveUptoSaid : Prop := nodeAboveUptoRow.holds Try.pinned (OpenSpec.upto nodeAboveSpec)

/-- 'hornbeamlaw01.NodeLinks', WHERE WHAT IT READS IS OF BULK AT MOST 1048576: true; the input reads as it did. -/
def nodeLinksUptoRow : OpenClaim := { program := "ytfjcfmdmpobihaa", sum := "55d199ae286b0a07bbb0059e7449657826d19c1a7a1c9f1d5c643b7e4701d53d", func := "hornbeam/hornbeamlaw01.NodeLinks", spec := "nodeLinks", unfollowed := true, recurses := true, apart := false, narrowed := true }
def NodeLinksUptoSaid : Prop := nodeLinksUptoRow.holds Try.pinned (OpenSpec.upto nodeLinksSpec)

/-- 'hornbeamlaw01.NodeCopies', WHERE WHAT IT READS IS OF BULK AT MOST 1048576: true; the input reads as it did. -/
def nodeCopiesUptoRow : OpenClaim := { program := "ytfjcfmdmpobihaa", sum := "55d199ae286b0a07bbb0059e7449657826d19c1a7a1c9f1d5c643b7e4701d53d", func := "hornbeam/hornbeamlaw01.NodeCopies", spec := "nodeCopies", unfollowed := true, recurses := true, apart := false, narrowed := true }
def NodeCopiesUptoSaid : Prop := nodeCopiesUptoRow.holds Try.pinned (OpenSpec.upto nodeCopiesSpec)

/-- 'hornbeamlaw02.EditNames', WHERE WHAT IT READS IS OF BULK AT MOST 1048576: true; the input reads as it did. -/
def editNamesUptoRow : OpenClaim := { program := "ytfjcfmdmpobihaa", sum := "55d199ae286b0a07bbb0059e7449657826d19c1a7a1c9f1d5c643b7e4701d53d", func := "hornbeam/hornbeamlaw02.EditNames", spec := "editNames", inPlace := ["internal/bytealg.IndexByteString", "internal/bytealg.IndexString"], named := ["internal/bytealg.MaxLen"], apart := false, narrowed := true }
def EditNamesUptoSaid : Prop := editNamesUptoRow.holds Try.pinned (OpenSpec.upto editNamesSpec)

/-- 'hornbeamlaw02.EditZero', WHERE WHAT IT READS IS OF BULK AT MOST 1048576: true; the input reads as it did. -/
def editZeroUptoRow : OpenClaim := { program := "ytfjcfmdmpobihaa", sum := "55d199ae286b0a07bbb0059e7449657826d19c1a7a1c9f1d5c643b7e4701d53d", func := "hornbeam/hornbeamlaw02.EditZero", spec := "editZero", inPlace := ["internal/bytealg.IndexByteString", "internal/bytealg.IndexString"], unfollowed := true, recurses := true, named := ["internal/bytealg.MaxLen"], apart := false, narrowed := true }
def EditZeroUptoSaid : Prop := editZeroUptoRow.holds Try.pinned (OpenSpec.upto editZeroSpec)

/-- 'hornbeamlaw02.EditAppends', WHERE WHAT IT READS IS OF BULK AT MOST 1048576: true; the input reads as it did. -/
def editAppendsUptoRow : OpenClaim := { program := "ytfjcfmdmpobihaa", sum := "55d199ae286b0a07bbb0059e7449657826d19c1a7a1c9f1d5c643b7e4701d53d", func := "hornbeam/hornbeamlaw02.EditAppends", spec := "editAppends", inPlace := ["internal/bytealg.IndexByteString", "internal/bytealg.IndexString"], unfollowed := true, recurses := true, named := ["internal/bytealg.MaxLen"], apart := false, narrowed := true }
def EditAppendsUptoSaid : Prop := editAppendsUptoRow.holds Try.pinned (OpenSpec.upto editAppendsSpec)

end Rows
end Go.Proofs.Ytfjcfmdmpobihaa
