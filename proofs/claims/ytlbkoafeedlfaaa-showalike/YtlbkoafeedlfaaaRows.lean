/-
  No cell of these rows narrows 'for every input' (looked for: loops, veiled, ifaces, maps, wideKeys, modest, calm, conditions, laid).
  DERIVED. THE GIVEN ROWS OF THIS SEAT. 10 by the template 'for every input the law returns true; each argument reads behind the call as it read before'; 0 by the template 'total and deterministic' (their statements: YtlbkoafeedlfaaaTotals.lean).
  GIVEN WITH THE SEED: the statements are not yours to turn. If you find one false, say at which input.
  Laid BY PROGRAM, IN A SANDBOX (cutbox-rows.mjs): the forced cells as the released guide's own fill.sh prints them over the translation 78789069e7dac24d… (all of the seat's roots in one cut). By AI agents, Wed Nov 11 2026. No macro, syntax, notation, axiom, sorry.
-/
import Derived.Test.YtlbkoafeedlfaaaChecked
import GoSem.Claim
import GoSem.ClaimJoined
import GoSem.ClaimMapViews
import Derived.JoinedTies
import Derived.KernelRfl
namespace Go.Proofs.Ytlbkoafeedlfaaa
/- THE CELL 'sum', in the pinned program and in every row, IS THE sha256 OF THE DUMP (.gsa) THAT YtlbkoafeedlfaaaProg.lean LOADS. Nothing in Lean hashes anything: it is a label: what it is worth is what the hold of that sum in a sandbox is worth. -/
noncomputable def Try.pinned : Pinned := { name := "ytlbkoafeedlfaaa", sum := "78789069e7dac24db92c2c6071527b7c122f14ccb65324dc9ac0a0f2299dd157", checked := Try.checked }
namespace Rows
def none {H : Type} : Left H := { results := [], args := [] }

/-- 'hornbeamlaw01.NodePlays': WHATEVER THE INPUT: true; the input reads as it did. -/
def nodePlaysSpec : ChangeSpec := { name := "nodePlays", fn := fun _ => fun
  | [d] => { results := [.lit (.bool true)], args := [d] }
  | _ => none }
def nodePlaysRow : OpenClaim := { program := "ytlbkoafeedlfaaa", sum := "78789069e7dac24db92c2c6071527b7c122f14ccb65324dc9ac0a0f2299dd157", func := "hornbeam/hornbeamlaw01.NodePlays", spec := "nodePlays", unfollowed := true, recurses := true, apart := false }
def NodePlaysSaid : Prop := nodePlaysRow.holds Try.pinned (OpenSpec.ofChange nodePlaysSpec)

/-- ITS FALSE NEIGHBOUR: 'it returns false'. Refute it at one input. -/
def nodePlaysWrong : ChangeSpec := { name := "nodePlays", fn := fun _ => fun
  | [d] => { results := [.lit (.bool false)], args := [d] }
  | _ => none }
def NodePlaysWrongFalsely : Prop := nodePlaysRow.holds Try.pinned (OpenSpec.ofChange nodePlaysWrong)

/-- 'hornbeamlaw01.NodeLinks': WHATEVER THE INPUT: true; the input reads as it did. -/
def nodeLinksSpec : ChangeSpec := { name := "nodeLinks", fn := fun _ => fun
  | [d] => { results := [.lit (.bool true)], args := [d] }
  | _ => none }
def nodeLinksRow : OpenClaim := { program := "ytlbkoafeedlfaaa", sum := "78789069e7dac24db92c2c6071527b7c122f14ccb65324dc9ac0a0f2299dd157", func := "hornbeam/hornbeamlaw01.NodeLinks", spec := "nodeLinks", unfollowed := true, recurses := true, apart := false }
def NodeLinksSaid : Prop := nodeLinksRow.holds Try.pinned (OpenSpec.ofChange nodeLinksSpec)

/-- ITS FALSE NEIGHBOUR: 'it returns false'. Refute it at one input. -/
def nodeLinksWrong : ChangeSpec := { name := "nodeLinks", fn := fun _ => fun
  | [d] => { results := [.lit (.bool false)], args := [d] }
  | _ => none }
def NodeLinksWrongFalsely : Prop := nodeLinksRow.holds Try.pinned (OpenSpec.ofChange nodeLinksWrong)

/-- 'hornbeamlaw01.NodeCopies': WHATEVER THE INPUT: true; the input reads as it did. -/
def nodeCopiesSpec : ChangeSpec := { name := "nodeCopies", fn := fun _ => fun
  | [d1, d2] => { results := [.lit (.bool true)], args := [d1, d2] }
  | _ => none }
def nodeCopiesRow : OpenClaim := { program := "ytlbkoafeedlfaaa", sum := "78789069e7dac24db92c2c6071527b7c122f14ccb65324dc9ac0a0f2299dd157", func := "hornbeam/hornbeamlaw01.NodeCopies", spec := "nodeCopies", unfollowed := true, recurses := true, apart := false }
def NodeCopiesSaid : Prop := nodeCopiesRow.holds Try.pinned (OpenSpec.ofChange nodeCopiesSpec)

/-- ITS FALSE NEIGHBOUR: 'it returns false'. Refute it at one input. -/
def nodeCopiesWrong : ChangeSpec := { name := "nodeCopies", fn := fun _ => fun
  | [d1, d2] => { results := [.lit (.bool false)], args := [d1, d2] }
  | _ => none }
def NodeCopiesWrongFalsely : Prop := nodeCopiesRow.holds Try.pinned (OpenSpec.ofChange nodeCopiesWrong)

/-- 'hornbeamlaw02.EditAppends': WHATEVER THE INPUT: true; the input reads as it did. -/
def editAppendsSpec : ChangeSpec := { name := "editAppends", fn := fun _ => fun
  | [d] => { results := [.lit (.bool true)], args := [d] }
  | _ => none }
def editAppendsRow : OpenClaim := { program := "ytlbkoafeedlfaaa", sum := "78789069e7dac24db92c2c6071527b7c122f14ccb65324dc9ac0a0f2299dd157", func := "hornbeam/hornbeamlaw02.EditAppends", spec := "editAppends", inPlace := ["internal/bytealg.IndexByteString", "internal/bytealg.IndexString"], unfollowed := true, recurses := true, named := ["internal/bytealg.MaxLen"], apart := false }
def EditAppendsSaid : Prop := editAppendsRow.holds Try.pinned (OpenSpec.ofChange editAppendsSpec)

/-- ITS FALSE NEIGHBOUR: 'it returns false'. Refute it at one input. -/
def editAppendsWrong : ChangeSpec := { name := "editAppends", fn := fun _ => fun
  | [d] => { results := [.lit (.bool false)], args := [d] }
  | _ => none }
def EditAppendsWrongFalsely : Prop := editAppendsRow.holds Try.pinned (OpenSpec.ofChange editAppendsWrong)

/-- 'hornbeamlaw03.ShowTrees': WHATEVER THE INPUT: true; the input reads as it did. -/
def showTreesSpec : ChangeSpec := { name := "showTrees", fn := fun _ => fun
  | [d1, d2] => { results := [.lit (.bool true)], args := [d1, d2] }
  | _ => none }
def showTreesRow : OpenClaim := { program := "ytlbkoafeedlfaaa", sum := "78789069e7dac24db92c2c6071527b7c122f14ccb65324dc9ac0a0f2299dd157", func := "hornbeam/hornbeamlaw03.ShowTrees", spec := "showTrees", inPlace := ["internal/bytealg.abigen_runtime_cmpstring", "internal/abi.NoEscape", "internal/bytealg.MakeNoZero"], unfollowed := true, recurses := true, apart := false }
def ShowTreesSaid : Prop := showTreesRow.holds Try.pinned (OpenSpec.ofChange showTreesSpec)

/-- ITS FALSE NEIGHBOUR: 'it returns false'. Refute it at one input. -/
def showTreesWrong : ChangeSpec := { name := "showTrees", fn := fun _ => fun
  | [d1, d2] => { results := [.lit (.bool false)], args := [d1, d2] }
  | _ => none }
def ShowTreesWrongFalsely : Prop := showTreesRow.holds Try.pinned (OpenSpec.ofChange showTreesWrong)

/-- 'hornbeamlaw03.ShowSames': WHATEVER THE INPUT: true; the input reads as it did. -/
def showSamesSpec : ChangeSpec := { name := "showSames", fn := fun _ => fun
  | [d1, d2, d3, d4] => { results := [.lit (.bool true)], args := [d1, d2, d3, d4] }
  | _ => none }
def showSamesRow : OpenClaim := { program := "ytlbkoafeedlfaaa", sum := "78789069e7dac24db92c2c6071527b7c122f14ccb65324dc9ac0a0f2299dd157", func := "hornbeam/hornbeamlaw03.ShowSames", spec := "showSames", inPlace := ["internal/bytealg.abigen_runtime_cmpstring", "internal/abi.NoEscape", "internal/bytealg.MakeNoZero"], unfollowed := true, recurses := true, apart := false }
def ShowSamesSaid : Prop := showSamesRow.holds Try.pinned (OpenSpec.ofChange showSamesSpec)

/-- ITS FALSE NEIGHBOUR: 'it returns false'. Refute it at one input. -/
def showSamesWrong : ChangeSpec := { name := "showSames", fn := fun _ => fun
  | [d1, d2, d3, d4] => { results := [.lit (.bool false)], args := [d1, d2, d3, d4] }
  | _ => none }
def ShowSamesWrongFalsely : Prop := showSamesRow.holds Try.pinned (OpenSpec.ofChange showSamesWrong)

/-- 'hornbeamlaw03.ShowAlike': WHATEVER THE INPUT: true; the input reads as it did. -/
def showAlikeSpec : ChangeSpec := { name := "showAlike", fn := fun _ => fun
  | [d1, d2, d3, d4] => { results := [.lit (.bool true)], args := [d1, d2, d3, d4] }
  | _ => none }
def showAlikeRow : OpenClaim := { program := "ytlbkoafeedlfaaa", sum := "78789069e7dac24db92c2c6071527b7c122f14ccb65324dc9ac0a0f2299dd157", func := "hornbeam/hornbeamlaw03.ShowAlike", spec := "showAlike", inPlace := ["internal/bytealg.abigen_runtime_cmpstring", "internal/abi.NoEscape", "internal/bytealg.MakeNoZero"], unfollowed := true, recurses := true, apart := false }
def ShowAlikeSaid : Prop := showAlikeRow.holds Try.pinned (OpenSpec.ofChange showAlikeSpec)

/-- ITS FALSE NEIGHBOUR: 'it returns false'. Refute it at one input. -/
def showAlikeWrong : ChangeSpec := { name := "showAlike", fn := fun _ => fun
  | [d1, d2, d3, d4] => { results := [.lit (.bool false)], args := [d1, d2, d3, d4] }
  | _ => none }
def ShowAlikeWrongFalsely : Prop := showAlikeRow.holds Try.pinned (OpenSpec.ofChange showAlikeWrong)

/-- 'hornbeamlaw03.ShowSound': WHATEVER THE INPUT: true; the input reads as it did. -/
def showSoundSpec : ChangeSpec := { name := "showSound", fn := fun _ => fun
  | [d] => { results := [.lit (.bool true)], args := [d] }
  | _ => none }
def showSoundRow : OpenClaim := { program := "ytlbkoafeedlfaaa", sum := "78789069e7dac24db92c2c6071527b7c122f14ccb65324dc9ac0a0f2299dd157", func := "hornbeam/hornbeamlaw03.ShowSound", spec := "showSound", inPlace := ["internal/bytealg.abigen_runtime_cmpstring", "internal/abi.NoEscape", "internal/bytealg.MakeNoZero"], unfollowed := true, recurses := true, apart := false }
def ShowSoundSaid : Prop := showSoundRow.holds Try.pinned (OpenSpec.ofChange showSoundSpec)

/-- ITS FALSE NEIGHBOUR: 'it returns false'. Refute it at one input. -/
def showSoundWrong : ChangeSpec := { name := "showSound", fn := fun _ => fun
  | [d] => { results := [.lit (.bool false)], args := [d] }
  | _ => none }
def ShowSoundWrongFalsely : Prop := showSoundRow.holds Try.pinned (OpenSpec.ofChange showSoundWrong)

/-- 'hornbeamlaw03.ShowZero': WHATEVER THE INPUT: true; the input reads as it did. -/
def showZeroSpec : ChangeSpec := { name := "showZero", fn := fun _ => fun
  | [d] => { results := [.lit (.bool true)], args := [d] }
  | _ => none }
def showZeroRow : OpenClaim := { program := "ytlbkoafeedlfaaa", sum := "78789069e7dac24db92c2c6071527b7c122f14ccb65324dc9ac0a0f2299dd157", func := "hornbeam/hornbeamlaw03.ShowZero", spec := "showZero", inPlace := ["internal/bytealg.abigen_runtime_cmpstring", "internal/abi.NoEscape", "internal/bytealg.MakeNoZero"], unfollowed := true, recurses := true, apart := false }
def ShowZeroSaid : Prop := showZeroRow.holds Try.pinned (OpenSpec.ofChange showZeroSpec)

/-- ITS FALSE NEIGHBOUR: 'it returns false'. Refute it at one input. -/
def showZeroWrong : ChangeSpec := { name := "showZero", fn := fun _ => fun
  | [d] => { results := [.lit (.bool false)], args := [d] }
  | _ => none }
def ShowZeroWrongFalsely : Prop := showZeroRow.holds Try.pinned (OpenSpec.ofChange showZeroWrong)

/-- 'hornbeamlaw03.ShowLines': WHATEVER THE INPUT: true; the input reads as it did. -/
def showLinesSpec : ChangeSpec := { name := "showLines", fn := fun _ => fun
  | [d] => { results := [.lit (.bool true)], args := [d] }
  | _ => none }
def showLinesRow : OpenClaim := { program := "ytlbkoafeedlfaaa", sum := "78789069e7dac24db92c2c6071527b7c122f14ccb65324dc9ac0a0f2299dd157", func := "hornbeam/hornbeamlaw03.ShowLines", spec := "showLines", inPlace := ["internal/bytealg.abigen_runtime_cmpstring", "internal/abi.NoEscape", "internal/bytealg.MakeNoZero"], unfollowed := true, recurses := true, apart := false }
def ShowLinesSaid : Prop := showLinesRow.holds Try.pinned (OpenSpec.ofChange showLinesSpec)

/-- ITS FALSE NEIGHBOUR: 'it returns false'. Refute it at one input. -/
def showLinesWrong : ChangeSpec := { name := "showLines", fn := fun _ => fun
  | [d] => { results := [.lit (.bool false)], args := [d] }
  | _ => none }
def ShowLinesWrongFalsely : Prop := showLinesRow.holds Try.pinned (OpenSpec.ofChange showLinesWrong)

/- THE SECOND FORM. 'bulk': how many values and letters a reading holds, each counted each time it is reached (what is shared counts as often as it is met; a slice's spare places count too). A statement '..UptoSaid' is the law's where the arguments, and the package variables that the reading takes, are together of bulk at most 1048576: NARROWER than '..Said'. Prove '..Said' where nothing that the law and all that it calls make is longer than what came in: it says more and counts as full. Else prove '..UptoSaid'. A law counts once. -/
mutual
def uptoBulk {H : Type} : DataW H → Nat
  | .lit (.string bytes) => bytes.length + 1
  | .lit _ => 1
  | .nil => 1
  | .ptr d => uptoBulk d + 1
  | .slice elems spare => uptoBulkAll elems + uptoBulkAll spare + 1
  | .agg parts => uptoBulkAll parts + 1
  | .iface _ d => uptoBulk d + 1
  | .map entries => uptoBulkEntries entries + 1
  | .held _ => 1
def uptoBulkAll {H : Type} : List (DataW H) → Nat
  | [] => 0
  | d :: r => uptoBulk d + uptoBulkAll r
def uptoBulkEntries {H : Type} : List (Lit × DataW H) → Nat
  | [] => 0
  | x :: r => uptoBulkEntry x + uptoBulkEntries r
def uptoBulkEntry {H : Type} : Lit × DataW H → Nat
  | (.string bytes, d) => bytes.length + uptoBulk d + 1
  | (_, d) => uptoBulk d + 1
 end
def uptoSmall : (H : Type) → List (DataW H) → Bool := fun _ ds => decide (uptoBulkAll ds ≤ 1048576)
def OpenSpec.upto (s : _root_.Go.ChangeSpec) : _root_.Go.OpenSpec := { _root_.Go.OpenSpec.ofChange s with cond := some uptoSmall }

/-- 'hornbeamlaw01.NodePlays', WHERE WHAT IT READS IS OF BULK AT MOST 1048576: true; the input reads as it did. -/
def nodePlaysUptoRow : OpenClaim := { program := "ytlbkoafeedlfaaa", sum := "78789069e7dac24db92c2c6071527b7c122f14ccb65324dc9ac0a0f2299dd157", func := "hornbeam/hornbeamlaw01.NodePlays", spec := "nodePlays", unfollowed := true, recurses := true, apart := false, narrowed := true }
def NodePlaysUptoSaid : Prop := nodePlaysUptoRow.holds Try.pinned (OpenSpec.upto nodePlaysSpec)

/-- 'hornbeamlaw01.NodeLinks', WHERE WHAT IT READS IS OF BULK AT MOST 1048576: true; the input reads as it did. -/
def nodeLinksUptoRow : OpenClaim := { program := "ytlbkoafeedlfaaa", sum := "78789069e7dac24db92c2c6071527b7c122f14ccb65324dc9ac0a0f2299dd157", func := "hornbeam/hornbeamlaw01.NodeLinks", spec := "nodeLinks", unfollowed := true, recurses := true, apart := false, narrowed := true }
def NodeLinksUptoSaid : Prop := nodeLinksUptoRow.holds Try.pinned (OpenSpec.upto nodeLinksSpec)

/-- 'hornbeamlaw01.NodeCopies', WHERE WHAT IT READS IS OF BULK AT MOST 1048576: true; the input reads as it did. -/
def nodeCopiesUptoRow : OpenClaim := { program := "ytlbkoafeedlfaaa", sum := "78789069e7dac24db92c2c6071527b7c122f14ccb65324dc9ac0a0f2299dd157", func := "hornbeam/hornbeamlaw01.NodeCopies", spec := "nodeCopies", unfollowed := true, recurses := true, apart := false, narrowed := true }
def NodeCopiesUptoSaid : Prop := nodeCopiesUptoRow.holds Try.pinned (OpenSpec.upto nodeCopiesSpec)

/-- 'hornbeamlaw02.EditAppends', WHERE WHAT IT READS IS OF BULK AT MOST 1048576: true; the input reads as it did. -/
def editAppendsUptoRow : OpenClaim := { program := "ytlbkoafeedlfaaa", sum := "78789069e7dac24db92c2c6071527b7c122f14ccb65324dc9ac0a0f2299dd157", func := "hornbeam/hornbeamlaw02.EditAppends", spec := "editAppends", inPlace := ["internal/bytealg.IndexByteString", "internal/bytealg.IndexString"], unfollowed := true, recurses := true, named := ["internal/bytealg.MaxLen"], apart := false, narrowed := true }
def EditAppendsUptoSaid : Prop := editAppendsUptoRow.holds Try.pinned (OpenSpec.upto editAppendsSpec)

/-- 'hornbeamlaw03.ShowTrees', WHERE WHAT IT READS IS OF BULK AT MOST 1048576: true; the input reads as it did. -/
def showTreesUptoRow : OpenClaim := { program := "ytlbkoafeedlfaaa", sum := "78789069e7dac24db92c2c6071527b7c122f14ccb65324dc9ac0a0f2299dd157", func := "hornbeam/hornbeamlaw03.ShowTrees", spec := "showTrees", inPlace := ["internal/bytealg.abigen_runtime_cmpstring", "internal/abi.NoEscape", "internal/bytealg.MakeNoZero"], unfollowed := true, recurses := true, apart := false, narrowed := true }
def ShowTreesUptoSaid : Prop := showTreesUptoRow.holds Try.pinned (OpenSpec.upto showTreesSpec)

/-- 'hornbeamlaw03.ShowSames', WHERE WHAT IT READS IS OF BULK AT MOST 1048576: true; the input reads as it did. -/
def showSamesUptoRow : OpenClaim := { program := "ytlbkoafeedlfaaa", sum := "78789069e7dac24db92c2c6071527b7c122f14ccb65324dc9ac0a0f2299dd157", func := "hornbeam/hornbeamlaw03.ShowSames", spec := "showSames", inPlace := ["internal/bytealg.abigen_runtime_cmpstring", "internal/abi.NoEscape", "internal/bytealg.MakeNoZero"], unfollowed := true, recurses := true, apart := false, narrowed := true }
def ShowSamesUptoSaid : Prop := showSamesUptoRow.holds Try.pinned (OpenSpec.upto showSamesSpec)

/-- 'hornbeamlaw03.ShowAlike', WHERE WHAT IT READS IS OF BULK AT MOST 1048576: true; the input reads as it did. -/
def showAlikeUptoRow : OpenClaim := { program := "ytlbkoafeedlfaaa", sum := "78789069e7dac24db92c2c6071527b7c122f14ccb65324dc9ac0a0f2299dd157", func := "hornbeam/hornbeamlaw03.ShowAlike", spec := "showAlike", inPlace := ["internal/bytealg.abigen_runtime_cmpstring", "internal/abi.NoEscape", "internal/bytealg.MakeNoZero"], unfollowed := true, recurses := true, apart := false, narrowed := true }
def ShowAlikeUptoSaid : Prop := showAlikeUptoRow.holds Try.pinned (OpenSpec.upto showAlikeSpec)

/-- 'hornbeamlaw03.ShowSound', WHERE WHAT IT READS IS OF BULK AT MOST 1048576: true; the input reads as it did. -/
def showSoundUptoRow : OpenClaim := { program := "ytlbkoafeedlfaaa", sum := "78789069e7dac24db92c2c6071527b7c122f14ccb65324dc9ac0a0f2299dd157", func := "hornbeam/hornbeamlaw03.ShowSound", spec := "showSound", inPlace := ["internal/bytealg.abigen_runtime_cmpstring", "internal/abi.NoEscape", "internal/bytealg.MakeNoZero"], unfollowed := true, recurses := true, apart := false, narrowed := true }
def ShowSoundUptoSaid : Prop := showSoundUptoRow.holds Try.pinned (OpenSpec.upto showSoundSpec)

/-- 'hornbeamlaw03.ShowZero', WHERE WHAT IT READS IS OF BULK AT MOST 1048576: true; the input reads as it did. -/
def showZeroUptoRow : OpenClaim := { program := "ytlbkoafeedlfaaa", sum := "78789069e7dac24db92c2c6071527b7c122f14ccb65324dc9ac0a0f2299dd157", func := "hornbeam/hornbeamlaw03.ShowZero", spec := "showZero", inPlace := ["internal/bytealg.abigen_runtime_cmpstring", "internal/abi.NoEscape", "internal/bytealg.MakeNoZero"], unfollowed := true, recurses := true, apart := false, narrowed := true }
def ShowZeroUptoSaid : Prop := showZeroUptoRow.holds Try.pinned (OpenSpec.upto showZeroSpec)

/-- 'hornbeamlaw03.ShowLines', WHERE WHAT IT READS IS OF BULK AT MOST 1048576: true; the input reads as it did. -/
def showLinesUptoRow : OpenClaim := { program := "ytlbkoafeedlfaaa", sum := "78789069e7dac24db92c2c6071527b7c122f14ccb65324dc9ac0a0f2299dd157", func := "hornbeam/hornbeamlaw03.ShowLines", spec := "showLines", inPlace := ["internal/bytealg.abigen_runtime_cmpstring", "internal/abi.NoEscape", "internal/bytealg.MakeNoZero"], unfollowed := true, recurses := true, apart := false, narrowed := true }
def ShowLinesUptoSaid : Prop := showLinesUptoRow.holds Try.pinned (OpenSpec.upto showLinesSpec)

end Rows
end Go.Proofs.Ytlbkoafeedlfaaa
