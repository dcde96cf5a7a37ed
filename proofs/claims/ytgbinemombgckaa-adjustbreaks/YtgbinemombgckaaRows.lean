/-
  No cell of these rows narrows 'for every input' (looked for: loops, veiled, ifaces, maps, wideKeys, modest, calm, conditions, laid).
  DERIVED. THE GIVEN ROWS OF THIS SEAT. 5 by the template 'for every input the law returns true; each argument reads behind the call as it read before'; 0 by the template 'total and deterministic' (their statements: YtgbinemombgckaaTotals.lean).
  GIVEN WITH THE SEED: the statements are not yours to turn. If you find one false, say at which input.
  Laid BY PROGRAM, IN A SANDBOX (cutbox-rows.mjs): the forced cells as the released guide's own fill.sh prints them over the translation f584f814c6e13762… (all of the seat's roots in one cut). By AI agents, Wed Nov 11 2026. No macro, syntax, notation, axiom, sorry.
-/
import Derived.Test.YtgbinemombgckaaChecked
import GoSem.Claim
import GoSem.ClaimJoined
import GoSem.ClaimMapViews
import Derived.JoinedTies
import Derived.KernelRfl
namespace Go.Proofs.Ytgbinemombgckaa
/- THE CELL 'sum', in the pinned program and in every row, IS THE sha256 OF THE DUMP (.gsa) THAT YtgbinemombgckaaProg.lean LOADS. Nothing in Lean hashes anything: it is a label: what it is worth is what the hold of that sum in a sandbox is worth. -/
noncomputable def Try.pinned : Pinned := { name := "ytgbinemombgckaa", sum := "f584f814c6e137623eb294cdb1493c992dcad26b5cabb2726455a6c06ffd7ade", checked := Try.checked }
namespace Rows
def none {H : Type} : Left H := { results := [], args := [] }

/-- 'hornbeamlaw11.AdjustElements': WHATEVER THE INPUT: true; the input reads as it did. -/
def adjustElementsSpec : ChangeSpec := { name := "adjustElements", fn := fun _ => fun
  | [d] => { results := [.lit (.bool true)], args := [d] }
  | _ => none }
def adjustElementsRow : OpenClaim := { program := "ytgbinemombgckaa", sum := "f584f814c6e137623eb294cdb1493c992dcad26b5cabb2726455a6c06ffd7ade", func := "hornbeam/hornbeamlaw11.AdjustElements", spec := "adjustElements", apart := false }
def AdjustElementsSaid : Prop := adjustElementsRow.holds Try.pinned (OpenSpec.ofChange adjustElementsSpec)

/-- ITS FALSE NEIGHBOUR: 'it returns false'. Refute it at one input. -/
def adjustElementsWrong : ChangeSpec := { name := "adjustElements", fn := fun _ => fun
  | [d] => { results := [.lit (.bool false)], args := [d] }
  | _ => none }
def AdjustElementsWrongFalsely : Prop := adjustElementsRow.holds Try.pinned (OpenSpec.ofChange adjustElementsWrong)

/-- 'hornbeamlaw11.AdjustSVG': WHATEVER THE INPUT: true; the input reads as it did. -/
def adjustSVGSpec : ChangeSpec := { name := "adjustSVG", fn := fun _ => fun
  | [d] => { results := [.lit (.bool true)], args := [d] }
  | _ => none }
def adjustSVGRow : OpenClaim := { program := "ytgbinemombgckaa", sum := "f584f814c6e137623eb294cdb1493c992dcad26b5cabb2726455a6c06ffd7ade", func := "hornbeam/hornbeamlaw11.AdjustSVG", spec := "adjustSVG", unfollowed := true, recurses := true, apart := false }
def AdjustSVGSaid : Prop := adjustSVGRow.holds Try.pinned (OpenSpec.ofChange adjustSVGSpec)

/-- ITS FALSE NEIGHBOUR: 'it returns false'. Refute it at one input. -/
def adjustSVGWrong : ChangeSpec := { name := "adjustSVG", fn := fun _ => fun
  | [d] => { results := [.lit (.bool false)], args := [d] }
  | _ => none }
def AdjustSVGWrongFalsely : Prop := adjustSVGRow.holds Try.pinned (OpenSpec.ofChange adjustSVGWrong)

/-- 'hornbeamlaw11.AdjustMathML': WHATEVER THE INPUT: true; the input reads as it did. -/
def adjustMathMLSpec : ChangeSpec := { name := "adjustMathML", fn := fun _ => fun
  | [d] => { results := [.lit (.bool true)], args := [d] }
  | _ => none }
def adjustMathMLRow : OpenClaim := { program := "ytgbinemombgckaa", sum := "f584f814c6e137623eb294cdb1493c992dcad26b5cabb2726455a6c06ffd7ade", func := "hornbeam/hornbeamlaw11.AdjustMathML", spec := "adjustMathML", unfollowed := true, recurses := true, apart := false }
def AdjustMathMLSaid : Prop := adjustMathMLRow.holds Try.pinned (OpenSpec.ofChange adjustMathMLSpec)

/-- ITS FALSE NEIGHBOUR: 'it returns false'. Refute it at one input. -/
def adjustMathMLWrong : ChangeSpec := { name := "adjustMathML", fn := fun _ => fun
  | [d] => { results := [.lit (.bool false)], args := [d] }
  | _ => none }
def AdjustMathMLWrongFalsely : Prop := adjustMathMLRow.holds Try.pinned (OpenSpec.ofChange adjustMathMLWrong)

/-- 'hornbeamlaw11.AdjustPoints': WHATEVER THE INPUT: true; the input reads as it did. -/
def adjustPointsSpec : ChangeSpec := { name := "adjustPoints", fn := fun _ => fun
  | [d1, d2, d3] => { results := [.lit (.bool true)], args := [d1, d2, d3] }
  | _ => none }
def adjustPointsRow : OpenClaim := { program := "ytgbinemombgckaa", sum := "f584f814c6e137623eb294cdb1493c992dcad26b5cabb2726455a6c06ffd7ade", func := "hornbeam/hornbeamlaw11.AdjustPoints", spec := "adjustPoints", unfollowed := true, recurses := true, apart := false }
def AdjustPointsSaid : Prop := adjustPointsRow.holds Try.pinned (OpenSpec.ofChange adjustPointsSpec)

/-- ITS FALSE NEIGHBOUR: 'it returns false'. Refute it at one input. -/
def adjustPointsWrong : ChangeSpec := { name := "adjustPoints", fn := fun _ => fun
  | [d1, d2, d3] => { results := [.lit (.bool false)], args := [d1, d2, d3] }
  | _ => none }
def AdjustPointsWrongFalsely : Prop := adjustPointsRow.holds Try.pinned (OpenSpec.ofChange adjustPointsWrong)

/-- 'hornbeamlaw11.AdjustBreaks': WHATEVER THE INPUT: true; the input reads as it did. -/
def adjustBreaksSpec : ChangeSpec := { name := "adjustBreaks", fn := fun _ => fun
  | [d] => { results := [.lit (.bool true)], args := [d] }
  | _ => none }
def adjustBreaksRow : OpenClaim := { program := "ytgbinemombgckaa", sum := "f584f814c6e137623eb294cdb1493c992dcad26b5cabb2726455a6c06ffd7ade", func := "hornbeam/hornbeamlaw11.AdjustBreaks", spec := "adjustBreaks", unfollowed := true, recurses := true, apart := false }
def AdjustBreaksSaid : Prop := adjustBreaksRow.holds Try.pinned (OpenSpec.ofChange adjustBreaksSpec)

/-- ITS FALSE NEIGHBOUR: 'it returns false'. Refute it at one input. -/
def adjustBreaksWrong : ChangeSpec := { name := "adjustBreaks", fn := fun _ => fun
  | [d] => { results := [.lit (.bool false)], args := [d] }
  | _ => none }
def AdjustBreaksWrongFalsely : Prop := adjustBreaksRow.holds Try.pinned (OpenSpec.ofChange adjustBreaksWrong)

/- THE SECOND FORM. 'bulk': how many values and letters a reading holds, each counted each time it is reached (what is shared counts as often as it is met; a slice's spare places count too). A statement '..UptoSaid' is the law's where the arguments, and the package variables that the reading takes, are together of bulk at most 1048576: NARROWER than '..Said'. Prove '..Said' where nothing that the law and all that it calls make is longer than what came in: it says more and counts as full. Else prove '..UptoSaid'. A law counts once. -/
mutual
def uptoBulk {H : Type} : DataW H → Nat
  | .lit (.string bytes) => bytes.length + 1
  | .lit _ => 1
  | .nil => 1
  | .ptr d => uptoBulk d + 1
  | .slice elems spare => uptoBulkAll elems + uptoBulkAll spare + 1
  | .agg parts => uptoBulkAll parts + 1
  | .iface _ d => uptoBulk d + 1
  | .map entries => uptoBulkEntries entries + 1
  | .held _ => 1
def uptoBulkAll {H : Type} : List (DataW H) → Nat
  | [] => 0
  | d :: r => uptoBulk d + uptoBulkAll r
def uptoBulkEntries {H : Type} : List (Lit × DataW H) → Nat
  | [] => 0
  | x :: r => uptoBulkEntry x + uptoBulkEntries r
def uptoBulkEntry {H : Type} : Lit × DataW H → Nat
  | (.string bytes, d) => bytes.length + uptoBulk d + 1
  | (_, d) => uptoBulk d + 1
 end
def uptoSmall : (H : Type) → List (DataW H) → Bool := fun _ ds => decide (uptoBulkAll ds ≤ 1048576)
def OpenSpec.upto (s : _root_.Go.ChangeSpec) : _root_.Go.OpenSpec := { _root_.Go.OpenSpec.ofChange s with cond := some uptoSmall }

/-- 'hornbeamlaw11.AdjustElements', WHERE WHAT IT READS IS OF BULK AT MOST 1048576: true; the input reads as it did. -/
def adjustElementsUptoRow : OpenClaim := { program := "ytgbinemombgckaa", sum := "f584f814c6e137623eb294cdb1493c992dcad26b5cabb2726455a6c06ffd7ade", func := "hornbeam/hornbeamlaw11.AdjustElements", spec := "adjustElements", apart := false, narrowed := true }
def AdjustElementsUptoSaid : Prop := adjustElementsUptoRow.holds Try.pinned (OpenSpec.upto adjustElementsSpec)

/-- 'hornbeamlaw11.AdjustSVG', WHERE WHAT IT READS IS OF BULK AT MOST 1048576: true; the input reads as it did. -/
def adjustSVGUptoRow : OpenClaim := { program := "ytgbinemombgckaa", sum := "f584f814c6e137623eb294cdb1493c992dcad26b5cabb2726455a6c06ffd7ade", func := "hornbeam/hornbeamlaw11.AdjustSVG", spec := "adjustSVG", unfollowed := true, recurses := true, apart := false, narrowed := true }
def AdjustSVGUptoSaid : Prop := adjustSVGUptoRow.holds Try.pinned (OpenSpec.upto adjustSVGSpec)

/-- 'hornbeamlaw11.AdjustMathML', WHERE WHAT IT READS IS OF BULK AT MOST 1048576: true; the input reads as it did. -/
def adjustMathMLUptoRow : OpenClaim := { program := "ytgbinemombgckaa", sum := "f584f814c6e137623eb294cdb1493c992dcad26b5cabb2726455a6c06ffd7ade", func := "hornbeam/hornbeamlaw11.AdjustMathML", spec := "adjustMathML", unfollowed := true, recurses := true, apart := false, narrowed := true }
def AdjustMathMLUptoSaid : Prop := adjustMathMLUptoRow.holds Try.pinned (OpenSpec.upto adjustMathMLSpec)

/-- 'hornbeamlaw11.AdjustPoints', WHERE WHAT IT READS IS OF BULK AT MOST 1048576: true; the input reads as it did. -/
def adjustPointsUptoRow : OpenClaim := { program := "ytgbinemombgckaa", sum := "f584f814c6e137623eb294cdb1493c992dcad26b5cabb2726455a6c06ffd7ade", func := "hornbeam/hornbeamlaw11.AdjustPoints", spec := "adjustPoints", unfollowed := true, recurses := true, apart := false, narrowed := true }
def AdjustPointsUptoSaid : Prop := adjustPointsUptoRow.holds Try.pinned (OpenSpec.upto adjustPointsSpec)

/-- 'hornbeamlaw11.AdjustBreaks', WHERE WHAT IT READS IS OF BULK AT MOST 1048576: true; the input reads as it did. -/
def adjustBreaksUptoRow : OpenClaim := { program := "ytgbinemombgckaa", sum := "f584f814c6e137623eb294cdb1493c992dcad26b5cabb2726455a6c06ffd7ade", func := "hornbeam/hornbeamlaw11.AdjustBreaks", spec := "adjustBreaks", unfollowed := true, recurses := true, apart := false, narrowed := true }
def AdjustBreaksUptoSaid : Prop := adjustBreaksUptoRow.holds Try.pinned (OpenSpec.upto adjustBreaksSpec)

end Rows
end Go.Proofs.Ytgbinemombgckaa
