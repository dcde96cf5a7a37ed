/-
  NARROWER THAN 'FOR EVERY INPUT', by the rows' own cells (each row's printed sentence says how): AdjustForeign: laid · AdjustOnce: laid · AdjustPlain: laid.
  DERIVED. THE GIVEN ROWS OF THIS SEAT. 3 by the template 'for every input the law returns true; each argument reads behind the call as it read before'; 0 by the template 'total and deterministic' (their statements: YtgbinemombgckaaDoorTotals.lean).
  GIVEN WITH THE SEED: the statements are not yours to turn. If you find one false, say at which input.
  Laid BY PROGRAM, IN A SANDBOX (cutbox-rows.mjs): the forced cells as the released guide's own fill.sh prints them over the translation 302a388cdbf7f3a6… (all of the seat's roots in one cut). By AI agents, Wed Nov 11 2026. No macro, syntax, notation, axiom, sorry.
-/
import Derived.Test.YtgbinemombgckaaDoorChecked
import GoSem.Claim
import GoSem.ClaimJoined
import GoSem.ClaimMapViews
import Derived.JoinedTies
import Derived.KernelRfl
namespace Go.Proofs.YtgbinemombgckaaDoor
/- THE CELL 'sum', in the pinned program and in every row, IS THE sha256 OF THE DUMP (.gsa) THAT YtgbinemombgckaaDoorProg.lean LOADS. Nothing in Lean hashes anything: it is a label: what it is worth is what the hold of that sum in a sandbox is worth. -/
noncomputable def Tryd.pinned : Pinned := { name := "ytgbinemombgckaadoor", sum := "302a388cdbf7f3a6c729860bbcc5ba1eeab3b92b204e972023997acc644d7cc5", checked := Tryd.checked }
namespace Rows
def none {H : Type} : Left H := { results := [], args := [] }

/- WHAT THE LISTED PACKAGE-LEVEL VARIABLES READ AS WHEN THE CALL BEGINS. Each datum BY PROGRAM (the guide's laid-datum.mjs) off the statement by which the dump's own 'gosem.cut.vars' lays the variable. In a bare row this is a premise. The card (YtgbinemombgckaaDoorCards.lean) ties it to the program's text. -/
def laid_hornbeam_adjust_spaced {H : Type} : DataW H := .agg [.agg [.lit (.string [120, 108, 105, 110, 107, 58, 97, 99, 116, 117, 97, 116, 101]), .lit (.int .i64 3), .lit (.string [120, 108, 105, 110, 107]), .lit (.string [97, 99, 116, 117, 97, 116, 101])], .agg [.lit (.string [120, 108, 105, 110, 107, 58, 97, 114, 99, 114, 111, 108, 101]), .lit (.int .i64 3), .lit (.string [120, 108, 105, 110, 107]), .lit (.string [97, 114, 99, 114, 111, 108, 101])], .agg [.lit (.string [120, 108, 105, 110, 107, 58, 104, 114, 101, 102]), .lit (.int .i64 3), .lit (.string [120, 108, 105, 110, 107]), .lit (.string [104, 114, 101, 102])], .agg [.lit (.string [120, 108, 105, 110, 107, 58, 114, 111, 108, 101]), .lit (.int .i64 3), .lit (.string [120, 108, 105, 110, 107]), .lit (.string [114, 111, 108, 101])], .agg [.lit (.string [120, 108, 105, 110, 107, 58, 115, 104, 111, 119]), .lit (.int .i64 3), .lit (.string [120, 108, 105, 110, 107]), .lit (.string [115, 104, 111, 119])], .agg [.lit (.string [120, 108, 105, 110, 107, 58, 116, 105, 116, 108, 101]), .lit (.int .i64 3), .lit (.string [120, 108, 105, 110, 107]), .lit (.string [116, 105, 116, 108, 101])], .agg [.lit (.string [120, 108, 105, 110, 107, 58, 116, 121, 112, 101]), .lit (.int .i64 3), .lit (.string [120, 108, 105, 110, 107]), .lit (.string [116, 121, 112, 101])], .agg [.lit (.string [120, 109, 108, 58, 108, 97, 110, 103]), .lit (.int .i64 4), .lit (.string [120, 109, 108]), .lit (.string [108, 97, 110, 103])], .agg [.lit (.string [120, 109, 108, 58, 115, 112, 97, 99, 101]), .lit (.int .i64 4), .lit (.string [120, 109, 108]), .lit (.string [115, 112, 97, 99, 101])], .agg [.lit (.string [120, 109, 108, 110, 115]), .lit (.int .i64 5), .lit (.string []), .lit (.string [120, 109, 108, 110, 115])], .agg [.lit (.string [120, 109, 108, 110, 115, 58, 120, 108, 105, 110, 107]), .lit (.int .i64 5), .lit (.string [120, 109, 108, 110, 115]), .lit (.string [120, 108, 105, 110, 107])]]

/-- 'hornbeamlaw11.AdjustForeign': WHATEVER THE INPUT: true; the input reads as it did. -/
def adjustForeignSpec : ChangeSpec := { name := "adjustForeign", fn := fun _ => fun
  | [d] => { results := [.lit (.bool true)], args := [d] }
  | _ => none }
def adjustForeignRow : OpenClaim := { program := "ytgbinemombgckaadoor", sum := "302a388cdbf7f3a6c729860bbcc5ba1eeab3b92b204e972023997acc644d7cc5", func := "hornbeam/hornbeamlaw11.AdjustForeign", spec := "adjustForeign", unfollowed := true, recurses := true, named := ["hornbeam/adjust.spaced"], apart := false, laid := [("hornbeam/adjust.spaced", laid_hornbeam_adjust_spaced)] }
def AdjustForeignSaid : Prop := adjustForeignRow.holds Tryd.pinned (OpenSpec.ofChange adjustForeignSpec)

/-- ITS FALSE NEIGHBOUR: 'it returns false'. Refute it at one input. -/
def adjustForeignWrong : ChangeSpec := { name := "adjustForeign", fn := fun _ => fun
  | [d] => { results := [.lit (.bool false)], args := [d] }
  | _ => none }
def AdjustForeignWrongFalsely : Prop := adjustForeignRow.holds Tryd.pinned (OpenSpec.ofChange adjustForeignWrong)

/-- 'hornbeamlaw11.AdjustOnce': WHATEVER THE INPUT: true; the input reads as it did. -/
def adjustOnceSpec : ChangeSpec := { name := "adjustOnce", fn := fun _ => fun
  | [d1, d2] => { results := [.lit (.bool true)], args := [d1, d2] }
  | _ => none }
def adjustOnceRow : OpenClaim := { program := "ytgbinemombgckaadoor", sum := "302a388cdbf7f3a6c729860bbcc5ba1eeab3b92b204e972023997acc644d7cc5", func := "hornbeam/hornbeamlaw11.AdjustOnce", spec := "adjustOnce", unfollowed := true, recurses := true, named := ["hornbeam/adjust.spaced"], apart := false, laid := [("hornbeam/adjust.spaced", laid_hornbeam_adjust_spaced)] }
def AdjustOnceSaid : Prop := adjustOnceRow.holds Tryd.pinned (OpenSpec.ofChange adjustOnceSpec)

/-- ITS FALSE NEIGHBOUR: 'it returns false'. Refute it at one input. -/
def adjustOnceWrong : ChangeSpec := { name := "adjustOnce", fn := fun _ => fun
  | [d1, d2] => { results := [.lit (.bool false)], args := [d1, d2] }
  | _ => none }
def AdjustOnceWrongFalsely : Prop := adjustOnceRow.holds Tryd.pinned (OpenSpec.ofChange adjustOnceWrong)

/-- 'hornbeamlaw11.AdjustPlain': WHATEVER THE INPUT: true; the input reads as it did. -/
def adjustPlainSpec : ChangeSpec := { name := "adjustPlain", fn := fun _ => fun
  | [d1, d2] => { results := [.lit (.bool true)], args := [d1, d2] }
  | _ => none }
def adjustPlainRow : OpenClaim := { program := "ytgbinemombgckaadoor", sum := "302a388cdbf7f3a6c729860bbcc5ba1eeab3b92b204e972023997acc644d7cc5", func := "hornbeam/hornbeamlaw11.AdjustPlain", spec := "adjustPlain", unfollowed := true, recurses := true, named := ["hornbeam/adjust.spaced"], apart := false, laid := [("hornbeam/adjust.spaced", laid_hornbeam_adjust_spaced)] }
def AdjustPlainSaid : Prop := adjustPlainRow.holds Tryd.pinned (OpenSpec.ofChange adjustPlainSpec)

/-- ITS FALSE NEIGHBOUR: 'it returns false'. Refute it at one input. -/
def adjustPlainWrong : ChangeSpec := { name := "adjustPlain", fn := fun _ => fun
  | [d1, d2] => { results := [.lit (.bool false)], args := [d1, d2] }
  | _ => none }
def AdjustPlainWrongFalsely : Prop := adjustPlainRow.holds Tryd.pinned (OpenSpec.ofChange adjustPlainWrong)

/- THE SECOND FORM. 'bulk': how many values and letters a reading holds, each counted each time it is reached (what is shared counts as often as it is met; a slice's spare places count too). A statement '..UptoSaid' is the law's where the arguments, and the package variables that the reading takes, are together of bulk at most 1048576: NARROWER than '..Said'. Prove '..Said' where nothing that the law and all that it calls make is longer than what came in: it says more and counts as full. Else prove '..UptoSaid'. A law counts once. -/
mutual
def uptoBulk {H : Type} : DataW H → Nat
  | .lit (.string bytes) => bytes.length + 1
  | .lit _ => 1
  | .nil => 1
  | .ptr d => uptoBulk d + 1
  | .slice elems spare => uptoBulkAll elems + uptoBulkAll spare + 1
  | .agg parts => uptoBulkAll parts + 1
  | .iface _ d => uptoBulk d + 1
  | .map entries => uptoBulkEntries entries + 1
  | .held _ => 1
def uptoBulkAll {H : Type} : List (DataW H) → Nat
  | [] => 0
  | d :: r => uptoBulk d + uptoBulkAll r
def uptoBulkEntries {H : Type} : List (Lit × DataW H) → Nat
  | [] => 0
  | x :: r => uptoBulkEntry x + uptoBulkEntries r
def uptoBulkEntry {H : Type} : Lit × DataW H → Nat
  | (.string bytes, d) => bytes.length + uptoBulk d + 1
  | (_, d) => uptoBulk d + 1
 end
def uptoSmall : (H : Type) → List (DataW H) → Bool := fun _ ds => decide (uptoBulkAll ds ≤ 1048576)
def OpenSpec.upto (s : _root_.Go.ChangeSpec) : _root_.Go.OpenSpec := { _root_.Go.OpenSpec.ofChange s with cond := some uptoSmall }

/-- 'hornbeamlaw11.AdjustForeign', WHERE WHAT IT READS IS OF BULK AT MOST 1048576: true; the input reads as it did. -/
def adjustForeignUptoRow : OpenClaim := { program := "ytgbinemombgckaadoor", sum := "302a388cdbf7f3a6c729860bbcc5ba1eeab3b92b204e972023997acc644d7cc5", func := "hornbeam/hornbeamlaw11.AdjustForeign", spec := "adjustForeign", unfollowed := true, recurses := true, named := ["hornbeam/adjust.spaced"], apart := false, laid := [("hornbeam/adjust.spaced", laid_hornbeam_adjust_spaced)], narrowed := true }
def AdjustForeignUptoSaid : Prop := adjustForeignUptoRow.holds Tryd.pinned (OpenSpec.upto adjustForeignSpec)

/-- 'hornbeamlaw11.AdjustOnce', WHERE WHAT IT READS IS OF BULK AT MOST 1048576: true; the input reads as it did. -/
def adjustOnceUptoRow : OpenClaim := { program := "ytgbinemombgckaadoor", sum := "302a388cdbf7f3a6c729860bbcc5ba1eeab3b92b204e972023997acc644d7cc5", func := "hornbeam/hornbeamlaw11.AdjustOnce", spec := "adjustOnce", unfollowed := true, recurses := true, named := ["hornbeam/adjust.spaced"], apart := false, laid := [("hornbeam/adjust.spaced", laid_hornbeam_adjust_spaced)], narrowed := true }
def AdjustOnceUptoSaid : Prop := adjustOnceUptoRow.holds Tryd.pinned (OpenSpec.upto adjustOnceSpec)

/-- 'hornbeamlaw11.AdjustPlain', WHERE WHAT IT READS IS OF BULK AT MOST 1048576: true; the input reads as it did. -/
def adjustPlainUptoRow : OpenClaim := { program := "ytgbinemombgckaadoor", sum := "302a388cdbf7f3a6c729860bbcc5ba1eeab3b92b204e972023997acc644d7cc5", func := "hornbeam/hornbeamlaw11.AdjustPlain", spec := "adjustPlain", unfollowed := true, recurses := true, named := ["hornbeam/adjust.spaced"], apart := false, laid := [("hornbeam/adjust.spaced", laid_hornbeam_adjust_spaced)], narrowed := true }
def AdjustPlainUptoSaid : Prop := adjustPlainUptoRow.holds Tryd.pinned (OpenSpec.upto adjustPlainSpec)

end Rows
end Go.Proofs.YtgbinemombgckaaDoor
