/-
  NARROWER THAN 'FOR EVERY INPUT', by the rows' own cells (each row's printed sentence says how): SniffMarks: laid · SniffPrescans: laid · SniffContents: laid · SniffChooses: laid · SniffBound: laid · SniffPlain: laid · SniffMeta: laid.
  DERIVED. THE GIVEN ROWS OF THIS SEAT. 7 by the template 'for every input the law returns true; each argument reads behind the call as it read before'; 0 by the template 'total and deterministic' (their statements: YtmikcdmlhocgbaaDoorTotals.lean).
  GIVEN WITH THE SEED: the statements are not yours to turn. If you find one false, say at which input.
  Laid BY PROGRAM, IN A SANDBOX (cutbox-rows.mjs): the forced cells as the released guide's own fill.sh prints them over the translation 8b1a03308dcdcf65… (all of the seat's roots in one cut). By AI agents, Wed Nov 11 2026. No macro, syntax, notation, axiom, sorry.
-/
import Derived.Test.YtmikcdmlhocgbaaDoorChecked
import GoSem.PinnedTables
import GoSem.Claim
import GoSem.ClaimJoined
import GoSem.ClaimMapViews
import Derived.JoinedTies
import Derived.KernelRfl
namespace Go.Proofs.YtmikcdmlhocgbaaDoor
/- THE CELL 'sum', in the pinned program and in every row, IS THE sha256 OF THE DUMP (.gsa) THAT YtmikcdmlhocgbaaDoorProg.lean LOADS. Nothing in Lean hashes anything: it is a label: what it is worth is what the hold of that sum in a sandbox is worth. -/
noncomputable def Tryd.pinned : Pinned := { name := "ytmikcdmlhocgbaadoor", sum := "8b1a03308dcdcf65c124e94a2d7f1730ba2731757c42eb46970a6296b9997dde", checked := Tryd.checked }
namespace Rows
def none {H : Type} : Left H := { results := [], args := [] }

/- WHAT THE LISTED PACKAGE-LEVEL VARIABLES READ AS WHEN THE CALL BEGINS. Each datum BY PROGRAM (the guide's laid-datum.mjs) off the statement by which the dump's own 'gosem.cut.vars' lays the variable. In a bare row this is a premise. The card (YtmikcdmlhocgbaaDoorCards.lean) ties it to the program's text. -/
def laid_unicode_utf8_acceptRanges {H : Type} : DataW H := .agg [.agg [.lit (.int .u8 128), .lit (.int .u8 191)], .agg [.lit (.int .u8 160), .lit (.int .u8 191)], .agg [.lit (.int .u8 128), .lit (.int .u8 159)], .agg [.lit (.int .u8 144), .lit (.int .u8 191)], .agg [.lit (.int .u8 128), .lit (.int .u8 143)], .agg [.lit (.int .u8 0), .lit (.int .u8 0)], .agg [.lit (.int .u8 0), .lit (.int .u8 0)], .agg [.lit (.int .u8 0), .lit (.int .u8 0)], .agg [.lit (.int .u8 0), .lit (.int .u8 0)], .agg [.lit (.int .u8 0), .lit (.int .u8 0)], .agg [.lit (.int .u8 0), .lit (.int .u8 0)], .agg [.lit (.int .u8 0), .lit (.int .u8 0)], .agg [.lit (.int .u8 0), .lit (.int .u8 0)], .agg [.lit (.int .u8 0), .lit (.int .u8 0)], .agg [.lit (.int .u8 0), .lit (.int .u8 0)], .agg [.lit (.int .u8 0), .lit (.int .u8 0)]]
/-- One of Go's own tables, pinned by name: the form's constant. -/
def laid_unicode_utf8_first : DataW Unit := Go.Pinned.utf8First

/-- 'hornbeamlaw06.SniffMarks': WHATEVER THE INPUT: true; the input reads as it did. -/
def sniffMarksSpec : ChangeSpec := { name := "sniffMarks", fn := fun _ => fun
  | [d] => { results := [.lit (.bool true)], args := [d] }
  | _ => none }
def sniffMarksRow : OpenClaim := { program := "ytmikcdmlhocgbaadoor", sum := "8b1a03308dcdcf65c124e94a2d7f1730ba2731757c42eb46970a6296b9997dde", func := "hornbeam/hornbeamlaw06.SniffMarks", spec := "sniffMarks", inPlace := ["internal/bytealg.IndexByteString", "internal/bytealg.IndexString"], unfollowed := true, recurses := true, named := ["unicode/utf8.first", "unicode/utf8.acceptRanges", "internal/bytealg.MaxLen"], apart := false, laid := [("unicode/utf8.acceptRanges", laid_unicode_utf8_acceptRanges), ("unicode/utf8.first", laid_unicode_utf8_first)] }
def SniffMarksSaid : Prop := sniffMarksRow.holds Tryd.pinned (OpenSpec.ofChange sniffMarksSpec)

/-- ITS FALSE NEIGHBOUR: 'it returns false'. Refute it at one input. -/
def sniffMarksWrong : ChangeSpec := { name := "sniffMarks", fn := fun _ => fun
  | [d] => { results := [.lit (.bool false)], args := [d] }
  | _ => none }
def SniffMarksWrongFalsely : Prop := sniffMarksRow.holds Tryd.pinned (OpenSpec.ofChange sniffMarksWrong)

/-- 'hornbeamlaw06.SniffPrescans': WHATEVER THE INPUT: true; the input reads as it did. -/
def sniffPrescansSpec : ChangeSpec := { name := "sniffPrescans", fn := fun _ => fun
  | [d] => { results := [.lit (.bool true)], args := [d] }
  | _ => none }
def sniffPrescansRow : OpenClaim := { program := "ytmikcdmlhocgbaadoor", sum := "8b1a03308dcdcf65c124e94a2d7f1730ba2731757c42eb46970a6296b9997dde", func := "hornbeam/hornbeamlaw06.SniffPrescans", spec := "sniffPrescans", inPlace := ["internal/bytealg.IndexByteString", "internal/bytealg.IndexString"], unfollowed := true, recurses := true, named := ["unicode/utf8.first", "unicode/utf8.acceptRanges", "internal/bytealg.MaxLen"], apart := false, laid := [("unicode/utf8.acceptRanges", laid_unicode_utf8_acceptRanges), ("unicode/utf8.first", laid_unicode_utf8_first)] }
def SniffPrescansSaid : Prop := sniffPrescansRow.holds Tryd.pinned (OpenSpec.ofChange sniffPrescansSpec)

/-- ITS FALSE NEIGHBOUR: 'it returns false'. Refute it at one input. -/
def sniffPrescansWrong : ChangeSpec := { name := "sniffPrescans", fn := fun _ => fun
  | [d] => { results := [.lit (.bool false)], args := [d] }
  | _ => none }
def SniffPrescansWrongFalsely : Prop := sniffPrescansRow.holds Tryd.pinned (OpenSpec.ofChange sniffPrescansWrong)

/-- 'hornbeamlaw06.SniffContents': WHATEVER THE INPUT: true; the input reads as it did. -/
def sniffContentsSpec : ChangeSpec := { name := "sniffContents", fn := fun _ => fun
  | [d] => { results := [.lit (.bool true)], args := [d] }
  | _ => none }
def sniffContentsRow : OpenClaim := { program := "ytmikcdmlhocgbaadoor", sum := "8b1a03308dcdcf65c124e94a2d7f1730ba2731757c42eb46970a6296b9997dde", func := "hornbeam/hornbeamlaw06.SniffContents", spec := "sniffContents", inPlace := ["internal/bytealg.IndexByteString", "internal/bytealg.IndexString"], unfollowed := true, recurses := true, named := ["unicode/utf8.first", "unicode/utf8.acceptRanges", "internal/bytealg.MaxLen"], apart := false, laid := [("unicode/utf8.acceptRanges", laid_unicode_utf8_acceptRanges), ("unicode/utf8.first", laid_unicode_utf8_first)] }
def SniffContentsSaid : Prop := sniffContentsRow.holds Tryd.pinned (OpenSpec.ofChange sniffContentsSpec)

/-- ITS FALSE NEIGHBOUR: 'it returns false'. Refute it at one input. -/
def sniffContentsWrong : ChangeSpec := { name := "sniffContents", fn := fun _ => fun
  | [d] => { results := [.lit (.bool false)], args := [d] }
  | _ => none }
def SniffContentsWrongFalsely : Prop := sniffContentsRow.holds Tryd.pinned (OpenSpec.ofChange sniffContentsWrong)

/-- 'hornbeamlaw06.SniffChooses': WHATEVER THE INPUT: true; the input reads as it did. -/
def sniffChoosesSpec : ChangeSpec := { name := "sniffChooses", fn := fun _ => fun
  | [d1, d2, d3] => { results := [.lit (.bool true)], args := [d1, d2, d3] }
  | _ => none }
def sniffChoosesRow : OpenClaim := { program := "ytmikcdmlhocgbaadoor", sum := "8b1a03308dcdcf65c124e94a2d7f1730ba2731757c42eb46970a6296b9997dde", func := "hornbeam/hornbeamlaw06.SniffChooses", spec := "sniffChooses", inPlace := ["internal/bytealg.IndexByteString", "internal/bytealg.IndexString"], unfollowed := true, recurses := true, named := ["unicode/utf8.first", "unicode/utf8.acceptRanges", "internal/bytealg.MaxLen"], apart := false, laid := [("unicode/utf8.acceptRanges", laid_unicode_utf8_acceptRanges), ("unicode/utf8.first", laid_unicode_utf8_first)] }
def SniffChoosesSaid : Prop := sniffChoosesRow.holds Tryd.pinned (OpenSpec.ofChange sniffChoosesSpec)

/-- ITS FALSE NEIGHBOUR: 'it returns false'. Refute it at one input. -/
def sniffChoosesWrong : ChangeSpec := { name := "sniffChooses", fn := fun _ => fun
  | [d1, d2, d3] => { results := [.lit (.bool false)], args := [d1, d2, d3] }
  | _ => none }
def SniffChoosesWrongFalsely : Prop := sniffChoosesRow.holds Tryd.pinned (OpenSpec.ofChange sniffChoosesWrong)

/-- 'hornbeamlaw06.SniffBound': WHATEVER THE INPUT: true; the input reads as it did. -/
def sniffBoundSpec : ChangeSpec := { name := "sniffBound", fn := fun _ => fun
  | [d1, d2, d3] => { results := [.lit (.bool true)], args := [d1, d2, d3] }
  | _ => none }
def sniffBoundRow : OpenClaim := { program := "ytmikcdmlhocgbaadoor", sum := "8b1a03308dcdcf65c124e94a2d7f1730ba2731757c42eb46970a6296b9997dde", func := "hornbeam/hornbeamlaw06.SniffBound", spec := "sniffBound", inPlace := ["internal/bytealg.IndexByteString", "internal/bytealg.IndexString"], unfollowed := true, recurses := true, named := ["unicode/utf8.first", "unicode/utf8.acceptRanges", "internal/bytealg.MaxLen"], apart := false, laid := [("unicode/utf8.acceptRanges", laid_unicode_utf8_acceptRanges), ("unicode/utf8.first", laid_unicode_utf8_first)] }
def SniffBoundSaid : Prop := sniffBoundRow.holds Tryd.pinned (OpenSpec.ofChange sniffBoundSpec)

/-- ITS FALSE NEIGHBOUR: 'it returns false'. Refute it at one input. -/
def sniffBoundWrong : ChangeSpec := { name := "sniffBound", fn := fun _ => fun
  | [d1, d2, d3] => { results := [.lit (.bool false)], args := [d1, d2, d3] }
  | _ => none }
def SniffBoundWrongFalsely : Prop := sniffBoundRow.holds Tryd.pinned (OpenSpec.ofChange sniffBoundWrong)

/-- 'hornbeamlaw06.SniffPlain': WHATEVER THE INPUT: true; the input reads as it did. -/
def sniffPlainSpec : ChangeSpec := { name := "sniffPlain", fn := fun _ => fun
  | [d] => { results := [.lit (.bool true)], args := [d] }
  | _ => none }
def sniffPlainRow : OpenClaim := { program := "ytmikcdmlhocgbaadoor", sum := "8b1a03308dcdcf65c124e94a2d7f1730ba2731757c42eb46970a6296b9997dde", func := "hornbeam/hornbeamlaw06.SniffPlain", spec := "sniffPlain", inPlace := ["internal/bytealg.IndexByteString", "internal/bytealg.IndexString"], unfollowed := true, recurses := true, named := ["unicode/utf8.first", "unicode/utf8.acceptRanges", "internal/bytealg.MaxLen"], apart := false, laid := [("unicode/utf8.acceptRanges", laid_unicode_utf8_acceptRanges), ("unicode/utf8.first", laid_unicode_utf8_first)] }
def SniffPlainSaid : Prop := sniffPlainRow.holds Tryd.pinned (OpenSpec.ofChange sniffPlainSpec)

/-- ITS FALSE NEIGHBOUR: 'it returns false'. Refute it at one input. -/
def sniffPlainWrong : ChangeSpec := { name := "sniffPlain", fn := fun _ => fun
  | [d] => { results := [.lit (.bool false)], args := [d] }
  | _ => none }
def SniffPlainWrongFalsely : Prop := sniffPlainRow.holds Tryd.pinned (OpenSpec.ofChange sniffPlainWrong)

/-- 'hornbeamlaw06.SniffMeta': WHATEVER THE INPUT: true; the input reads as it did. -/
def sniffMetaSpec : ChangeSpec := { name := "sniffMeta", fn := fun _ => fun
  | [d1, d2, d3] => { results := [.lit (.bool true)], args := [d1, d2, d3] }
  | _ => none }
def sniffMetaRow : OpenClaim := { program := "ytmikcdmlhocgbaadoor", sum := "8b1a03308dcdcf65c124e94a2d7f1730ba2731757c42eb46970a6296b9997dde", func := "hornbeam/hornbeamlaw06.SniffMeta", spec := "sniffMeta", inPlace := ["internal/bytealg.IndexByteString", "internal/bytealg.IndexString"], unfollowed := true, recurses := true, named := ["unicode/utf8.first", "unicode/utf8.acceptRanges", "internal/bytealg.MaxLen"], apart := false, laid := [("unicode/utf8.acceptRanges", laid_unicode_utf8_acceptRanges), ("unicode/utf8.first", laid_unicode_utf8_first)] }
def SniffMetaSaid : Prop := sniffMetaRow.holds Tryd.pinned (OpenSpec.ofChange sniffMetaSpec)

/-- ITS FALSE NEIGHBOUR: 'it returns false'. Refute it at one input. -/
def sniffMetaWrong : ChangeSpec := { name := "sniffMeta", fn := fun _ => fun
  | [d1, d2, d3] => { results := [.lit (.bool false)], args := [d1, d2, d3] }
  | _ => none }
def SniffMetaWrongFalsely : Prop := sniffMetaRow.holds Tryd.pinned (OpenSpec.ofChange sniffMetaWrong)

/- THE SECOND FORM. 'bulk': how many values and letters a reading holds, each counted each time it is reached (what is shared counts as often as it is met; a slice's spare places count too). A statement '..UptoSaid' is the law's where the arguments, and the package variables that the reading takes, are together of bulk at most 1048576: NARROWER than '..Said'. Prove '..Said' where nothing that the law and all that it calls make is longer than what came in: it says more and counts as full. Else prove '..UptoSaid'. A law counts once. -/
mutual
def uptoBulk {H : Type} : DataW H → Nat
  | .lit (.string bytes) => bytes.length + 1
  | .lit _ => 1
  | .nil => 1
  | .ptr d => uptoBulk d + 1
  | .slice elems spare => uptoBulkAll elems + uptoBulkAll spare + 1
  | .agg parts => uptoBulkAll parts + 1
  | .iface _ d => uptoBulk d + 1
  | .map entries => uptoBulkEntries entries + 1
  | .held _ => 1
def uptoBulkAll {H : Type} : List (DataW H) → Nat
  | [] => 0
  | d :: r => uptoBulk d + uptoBulkAll r
def uptoBulkEntries {H : Type} : List (Lit × DataW H) → Nat
  | [] => 0
  | x :: r => uptoBulkEntry x + uptoBulkEntries r
def uptoBulkEntry {H : Type} : Lit × DataW H → Nat
  | (.string bytes, d) => bytes.length + uptoBulk d + 1
  | (_, d) => uptoBulk d + 1
 end
def uptoSmall : (H : Type) → List (DataW H) → Bool := fun _ ds => decide (uptoBulkAll ds ≤ 1048576)
def OpenSpec.upto (s : _root_.Go.ChangeSpec) : _root_.Go.OpenSpec := { _root_.Go.OpenSpec.ofChange s with cond := some uptoSmall }

/-- 'hornbeamlaw06.SniffMarks', WHERE WHAT IT READS IS OF BULK AT MOST 1048576: true; the input reads as it did. -/
def sniffMarksUptoRow : OpenClaim := { program := "ytmikcdmlhocgbaadoor", sum := "8b1a03308dcdcf65c124e94a2d7f1730ba2731757c42eb46970a6296b9997dde", func := "hornbeam/hornbeamlaw06.SniffMarks", spec := "sniffMarks", inPlace := ["internal/bytealg.IndexByteString", "internal/bytealg.IndexString"], unfollowed := true, recurses := true, named := ["unicode/utf8.first", "unicode/utf8.acceptRanges", "internal/bytealg.MaxLen"], apart := false, laid := [("unicode/utf8.acceptRanges", laid_unicode_utf8_acceptRanges), ("unicode/utf8.first", laid_unicode_utf8_first)], narrowed := true }
def SniffMarksUptoSaid : Prop := sniffMarksUptoRow.holds Tryd.pinned (OpenSpec.upto sniffMarksSpec)

/-- 'hornbeamlaw06.SniffPrescans', WHERE WHAT IT READS IS OF BULK AT MOST 1048576: true; the input reads as it did. -/
def sniffPrescansUptoRow : OpenClaim := { program := "ytmikcdmlhocgbaadoor", sum := "8b1a03308dcdcf65c124e94a2d7f1730ba2731757c42eb46970a6296b9997dde", func := "hornbeam/hornbeamlaw06.SniffPrescans", spec := "sniffPrescans", inPlace := ["internal/bytealg.IndexByteString", "internal/bytealg.IndexString"], unfollowed := true, recurses := true, named := ["unicode/utf8.first", "unicode/utf8.acceptRanges", "internal/bytealg.MaxLen"], apart := false, laid := [("unicode/utf8.acceptRanges", laid_unicode_utf8_acceptRanges), ("unicode/utf8.first", laid_unicode_utf8_first)], narrowed := true }
def SniffPrescansUptoSaid : Prop := sniffPrescansUptoRow.holds Tryd.pinned (OpenSpec.upto sniffPrescansSpec)

/-- 'hornbeamlaw06.SniffContents', WHERE WHAT IT READS IS OF BULK AT MOST 1048576: true; the input reads as it did. -/
def sniffContentsUptoRow : OpenClaim := { program := "ytmikcdmlhocgbaadoor", sum := "8b1a03308dcdcf65c124e94a2d7f1730ba2731757c42eb46970a6296b9997dde", func := "hornbeam/hornbeamlaw06.SniffContents", spec := "sniffContents", inPlace := ["internal/bytealg.IndexByteString", "internal/bytealg.IndexString"], unfollowed := true, recurses := true, named := ["unicode/utf8.first", "unicode/utf8.acceptRanges", "internal/bytealg.MaxLen"], apart := false, laid := [("unicode/utf8.acceptRanges", laid_unicode_utf8_acceptRanges), ("unicode/utf8.first", laid_unicode_utf8_first)], narrowed := true }
def SniffContentsUptoSaid : Prop := sniffContentsUptoRow.holds Tryd.pinned (OpenSpec.upto sniffContentsSpec)

/-- 'hornbeamlaw06.SniffChooses', WHERE WHAT IT READS IS OF BULK AT MOST 1048576: true; the input reads as it did. -/
def sniffChoosesUptoRow : OpenClaim := { program := "ytmikcdmlhocgbaadoor", sum := "8b1a03308dcdcf65c124e94a2d7f1730ba2731757c42eb46970a6296b9997dde", func := "hornbeam/hornbeamlaw06.SniffChooses", spec := "sniffChooses", inPlace := ["internal/bytealg.IndexByteString", "internal/bytealg.IndexString"], unfollowed := true, recurses := true, named := ["unicode/utf8.first", "unicode/utf8.acceptRanges", "internal/bytealg.MaxLen"], apart := false, laid := [("unicode/utf8.acceptRanges", laid_unicode_utf8_acceptRanges), ("unicode/utf8.first", laid_unicode_utf8_first)], narrowed := true }
def SniffChoosesUptoSaid : Prop := sniffChoosesUptoRow.holds Tryd.pinned (OpenSpec.upto sniffChoosesSpec)

/-- 'hornbeamlaw06.SniffBound', WHERE WHAT IT READS IS OF BULK AT MOST 1048576: true; the input reads as it did. -/
def sniffBoundUptoRow : OpenClaim := { program := "ytmikcdmlhocgbaadoor", sum := "8b1a03308dcdcf65c124e94a2d7f1730ba2731757c42eb46970a6296b9997dde", func := "hornbeam/hornbeamlaw06.SniffBound", spec := "sniffBound", inPlace := ["internal/bytealg.IndexByteString", "internal/bytealg.IndexString"], unfollowed := true, recurses := true, named := ["unicode/utf8.first", "unicode/utf8.acceptRanges", "internal/bytealg.MaxLen"], apart := false, laid := [("unicode/utf8.acceptRanges", laid_unicode_utf8_acceptRanges), ("unicode/utf8.first", laid_unicode_utf8_first)], narrowed := true }
def SniffBoundUptoSaid : Prop := sniffBoundUptoRow.holds Tryd.pinned (OpenSpec.upto sniffBoundSpec)

/-- 'hornbeamlaw06.SniffPlain', WHERE WHAT IT READS IS OF BULK AT MOST 1048576: true; the input reads as it did. -/
def sniffPlainUptoRow : OpenClaim := { program := "ytmikcdmlhocgbaadoor", sum := "8b1a03308dcdcf65c124e94a2d7f1730ba2731757c42eb46970a6296b9997dde", func := "hornbeam/hornbeamlaw06.SniffPlain", spec := "sniffPlain", inPlace := ["internal/bytealg.IndexByteString", "internal/bytealg.IndexString"], unfollowed := true, recurses := true, named := ["unicode/utf8.first", "unicode/utf8.acceptRanges", "internal/bytealg.MaxLen"], apart := false, laid := [("unicode/utf8.acceptRanges", laid_unicode_utf8_acceptRanges), ("unicode/utf8.first", laid_unicode_utf8_first)], narrowed := true }
def SniffPlainUptoSaid : Prop := sniffPlainUptoRow.holds Tryd.pinned (OpenSpec.upto sniffPlainSpec)

/-- 'hornbeamlaw06.SniffMeta', WHERE WHAT IT READS IS OF BULK AT MOST 1048576: true; the input reads as it did. -/
def sniffMetaUptoRow : OpenClaim := { program := "ytmikcdmlhocgbaadoor", sum := "8b1a03308dcdcf65c124e94a2d7f1730ba2731757c42eb46970a6296b9997dde", func := "hornbeam/hornbeamlaw06.SniffMeta", spec := "sniffMeta", inPlace := ["internal/bytealg.IndexByteString", "internal/bytealg.IndexString"], unfollowed := true, recurses := true, named := ["unicode/utf8.first", "unicode/utf8.acceptRanges", "internal/bytealg.MaxLen"], apart := false, laid := [("unicode/utf8.acceptRanges", laid_unicode_utf8_acceptRanges), ("unicode/utf8.first", laid_unicode_utf8_first)], narrowed := true }
def SniffMetaUptoSaid : Prop := sniffMetaUptoRow.holds Tryd.pinned (OpenSpec.upto sniffMetaSpec)

end Rows
end Go.Proofs.YtmikcdmlhocgbaaDoor
