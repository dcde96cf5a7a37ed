import Derived.Test.YtpnmeonbfmoclaaData
import Derived.Deep.RegionWith
/-
  Element.
-/
namespace Go.Proofs.Ytpnmeonbfmoclaa
open Go.RowKit

def elemN (space : Int) (name : ByteArray) (l : List AttrM) (av : Value) : NodeM := { blankM 1 with space := space, name := name, av := av, attrs := l }
def tmpl : ByteArray := ⟨#[116, 101, 109, 112, 108, 97, 116, 101]⟩

/-- A name or an attribute too long, or too many. -/
def longE (name : ByteArray) (l : List AttrM) : Bool := longS name || decide (1024 < l.length) || l.any AttrM.long

end Go.Proofs.Ytpnmeonbfmoclaa
