import Derived.Test.YtgmlngmfocdmhaaRf
import Derived.Deep.LoopGhost
/-
  The document's own arena: a child's place, an attribute's place, long texts.
-/
namespace Go.Proofs.Ytgmlngmfocdmhaa
open Go.RowKit

section
variable {w : World} {base bR g cap : Nat} {rs : List OneR}

end
end Go.Proofs.Ytgmlngmfocdmhaa
