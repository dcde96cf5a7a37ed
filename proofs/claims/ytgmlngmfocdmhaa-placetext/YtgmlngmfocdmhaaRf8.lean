import Derived.Test.YtgmlngmfocdmhaaRf7
/-
  The document's own arena: elements, first what is refused.
-/
namespace Go.Proofs.Ytgmlngmfocdmhaa
open Go.RowKit

section
variable {w w' : World} {base bR : Nat} {os : List OneM} {G : Nat → Prop}

end
end Go.Proofs.Ytgmlngmfocdmhaa
