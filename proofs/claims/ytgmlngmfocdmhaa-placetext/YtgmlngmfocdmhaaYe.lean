import Derived.Test.YtgmlngmfocdmhaaYd
/-
  Package place: Spot without foster parents.
-/
namespace Go.Proofs.Ytgmlngmfocdmhaa
open Go.RowKit

section
variable {w wx : World} {obs : List (Ob w.heap.size)} {i j bA bR bK bW : Nat} {os : List OneM} {L : List Int}
end
end Go.Proofs.Ytgmlngmfocdmhaa
