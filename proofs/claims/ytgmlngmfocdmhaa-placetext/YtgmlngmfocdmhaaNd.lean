import Derived.Test.YtgmlngmfocdmhaaNc
/-
  Package stack's tables of names: the borders of the scope.
-/
namespace Go.Proofs.Ytgmlngmfocdmhaa
open Go.RowKit

end Go.Proofs.Ytgmlngmfocdmhaa
