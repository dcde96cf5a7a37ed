import Derived.Test.YtgmlngmfocdmhaaRf6
/-
  The document's own arena, its inner places hidden: texts, comments, doctypes and fragments are made.
-/
namespace Go.Proofs.Ytgmlngmfocdmhaa
open Go.RowKit

section
variable {w w' : World} {base bR : Nat} {os : List OneM} {G : Nat → Prop}

def bareR (q : OneM) : OneR := { o := { q with inner := 0, host := 0, up := 0 }, av := .slice none 0 0, kv := .slice none 0 0 }

end
end Go.Proofs.Ytgmlngmfocdmhaa
