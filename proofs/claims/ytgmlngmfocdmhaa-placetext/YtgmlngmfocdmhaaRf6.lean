import Derived.Test.YtgmlngmfocdmhaaRf5
/-
  The document's own arena: a node more.
-/
namespace Go.Proofs.Ytgmlngmfocdmhaa
open Go.RowKit

section
variable {w w' : World} {base bR g cap : Nat} {rs : List OneR}

def OneR.agg (r : OneR) : Value := .agg #[.int .i64 r.o.kind, .int .i64 r.o.space, .string r.o.name, r.av, .string r.o.data, .string r.o.system, .int .i64 r.o.inner, .int .i64 r.o.host, .int .i64 r.o.up, r.kv]
def OneR.free (r : OneR) : OneR := { r with o := { r.o with inner := -1, host := -1, up := -1 } }

theorem Lists.free {r : OneR} (h : Lists w base bR g r) : Lists w base bR g r.free := ⟨h.attrs, h.kids, h.held⟩

end
end Go.Proofs.Ytgmlngmfocdmhaa
