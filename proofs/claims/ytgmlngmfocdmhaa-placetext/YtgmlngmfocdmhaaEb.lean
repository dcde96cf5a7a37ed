import Derived.Test.YtgmlngmfocdmhaaEa
import Derived.Test.YtgmlngmfocdmhaaOb
import Derived.Test.YtgmlngmfocdmhaaOa
/-
  Both arenas made of the same elements.
-/
namespace Go.Proofs.Ytgmlngmfocdmhaa
open Go.RowKit

def xB : ByteArray := ⟨#[120]⟩
def ksOf (ks : List Key) (l : List Cal) : List Key := l.foldl (fun ks c => (elemK ks c.space c.name).1) ks
/-- The nodes of the arenas that are made of l. -/
def ksL (l : List Cal) : List Key := (textK (ksOf [⟨0, 0, emptyS⟩] (l.take 300)) xB).1
theorem ksOf_next {l : List Cal} {i : Nat} {c : Cal} (h : l[i]? = some c) : ksOf [⟨0, 0, emptyS⟩] (l.take (i + 1)) = (elemK (ksOf [⟨0, 0, emptyS⟩] (l.take i)) c.space c.name).1 := by
  obtain ⟨hlt, rfl⟩ := List.getElem?_eq_some_iff.1 h
  rw [List.take_succ_eq_append_getElem hlt, ksOf, List.foldl_append]
  rfl

end Go.Proofs.Ytgmlngmfocdmhaa
