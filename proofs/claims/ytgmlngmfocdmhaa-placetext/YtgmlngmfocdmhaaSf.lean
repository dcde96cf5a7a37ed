import Derived.Test.YtgmlngmfocdmhaaSe
import Derived.Test.YtgmlngmfocdmhaaNe
import Derived.Deep.LoopGhost
import Derived.Laws.EntriesVeiled
import Derived.Shelf.GgClosure.Gives
/-
  What is in a scope: reaches over any question, Scope, NodeScope; Special.
-/
namespace Go.Proofs.Ytgmlngmfocdmhaa
open Go.RowKit

/-- From the n-th on downwards: does what is wanted come ahead of every border? -/
def reachI (want bord : Int → Bool) (L : List Int) : Nat → Bool
  | 0 => false
  | n + 1 => match L[n]? with
    | some x => if want x then true else if bord x then false else reachI want bord L n
    | none => false

section
variable {w : World} {base bK bA : Nat} {ks : List Key} {L : List Int} {F FA : Nat → Prop}

/-- Is an element of that name in the scope? -/
def scopeM (ks : List Key) (L : List Int) (name : ByteArray) (kind : Int) : Bool := if kind < 0 ∨ 4 < kind then false else reachI (fun id => namedM (calOf ks id) name) (fun id => borderM (calOf ks id) kind) L L.length
def nodeScopeM (ks : List Key) (L : List Int) (id kind : Int) : Bool := if kind < 0 ∨ 4 < kind then false else reachI (fun x => x == id) (fun id => borderM (calOf ks id) kind) L L.length

theorem cell_after {w w1 : World} {v : Value} {t : TypeId} (hb : Below (w.alloc (.cells #[v] t)).heap.size (w.alloc (.cells #[v] t)) w1) : w1.cell? ⟨w.heap.size, 0, none⟩ = some v :=
  cell_of_one ((hb.block w.heap.size (by simp)).trans (heap_alloc_new w _))

def specM (ks : List Key) (id : Int) : Bool := (elOf ks id).isSome && specialM (calOf ks id)
end
end Go.Proofs.Ytgmlngmfocdmhaa
