import Derived.Test.YtgmlngmfocdmhaaSd
/-
  Names among tables: slices.Contains over texts, isAmong, isNamed.
-/
namespace Go.Proofs.Ytgmlngmfocdmhaa
open Go.RowKit

theorem cell_row (w : World) (b k : Nat) (c : Array Value) (e : TypeId) (fz : Nat × Nat) (h : w.heap[b]? = some (.cells c e fz)) : w.cell? ⟨b, k, none⟩ = c[k]? := by
  unfold World.cell?
  simp [h]
theorem below_new (w : World) (o : Obj) : Below w.heap.size w (w.alloc o) := (Below.refl _ w).alloc (Nat.le_refl _) _
/-- A table in a block of its own. -/
structure TabAt (w : World) (b : Nat) (l : List ByteArray) : Prop where
  cells : ∀ (j : Nat) s, l[j]? = some s → w.cell? ⟨b, j, none⟩ = some (.string s)
  lt : b < w.heap.size
def sRow (l : List ByteArray) : Array Value := (l.map Value.string).toArray
theorem tab_block {w : World} {b : Nat} {l : List ByteArray} {t : TypeId} {fz : Nat × Nat} (h : w.heap[b]? = some (.cells (sRow l) t fz)) : TabAt w b l := by
  refine ⟨fun j s hs => ?_, lt_of_block h⟩
  rw [cell_row _ b j _ _ _ h]
  simp [sRow, hs]
theorem tab_new (w : World) (l : List ByteArray) (t : TypeId) : TabAt (w.alloc (.cells (sRow l) t)) w.heap.size l := tab_block (heap_alloc_new w _)
theorem TabAt.below {w w' : World} {b : Nat} {l : List ByteArray} (h : TabAt w b l) (hb : Below w.heap.size w w') : TabAt w' b l :=
  ⟨fun j s hs => (hb.cell (p := ⟨b, j, none⟩) h.lt).trans (h.cells j s hs), Nat.lt_of_lt_of_le h.lt hb.size⟩

def hasT (l : List ByteArray) (n : ByteArray) : Bool := l.any fun x => n.toList == x.toList

def amongM (c : Cal) (sp : Int) (l : List ByteArray) : Bool := c.space == sp && hasT l c.name

def namedM (c : Cal) (n : ByteArray) : Bool := amongM c 0 [n]
end Go.Proofs.Ytgmlngmfocdmhaa
