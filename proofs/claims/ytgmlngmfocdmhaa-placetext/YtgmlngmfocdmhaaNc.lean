import Derived.Test.YtgmlngmfocdmhaaNb
/-
  Package stack's tables of names: MathML's and SVG's borders, the borders of the scope.
-/
namespace Go.Proofs.Ytgmlngmfocdmhaa
open Go.RowKit

def foreignM (c : Cal) : Bool := amongM c 1 mathT || amongM c 2 svgT
def plainM (c : Cal) : Bool := amongM c 0 bordT || foreignM c
def specialM (c : Cal) : Bool := amongM c 0 specT || foreignM c


theorem below3 (w : World) (o1 o2 o3 : Obj) : Below w.heap.size w (((w.alloc o1).alloc o2).alloc o3) := (((Below.refl _ w).alloc (Nat.le_refl _) _).alloc (by simp) _).alloc (by simp; omega) _
theorem below2 (w : World) (o1 o2 : Obj) : Below w.heap.size w ((w.alloc o1).alloc o2) := ((Below.refl _ w).alloc (Nat.le_refl _) _).alloc (by simp) _
theorem first_cells (w : World) (a b : Value) (t : TypeId) (w1 : World) (hb : Below (w.alloc (.cells #[a, b] t)).heap.size (w.alloc (.cells #[a, b] t)) w1) : w1.cell? ⟨w.heap.size, 0, none⟩ = some a ∧ w1.cell? ⟨w.heap.size, 1, none⟩ = some b := by
  have h := (hb.block w.heap.size (by simp)).trans (heap_alloc_new w _)
  exact ⟨by simp [World.cell?, h], by simp [World.cell?, h]⟩

end Go.Proofs.Ytgmlngmfocdmhaa
