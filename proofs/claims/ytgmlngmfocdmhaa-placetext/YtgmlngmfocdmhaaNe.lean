import Derived.Test.YtgmlngmfocdmhaaNc
import Derived.Great.CaseRows
/-
  Package stack's tables of names: special elements.
-/
namespace Go.Proofs.Ytgmlngmfocdmhaa
open Go.RowKit Go.Great

theorem setRow_new (w : World) (a b : Array Value) (t : TypeId) : (w.alloc (.cells a t)).setRow w.heap.size b = w.alloc (.cells b t) := by
  unfold World.setRow World.alloc
  simp only
  congr 1
  apply Array.ext_getElem?
  intro i
  rw [Array.getElem?_modify]
  by_cases h : w.heap.size = i
  · subst h
    simp
  · rw [if_neg h]
    rw [Array.getElem?_push, Array.getElem?_push, if_neg (fun e => h e.symm), if_neg (fun e => h e.symm)]

end Go.Proofs.Ytgmlngmfocdmhaa
