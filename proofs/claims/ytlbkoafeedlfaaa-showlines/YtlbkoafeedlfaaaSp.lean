/-
  Two small lemmas: draws keep what lies; a box of twelve cells.
-/
import Derived.Test.YtlbkoafeedlfaaaOps3
import Derived.Deep.LoopGhost
import Derived.Deep.QuietTactic
import Derived.BigQuiet
namespace Go.Proofs.Ytlbkoafeedlfaaa
open Go.RowKit

theorem below_drewN' {B : Nat} {a w : World} (h : Below B a w) (n : Nat) : Below B a (w.drewN n) := ⟨h.os, h.tape, h.output, h.size, h.block⟩

theorem box12 {w5 w6 : World} {v0 v1 v2 v3 v4 v5 v6 v7 v8 v9 v10 v11 : Value} {t : TypeId} (hb : Below (w5.alloc (.cells #[v0, v1, v2, v3, v4, v5, v6, v7, v8, v9, v10, v11] t)).heap.size (w5.alloc (.cells #[v0, v1, v2, v3, v4, v5, v6, v7, v8, v9, v10, v11] t)) w6) :
    w6.cell? ⟨w5.heap.size, 0, none⟩ = some v0 ∧ w6.cell? ⟨w5.heap.size, 1, none⟩ = some v1 ∧ w6.cell? ⟨w5.heap.size, 2, none⟩ = some v2 ∧ w6.cell? ⟨w5.heap.size, 3, none⟩ = some v3 ∧ w6.cell? ⟨w5.heap.size, 4, none⟩ = some v4 ∧ w6.cell? ⟨w5.heap.size, 5, none⟩ = some v5 ∧ w6.cell? ⟨w5.heap.size, 6, none⟩ = some v6 ∧ w6.cell? ⟨w5.heap.size, 7, none⟩ = some v7 ∧ w6.cell? ⟨w5.heap.size, 8, none⟩ = some v8 ∧
    w6.cell? ⟨w5.heap.size, 9, none⟩ = some v9 ∧ w6.cell? ⟨w5.heap.size, 10, none⟩ = some v10 ∧ w6.cell? ⟨w5.heap.size, 11, none⟩ = some v11 ∧ w5.heap.size < w6.heap.size := by
  have hs := hb.size
  have hc : ∀ j, w6.cell? ⟨w5.heap.size, j, none⟩ = (w5.alloc (.cells #[v0, v1, v2, v3, v4, v5, v6, v7, v8, v9, v10, v11] t)).cell? ⟨w5.heap.size, j, none⟩ := fun j => hb.cell (p := ⟨w5.heap.size, j, none⟩) (by simp)
  refine ⟨?_, ?_, ?_, ?_, ?_, ?_, ?_, ?_, ?_, ?_, ?_, ?_, by simp at hs; omega⟩ <;> (rw [hc]; simp)
end Go.Proofs.Ytlbkoafeedlfaaa
