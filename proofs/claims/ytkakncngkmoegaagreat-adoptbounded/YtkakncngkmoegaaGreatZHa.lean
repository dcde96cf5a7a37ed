import Derived.Test.YtkakncngkmoegaaGreatXGz1
import Derived.Defers
import Derived.Recover
import Derived.Laws.Pointers
import Derived.ScopeJumps
import Derived.WalkMore
/-
  The agency: a run that closes F alone.
-/
namespace Go.Proofs.YtkakncngkmoegaaGreat
open Go.RowKit Go.Sort

/-- What is done at the end where nothing was refused: nothing. -/
theorem grun_deferred (W : World) (be bg : Nat) (u : FrameMode) (h : W.cell? ⟨be, 0, none⟩ = some (.int .i64 0)) : CallsD Tryz.prog 86 #[.pointer (some ⟨be, 0, none⟩), .pointer (some ⟨bg, 0, none⟩)] u W fun e u' w' => u' = u ∧ (e = .returned (.tuple #[]) ∧ w' = W) := by
  go_enter_d Tryz.func86, Tryz.ntmps86
  go_wp2
  exact ⟨rfl, _, results_none rfl _ _ _, rfl, rfl⟩
theorem err_ret {fn : Func} {p : Tmp} (hr : fn.results = #[.cell p 36]) {W : World} {b : Nat} {x : Int} (h : W.cell? ⟨b, 0, none⟩ = some (.int .i64 x)) (tmps : Array Value) (hp : tmps.getD p undef = .pointer (some ⟨b, 0, none⟩)) :
    (results fn tmps).run Tryz.prog W = .ok (.int .i64 x) W := by
  rw [results_cell hr tmps Tryz.prog W, hp]
  simp [go_sem, h]
section
variable {w wx : World} {P : Pt} {s : St} {c : Ct} {rest : List (Ob w.heap.size)} {n : Nat}
theorem AE.boxe (h : AE w wx P s c rest) : AE w ((wx.alloc (.cells #[.pointer (some ⟨P.bG, 0, none⟩)] 83)).alloc (.cells #[.int .i64 0] 36)) P s c ((rest ++ [blkOb _ wx.heap.size #[.pointer (some ⟨P.bG, 0, none⟩)] 83]) ++ [blkOb _ (wx.heap.size + 1) #[.int .i64 0] 36]) := by
  have h2 := (h.boxed #[.pointer (some ⟨P.bG, 0, none⟩)] 83).boxed #[.int .i64 0] 36
  rwa [show (wx.alloc (.cells #[.pointer (some ⟨P.bG, 0, none⟩)] 83)).heap.size = wx.heap.size + 1 by simp] at h2
theorem AE.boxe_cells {W : World} (h : AE w W P s c ((rest ++ [blkOb _ wx.heap.size #[.pointer (some ⟨P.bG, 0, none⟩)] 83]) ++ [blkOb _ (wx.heap.size + 1) #[.int .i64 0] 36])) : W.cell? ⟨wx.heap.size, 0, none⟩ = some (.pointer (some ⟨P.bG, 0, none⟩)) ∧ W.cell? ⟨wx.heap.size + 1, 0, none⟩ = some (.int .i64 0) ∧ W.frozen? ⟨wx.heap.size + 1, 0, none⟩ = false := by
  have h1 := h.block (i := rest.length) (K := wx.heap.size) (cs := #[.pointer (some ⟨P.bG, 0, none⟩)]) (t := 83) (by simp)
  have h2 := h.block (i := rest.length + 1) (K := wx.heap.size + 1) (cs := #[.int .i64 0]) (t := 36) (by simp)
  exact ⟨cell_of_row _ _ 0 _ _ _ h1, cell_of_row _ _ 0 _ _ _ h2, free_row h2 0⟩
end
end Go.Proofs.YtkakncngkmoegaaGreat
