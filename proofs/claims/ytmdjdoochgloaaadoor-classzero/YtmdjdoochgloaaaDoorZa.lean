/-
  No arena is in the class: the walk of ClassZero.
-/
import Derived.Test.YtmdjdoochgloaaaDoorProg
import Derived.WalkKit
import Derived.WalkSpells
import Derived.ArgAppend
import Derived.OwnWalk
namespace Go.Proofs.YtmdjdoochgloaaaDoor
open Go.RowKit

theorem hide {p : Prop} (h : p) : Hid p := h
theorem unhide {p : Prop} (h : Hid p) : p := h
theorem below_new (w : World) (o : Obj) : Below w.heap.size w (w.alloc o) := (Below.refl _ w).alloc (Nat.le_refl _) _

def zeroL : Array Value := #[.int .i64 0, .int .i64 0, .string ⟨#[]⟩, .slice none 0 0, .string ⟨#[]⟩, .string ⟨#[]⟩, .int .i64 0, .int .i64 0, .int .i64 0, .int .i64 0, .int .i64 0, .int .i64 0]
def nodeZ : Value := .agg zeroL

theorem made_nil (w : World) : Calls Tryd.prog 12 #[.pointer none] w fun e w' => e = .returned (.bool false) ∧ w = w' := by
  go_enter Tryd.func12, Tryd.ntmps12
  go_wp2
  go_ret
  exact ⟨rfl, rfl⟩
set_option maxRecDepth 100000 in
theorem node_ret (W : World) (b : Nat) (h : W.heap[b]? = some (.cells zeroL 30 (0, 0))) (tmps : Array Value) (x : Value) (h4 : tmps.getD 4 undef = .pointer (some ⟨b, 0, none⟩)) (h5 : tmps.getD 5 undef = x) :
    (results Tryd.f6 tmps).run Tryd.prog W = .ok (.tuple #[nodeZ, x]) W := by
  rw [results_cell_tmp (p := 4) (u := 5) (ty := 30) Tryd.results6 tmps Tryd.prog W, h4, h5]
  have hr := run_loadVar_row W b 30 30 zeroL (0, 0) _ h Tryd.underlying30 rfl (by kernel_rfl)
  simp [asAddr, hr, nodeZ]
set_option maxRecDepth 100000 in
theorem node_nil (w : World) (id : Int) : Calls Tryd.prog 6 #[.pointer none, .int .i64 id] w fun e w' => e = .returned (.tuple #[nodeZ, .int .i64 7]) ∧ Below w.heap.size w w' := by
  have H := hide (made_nil (w.alloc (.cells zeroL 30)))
  unfold zeroL at H
  go_enter Tryd.func6, Tryd.ntmps6
  go_wp2_with (go_at_call 12; refine (unhide H).mono ?_; rintro e w' ⟨rfl, rfl⟩)
  exact bodyPost_ret (v := .tuple #[nodeZ, .int .i64 7]) (node_ret _ w.heap.size (heap_alloc_new w _) _ _ rfl rfl) rfl ⟨rfl, below_new _ _⟩
theorem results_cell {fn : Func} {p : Tmp} {ty : TypeId} (h : fn.results = #[.cell p ty]) (tmps : Array Value) (P : Program) (w : World) :
    (results fn tmps).run P w = ((asAddr (tmps.getD p undef)).run P w).andThen fun a w₁ => (loadVar ty a).run P w₁ := by
  simp only [results, h]
  simp [Sem.run_bind, Result.andThen]
theorem res_cell {f : Func} {p : Tmp} {x : Bool} (hr : f.results = #[.cell p 4]) {W : World} {b : Nat} (h : W.cell? ⟨b, 0, none⟩ = some (.bool x)) (tmps : Array Value) (hp : tmps.getD p undef = .pointer (some ⟨b, 0, none⟩)) :
    (results f tmps).run Tryd.prog W = .ok (.bool x) W := by
  rw [results_cell hr tmps Tryd.prog W, hp]
  simp [go_sem, h]
theorem heap_setCell_same (w : World) (b j : Nat) (cs : Array Value) (t : TypeId) (v : Value) (h : w.heap[b]? = some (.cells cs t (0, 0))) :
    (w.setCell ⟨b, j, none⟩ v).heap[b]? = some (.cells (cs.setIfInBounds j v) t (0, 0)) := by
  simp [World.setCell, Array.getElem?_modify, h]
set_option maxRecDepth 100000 in
theorem in_nil (w : World) : Calls Tryd.prog 5 #[.pointer none] w fun e w' => e = .returned (.bool false) ∧ Below w.heap.size w w' := by
  have HN : Hid (∀ w1, Below w.heap.size w w1 → Calls Tryd.prog 6 #[.pointer none, .int .i64 0] w1 fun e w' => e = .returned (.tuple #[nodeZ, .int .i64 7]) ∧ Below w.heap.size w w') := hide (fun w1 hb => (node_nil w1 0).mono fun _ _ ⟨a, b⟩ => ⟨a, hb.trans (b.mono hb.size)⟩)
  go_enter Tryd.func5, Tryd.ntmps5
  go_wp2_with (go_at_call 6; refine (node_nil _ 0).mono ?_; rintro e w1 ⟨rfl, hb⟩; have hq := (hb.block w.heap.size (by simp)).trans (heap_alloc_new w _); have k0 := (cell_of_row _ _ 0 _ _ _ hq).trans (show (#[Value.bool false] : Array Value)[0]? = some (.bool false) from rfl); have kf : w1.frozen? ⟨w.heap.size, 0, none⟩ = false := (by simp [World.frozen?, hq]); have klt : w.heap.size < w1.heap.size := (by have := hb.size; simp at this; omega); have HB := hide ((below_new w _).trans (hb.mono (by simp))); have HQ := hide hq; clear hb hq; unfold nodeZ zeroL)
  have hq := unhide HQ
  have hb := unhide HB
  have hq1 := heap_setCell_same _ w.heap.size 0 _ _ (.bool false) hq
  have hq2 := (Below.heap_alloc (w1.setCell ⟨w.heap.size, 0, none⟩ (.bool false)) (.cells zeroL 30) w.heap.size (by simpa using klt)).trans hq1
  unfold zeroL at hq2
  have hm := (hb.setCell (p := ⟨w.heap.size, 0, none⟩) (Nat.le_refl _) (.bool false)).alloc (by have := hb.size; simpa using this) (.cells zeroL 30)
  exact bodyPost_ret (v := .bool false) (res_cell Tryd.results5 (b := w.heap.size) (by simp [World.cell?, hq2]) _ rfl) rfl ⟨rfl, hm⟩
theorem text_nil (w : World) : Calls Tryd.prog 4 #[.pointer none] w fun e w' => e = .returned (.tuple #[.string ⟨#[]⟩, .int .i64 7]) ∧ Below w.heap.size w w' := by
  go_enter Tryd.func4, Tryd.ntmps4
  go_wp2_with (go_at_call 6; refine (node_nil _ 0).mono ?_; rintro e w1 ⟨rfl, hb⟩; have HB := hide hb; clear hb; unfold nodeZ zeroL)
  go_ret2
  exact ⟨rfl, (unhide HB).alloc (unhide HB).size _⟩
end Go.Proofs.YtmdjdoochgloaaaDoor
