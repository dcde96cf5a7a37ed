/-
  A loop that nobody made: its calls.
-/
import Derived.Test.YtohhffjkdofceaaGreatDoorProg
import Derived.WalkKit
import Derived.WalkSpells
import Derived.ArgAppend
import Derived.OwnWalk
import Derived.Laws.ResultCell
namespace Go.Proofs.YtohhffjkdofceaaGreatDoor
open Go.RowKit

theorem hide {p : Prop} (h : p) : Hid p := h
theorem unhide {p : Prop} (h : Hid p) : p := h
theorem below_new (w : World) (o : Obj) : Below w.heap.size w (w.alloc o) := (Below.refl _ w).alloc (Nat.le_refl _) _

/-- No loop: nil, or one that no call made. -/
def NoP (w : World) (v : Value) : Prop := v = .pointer none ∨ ∃ b, v = .pointer (some ⟨b, 0, none⟩) ∧ w.cell? ⟨b, 0, none⟩ = some (.pointer none)
theorem NoP.below {w w' : World} {v : Value} (h : NoP w v) (hb : Below w.heap.size w w') : NoP w' v := by
  rcases h with h | ⟨b, e, hc⟩
  · exact .inl h
  · exact .inr ⟨b, e, (hb.cell (p := ⟨b, 0, none⟩) (World.block_lt_of_cell? w _ hc)).trans hc⟩

theorem made_zero {w : World} {v : Value} (h : NoP w v) : Calls Tryz.prog 11 #[v] w fun e w' => e = .returned (.bool false) ∧ w = w' := by
  rcases h with rfl | ⟨b, rfl, hc⟩
  · go_enter Tryz.func11, Tryz.ntmps11
    go_wp2
    go_ret
    exact ⟨rfl, rfl⟩
  · go_enter Tryz.func11, Tryz.ntmps11
    go_wp2
    go_ret
    exact ⟨rfl, rfl⟩
theorem post_zero {w : World} {v : Value} (h : NoP w v) (c0 c1 c2 : Value) : Calls Tryz.prog 5 #[v, .agg #[c0, c1, c2]] w fun e w' => e = .returned (.int .i64 7) ∧ Below w.heap.size w w' := by
  have H := hide (made_zero (h.below (below_new w (.cells #[c0, c1, c2] 25))))
  clear h
  go_enter Tryz.func5, Tryz.ntmps5
  go_wp2_with (first
    | (go_at_call 11; go_must (refine (unhide H).mono ?_); rintro e w' ⟨rfl, rfl⟩))
  go_ret
  exact ⟨rfl, below_new _ _⟩
theorem tree_zero {w : World} {v : Value} (h : NoP w v) : Calls Tryz.prog 6 #[v] w fun e w' => e = .returned (.pointer none) ∧ w = w' := by
  have H := hide (made_zero h)
  clear h
  go_enter Tryz.func6, Tryz.ntmps6
  go_wp2_with (first
    | (go_at_call 11; go_must (refine (unhide H).mono ?_); rintro e w' ⟨rfl, rfl⟩))
  go_ret
  exact ⟨rfl, rfl⟩
theorem parsing_zero {w : World} {v : Value} (h : NoP w v) : Calls Tryz.prog 7 #[v] w fun e w' => e = .returned (.bool false) ∧ w = w' := by
  have H := hide (made_zero h)
  clear h
  go_enter Tryz.func7, Tryz.ntmps7
  go_wp2_with (first
    | (go_at_call 11; go_must (refine (unhide H).mono ?_); rintro e w' ⟨rfl, rfl⟩))
  go_ret
  exact ⟨rfl, rfl⟩
theorem scripts_zero {w : World} {v : Value} (h : NoP w v) : Calls Tryz.prog 8 #[v] w fun e w' => e = .returned (.int .i64 0) ∧ w = w' := by
  have H := hide (made_zero h)
  clear h
  go_enter Tryz.func8, Tryz.ntmps8
  go_wp2_with (first
    | (go_at_call 11; go_must (refine (unhide H).mono ?_); rintro e w' ⟨rfl, rfl⟩))
  go_ret
  exact ⟨rfl, rfl⟩
theorem waiting_zero {w : World} {v : Value} (h : NoP w v) : Calls Tryz.prog 9 #[v] w fun e w' => e = .returned (.int .i64 0) ∧ w = w' := by
  have H := hide (made_zero h)
  clear h
  go_enter Tryz.func9, Tryz.ntmps9
  go_wp2_with (first
    | (go_at_call 11; go_must (refine (unhide H).mono ?_); rintro e w' ⟨rfl, rfl⟩))
  go_ret
  exact ⟨rfl, rfl⟩
theorem results_cell {fn : Func} {p : Tmp} {ty : TypeId} (h : fn.results = #[.cell p ty]) (tmps : Array Value) (P : Program) (w : World) :
    (results fn tmps).run P w = ((asAddr (tmps.getD p undef)).run P w).andThen fun a w₁ => (loadVar ty a).run P w₁ := by
  simp only [results, h]
  simp [Sem.run_bind, Result.andThen]
set_option maxRecDepth 100000 in
theorem res_ret {f : Func} {p : Tmp} (hr : f.results = #[.cell p 43]) {W : World} {b : Nat} {v0 v1 v2 : Value} (h : W.heap[b]? = some (.cells #[v0, v1, v2] 43 (0, 0))) (tmps : Array Value) (hp : tmps.getD p undef = .pointer (some ⟨b, 0, none⟩)) :
    (results f tmps).run Tryz.prog W = .ok (.agg #[v0, v1, v2]) W := by
  rw [results_cell hr tmps Tryz.prog W, hp]
  have e : (asAddr (.pointer (some ⟨b, 0, none⟩))).run Tryz.prog W = .ok ⟨b, 0, none⟩ W := by simp [go_sem]
  rw [e]
  exact run_loadVar_row _ _ _ _ _ _ _ h Tryz.underlying43 rfl (by kernel_rfl)
set_option maxRecDepth 100000 in
theorem result_zero {w : World} {v : Value} (h : NoP w v) : Calls Tryz.prog 10 #[v] w fun e w' => e = .returned (.agg #[.int .i64 0, .int .i64 0, .slice none 0 0]) ∧ Below w.heap.size w w' := by
  have H := hide (made_zero (h.below (below_new w (.cells #[.int .i64 0, .int .i64 0, .slice none 0 0] 43))))
  clear h
  go_enter Tryz.func10, Tryz.ntmps10
  go_wp2_with (first
    | (go_at_call 11; go_must (refine (unhide H).mono ?_); rintro e w' ⟨rfl, rfl⟩))
  exact bodyPost_ret (res_ret Tryz.results10 (heap_alloc_new w _) _ rfl) rfl ⟨rfl, below_new _ _⟩
set_option maxRecDepth 100000 in
theorem step_ret (W : World) (b : Nat) (x0 x1 : Value) (h : W.heap[b]? = some (.cells #[x0, x1] 32 (0, 0))) (tmps : Array Value) (x : Value) (h4 : tmps.getD 4 undef = .pointer (some ⟨b, 0, none⟩)) (h5 : tmps.getD 5 undef = x) :
    (results Tryz.f4 tmps).run Tryz.prog W = .ok (.tuple #[.agg #[x0, x1], x]) W := by
  rw [results_cell_tmp (p := 4) (u := 5) (ty := 32) Tryz.results4 tmps Tryz.prog W, h4, h5]
  have hr := run_loadVar_row W b 32 32 #[x0, x1] (0, 0) _ h Tryz.underlying32 rfl (by kernel_rfl)
  simp [asAddr, hr]
set_option maxRecDepth 100000 in
theorem run_zero {w : World} {v : Value} (h : NoP w v) (n : Int) : Calls Tryz.prog 4 #[v, .int .i64 n] w fun e w' => e = .returned (.tuple #[.agg #[.int .i64 0, .slice none 0 0], .bool false]) ∧ Below w.heap.size w w' := by
  have H := hide (made_zero (h.below (below_new w (.cells #[.int .i64 0, .slice none 0 0] 32))))
  clear h
  go_enter Tryz.func4, Tryz.ntmps4
  go_wp2_with (first
    | (go_at_call 11; go_must (refine (unhide H).mono ?_); rintro e w' ⟨rfl, rfl⟩))
  exact bodyPost_ret (v := .tuple #[.agg #[.int .i64 0, .slice none 0 0], .bool false]) (step_ret _ w.heap.size _ _ (heap_alloc_new w _) _ _ rfl rfl) rfl ⟨rfl, below_new _ _⟩
end Go.Proofs.YtohhffjkdofceaaGreatDoor
