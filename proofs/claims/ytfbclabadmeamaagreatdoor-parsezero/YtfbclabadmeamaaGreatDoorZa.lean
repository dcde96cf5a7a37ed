/-
  A parser that nobody made: the walk of ParseZero.
-/
import Derived.Test.YtfbclabadmeamaaGreatDoorProg
import Derived.WalkKit
import Derived.WalkSpells
import Derived.ArgAppend
import Derived.OwnWalk
namespace Go.Proofs.YtfbclabadmeamaaGreatDoor
open Go.RowKit

theorem hide {p : Prop} (h : p) : Hid p := h
theorem unhide {p : Prop} (h : Hid p) : p := h
theorem below_new (w : World) (o : Obj) : Below w.heap.size w (w.alloc o) := (Below.refl _ w).alloc (Nat.le_refl _) _

/-- No parser: nil, or one that no call made. -/
def NoP (w : World) (v : Value) : Prop := v = .pointer none ∨ ∃ b, v = .pointer (some ⟨b, 0, none⟩) ∧ w.cell? ⟨b, 0, none⟩ = some (.pointer none)
theorem NoP.below {w w' : World} {v : Value} (h : NoP w v) (hb : Below w.heap.size w w') : NoP w' v := by
  rcases h with h | ⟨b, e, hc⟩
  · exact .inl h
  · exact .inr ⟨b, e, (hb.cell (p := ⟨b, 0, none⟩) (World.block_lt_of_cell? w _ hc)).trans hc⟩

theorem made_zero {w : World} {v : Value} (h : NoP w v) : Calls Tryz.prog 9 #[v] w fun e w' => e = .returned (.bool false) ∧ w = w' := by
  rcases h with rfl | ⟨b, rfl, hc⟩
  · go_enter Tryz.func9, Tryz.ntmps9
    go_wp2
    go_ret
    exact ⟨rfl, rfl⟩
  · go_enter Tryz.func9, Tryz.ntmps9
    go_wp2
    go_ret
    exact ⟨rfl, rfl⟩
theorem feed_zero {w : World} {v : Value} (h : NoP w v) (u : Value) : Calls Tryz.prog 5 #[v, u] w fun e w' => e = .returned (.int .i64 7) ∧ w = w' := by
  have H := hide (made_zero h)
  clear h
  go_enter Tryz.func5, Tryz.ntmps5
  go_wp2_with (first
    | (go_at_call 9; go_must (refine (unhide H).mono ?_); rintro e w' ⟨rfl, rfl⟩))
  go_ret
  exact ⟨rfl, rfl⟩
theorem end_zero {w : World} {v : Value} (h : NoP w v) : Calls Tryz.prog 6 #[v] w fun e w' => e = .returned (.int .i64 7) ∧ w = w' := by
  have H := hide (made_zero h)
  clear h
  go_enter Tryz.func6, Tryz.ntmps6
  go_wp2_with (first
    | (go_at_call 9; go_must (refine (unhide H).mono ?_); rintro e w' ⟨rfl, rfl⟩))
  go_ret
  exact ⟨rfl, rfl⟩
theorem tree_zero {w : World} {v : Value} (h : NoP w v) : Calls Tryz.prog 7 #[v] w fun e w' => e = .returned (.pointer none) ∧ w = w' := by
  have H := hide (made_zero h)
  clear h
  go_enter Tryz.func7, Tryz.ntmps7
  go_wp2_with (first
    | (go_at_call 9; go_must (refine (unhide H).mono ?_); rintro e w' ⟨rfl, rfl⟩))
  go_ret
  exact ⟨rfl, rfl⟩
theorem over_zero {w : World} {v : Value} (h : NoP w v) : Calls Tryz.prog 8 #[v] w fun e w' => e = .returned (.bool false) ∧ w = w' := by
  have H := hide (made_zero h)
  clear h
  go_enter Tryz.func8, Tryz.ntmps8
  go_wp2_with (first
    | (go_at_call 9; go_must (refine (unhide H).mono ?_); rintro e w' ⟨rfl, rfl⟩))
  go_ret
  exact ⟨rfl, rfl⟩
theorem results_cell {fn : Func} {p : Tmp} {ty : TypeId} (h : fn.results = #[.cell p ty]) (tmps : Array Value) (P : Program) (w : World) :
    (results fn tmps).run P w = ((asAddr (tmps.getD p undef)).run P w).andThen fun a w₁ => (loadVar ty a).run P w₁ := by
  simp only [results, h]
  simp [Sem.run_bind, Result.andThen]
set_option maxRecDepth 100000 in
theorem res_ret {f : Func} {p : Tmp} (hr : f.results = #[.cell p 29]) {W : World} {b : Nat} {v0 v1 v2 : Value} (h : W.heap[b]? = some (.cells #[v0, v1, v2] 29 (0, 0))) (tmps : Array Value) (hp : tmps.getD p undef = .pointer (some ⟨b, 0, none⟩)) :
    (results f tmps).run Tryz.prog W = .ok (.agg #[v0, v1, v2]) W := by
  rw [results_cell hr tmps Tryz.prog W, hp]
  have e : (asAddr (.pointer (some ⟨b, 0, none⟩))).run Tryz.prog W = .ok ⟨b, 0, none⟩ W := by simp [go_sem]
  rw [e]
  exact run_loadVar_row _ _ _ _ _ _ _ h Tryz.underlying29 rfl (by kernel_rfl)
set_option maxRecDepth 100000 in
theorem result_zero {w : World} {v : Value} (h : NoP w v) : Calls Tryz.prog 4 #[v] w fun e w' => e = .returned (.agg #[.int .i64 0, .int .i64 0, .slice none 0 0]) ∧ Below w.heap.size w w' := by
  have H := hide (made_zero (h.below (below_new w (.cells #[.int .i64 0, .int .i64 0, .slice none 0 0] 29))))
  clear h
  go_enter Tryz.func4, Tryz.ntmps4
  go_wp2_with (first
    | (go_at_call 9; go_must (refine (unhide H).mono ?_); rintro e w' ⟨rfl, rfl⟩))
  exact bodyPost_ret (res_ret Tryz.results4 (heap_alloc_new w _) _ rfl) rfl ⟨rfl, below_new _ _⟩
end Go.Proofs.YtfbclabadmeamaaGreatDoor
