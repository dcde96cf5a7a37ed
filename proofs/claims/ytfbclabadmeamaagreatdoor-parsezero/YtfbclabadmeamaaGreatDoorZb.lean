/-
  The walk of ParseZero.
-/
import Derived.Test.YtfbclabadmeamaaGreatDoorZa
namespace Go.Proofs.YtfbclabadmeamaaGreatDoor
open Go.RowKit

set_option maxRecDepth 100000 in
set_option maxHeartbeats 4000000 in
theorem parseZero_walk (w : World) (u : Value) : Calls Tryz.prog 3 #[u] w fun e w' => e = .returned (.bool true) ∧ Below w.heap.size w w' := by
  have H0 := hide (fun W => show NoP W (.pointer none) from .inl rfl)
  have HB0 := hide (below_new w (.cells #[.pointer none] 26))
  have h1 : NoP (w.alloc (.cells #[.pointer none] 26)) (.pointer (some ⟨w.heap.size, 0, none⟩)) := .inr ⟨_, rfl, (cell_of_row _ _ 0 _ 26 (0, 0) (heap_alloc_new w _)).trans rfl⟩
  have H1 := hide (fun W (hb : Below (w.alloc (.cells #[.pointer none] 26)).heap.size (w.alloc (.cells #[.pointer none] 26)) W) => h1.below hb)
  clear h1
  have hfd : ∀ w : World, (Instr.field 29 (.agg #[.int .i64 0, .int .i64 0, .slice none 0 0]) 2).run Tryz.prog w = .ok (.slice none 0 0) w := fun _ => by kernel_rfl
  go_enter Tryz.func3, Tryz.ntmps3
  go_wp2_with (first
    | (go_at_call 4; have _x := unhide HP; go_must (refine (result_zero ((unhide H1) _ (unhide HP))).mono ?_); rintro e w' ⟨rfl, hb⟩; have HB2 := hide ((unhide HP).trans (hb.mono (unhide HP).size)); clear hb)
    | (go_at_call 4; go_must (refine (result_zero ((unhide H0) _)).mono ?_); rintro e w' ⟨rfl, hb⟩; have HP0 := hide hb; have HP : Hid (Below (w.alloc (.cells #[.pointer none] 26)).heap.size (w.alloc (.cells #[.pointer none] 26)) (w'.alloc (.cells #[.int .i64 0, .int .i64 0, .slice none 0 0] 29))) := hide (hb.alloc hb.size _); have hq := heap_alloc_new w' (.cells #[.int .i64 0, .int .i64 0, .slice none 0 0] 29); have k1 := cell_of_row _ _ 1 _ _ _ hq; clear hb hq)
    | (go_at_call 5; go_must (refine (feed_zero ((unhide H0) _) _).mono ?_); rintro e w' ⟨rfl, rfl⟩)
    | (go_at_call 6; go_must (refine (end_zero ((unhide H1) _ (unhide HP))).mono ?_); rintro e w' ⟨rfl, rfl⟩)
    | (go_at_call 7; have _x := unhide MT; go_must (refine (tree_zero ((unhide H1) _ (unhide HP))).mono ?_); rintro e w' ⟨rfl, rfl⟩)
    | (go_at_call 7; go_must (refine (tree_zero ((unhide H0) _)).mono ?_); rintro e w' ⟨rfl, rfl⟩; have MT := hide True.intro)
    | (go_at_call 8; go_must (refine (over_zero ((unhide H0) _)).mono ?_); rintro e w' ⟨rfl, rfl⟩))
  go_ret
  exact ⟨rfl, (unhide HB0).trans ((unhide HB2).mono (unhide HB0).size)⟩
end Go.Proofs.YtfbclabadmeamaaGreatDoor
