/-
  The walk of LoopZero.
-/
import Derived.Test.YtohhffjkdofceaaGreatDoorZa
namespace Go.Proofs.YtohhffjkdofceaaGreatDoor
open Go.RowKit

set_option maxRecDepth 100000 in
set_option maxHeartbeats 4000000 in
theorem loopZero_walk (w : World) (c0 c1 c2 : Value) (n : Int) : Calls Tryz.prog 3 #[.agg #[c0, c1, c2], .int .i64 n] w fun e w' => e = .returned (.bool true) ∧ Below w.heap.size w w' := by
  have hfd : ∀ w : World, (Instr.field 43 (.agg #[.int .i64 0, .int .i64 0, .slice none 0 0]) 2).run Tryz.prog w = .ok (.slice none 0 0) w := fun _ => by kernel_rfl
  have hq0 : (w.alloc (.cells #[c0, c1, c2] 25)).heap[w.heap.size]? = some (.cells #[c0, c1, c2] 25 (0, 0)) := heap_alloc_new w _
  have hsz : (w.alloc (.cells #[c0, c1, c2] 25)).heap.size = w.heap.size + 1 := by simp
  have hq1 := heap_alloc_new (w.alloc (.cells #[c0, c1, c2] 25)) (.cells #[.pointer none] 29)
  rw [hsz] at hq1
  have HB0 := hide ((below_new w (.cells #[c0, c1, c2] 25)).alloc (by simp) (.cells #[.pointer none] 29))
  have hsz1 : ((w.alloc (.cells #[c0, c1, c2] 25)).alloc (.cells #[.pointer none] 29)).heap.size = w.heap.size + 2 := by simp
  have hq2 : ((w.alloc (.cells #[c0, c1, c2] 25)).alloc (.cells #[.pointer none] 29)).heap[w.heap.size]? = some (.cells #[c0, c1, c2] 25 (0, 0)) := ((below_new (w.alloc (.cells #[c0, c1, c2] 25)) (.cells #[.pointer none] 29)).block w.heap.size (by simp)).trans hq0
  go_enter Tryz.func3, Tryz.ntmps3
  go_wp2_with (go_at_call 4; fail)
  refine (run_zero (.inl rfl) n).mono ?_
  rintro e w1 ⟨rfl, hb⟩
  have hb1 := hb.alloc hb.size (.cells #[.int .i64 0, .slice none 0 0] 32)
  clear hb
  have HB1 := hide hb1
  clear hb1
  go_wp2_with (go_at_call 4; fail)
  have hn : NoP (w1.alloc (.cells #[.int .i64 0, .slice none 0 0] 32)) (.pointer (some ⟨w.heap.size + 1, 0, none⟩)) := .inr ⟨_, rfl, (cell_of_row _ _ 0 _ 29 (0, 0) (((unhide HB1).block (w.heap.size + 1) (by omega)).trans hq1)).trans rfl⟩
  refine (run_zero hn n).mono ?_
  rintro e w2 ⟨rfl, hb⟩
  have hb2 := (unhide HB1).trans ((hb.mono (unhide HB1).size).alloc (Nat.le_trans (unhide HB1).size hb.size) (.cells #[.int .i64 0, .slice none 0 0] 32))
  clear hb hn
  have hc := (hb2.block w.heap.size (by omega)).trans hq2
  have hn : NoP (w2.alloc (.cells #[.int .i64 0, .slice none 0 0] 32)) (.pointer (some ⟨w.heap.size + 1, 0, none⟩)) := .inr ⟨_, rfl, (cell_of_row _ _ 0 _ 29 (0, 0) ((hb2.block (w.heap.size + 1) (by omega)).trans hq1)).trans rfl⟩
  have k0 := (cell_of_row _ _ 0 _ 25 (0, 0) hc).trans (show (#[c0, c1, c2] : Array Value)[0]? = some c0 from rfl)
  have k1 := (cell_of_row _ _ 1 _ 25 (0, 0) hc).trans (show (#[c0, c1, c2] : Array Value)[1]? = some c1 from rfl)
  have k2 := (cell_of_row _ _ 2 _ 25 (0, 0) hc).trans (show (#[c0, c1, c2] : Array Value)[2]? = some c2 from rfl)
  have hs2 : w.heap.size + 2 ≤ (w2.alloc (.cells #[.int .i64 0, .slice none 0 0] 32)).heap.size := hsz1 ▸ hb2.size
  have HN : Hid (∀ W, Below (w2.alloc (.cells #[.int .i64 0, .slice none 0 0] 32)).heap.size (w2.alloc (.cells #[.int .i64 0, .slice none 0 0] 32)) W → NoP W (.pointer (some ⟨w.heap.size + 1, 0, none⟩))) := hide fun W hb => hn.below hb
  have HB2 := hide hb2
  have HC : Hid (∀ W, Below (w2.alloc (.cells #[.int .i64 0, .slice none 0 0] 32)).heap.size (w2.alloc (.cells #[.int .i64 0, .slice none 0 0] 32)) W → W.heap[w.heap.size]? = some (.cells #[c0, c1, c2] 25 (0, 0))) := hide fun W hb => (hb.block w.heap.size (by omega)).trans hc
  clear hn hb2 hc hq0 hq1 hq2
  have HS := hide hs2
  clear hs2
  go_wp2_with (go_at_call 5; fail)
  refine (post_zero (.inl rfl) c0 c1 c2).mono ?_
  rintro e w3 ⟨rfl, hb⟩
  clear k0 k1 k2
  have hc := unhide HC _ hb
  have k0 := (cell_of_row _ _ 0 _ 25 (0, 0) hc).trans (show (#[c0, c1, c2] : Array Value)[0]? = some c0 from rfl)
  have k1 := (cell_of_row _ _ 1 _ 25 (0, 0) hc).trans (show (#[c0, c1, c2] : Array Value)[1]? = some c1 from rfl)
  have k2 := (cell_of_row _ _ 2 _ 25 (0, 0) hc).trans (show (#[c0, c1, c2] : Array Value)[2]? = some c2 from rfl)
  have HB3 := hide hb
  clear hb hc
  go_wp2_with (go_at_call 5; fail)
  refine (post_zero (unhide HN _ (unhide HB3)) c0 c1 c2).mono ?_
  rintro e w4 ⟨rfl, hb⟩
  clear k0 k1 k2
  have HB4 := hide ((unhide HB3).trans (hb.mono (unhide HB3).size))
  clear hb
  go_wp2_with (go_at_call 6; fail)
  refine (tree_zero (.inl rfl)).mono ?_
  rintro e w' ⟨rfl, rfl⟩
  go_wp2_with (go_at_call 6; fail)
  refine (tree_zero (unhide HN _ (unhide HB4))).mono ?_
  rintro e w' ⟨rfl, rfl⟩
  go_wp2_with (go_at_call 7; fail)
  refine (parsing_zero (.inl rfl)).mono ?_
  rintro e w' ⟨rfl, rfl⟩
  go_wp2_with (go_at_call 8; fail)
  refine (scripts_zero (unhide HN _ (unhide HB4))).mono ?_
  rintro e w' ⟨rfl, rfl⟩
  go_wp2_with (go_at_call 9; fail)
  refine (waiting_zero (.inl rfl)).mono ?_
  rintro e w' ⟨rfl, rfl⟩
  go_wp2_with (go_at_call 10; fail)
  refine (result_zero (unhide HN _ (unhide HB4))).mono ?_
  rintro e w5 ⟨rfl, hb⟩
  have HB5 := hide ((unhide HB4).trans (hb.mono (unhide HB4).size))
  clear hb
  go_wp2
  go_ret
  have h2 := (unhide HB0).trans ((unhide HB2).mono (by omega))
  exact ⟨rfl, h2.trans ((unhide HB5).mono (h2.size))⟩
end Go.Proofs.YtohhffjkdofceaaGreatDoor
