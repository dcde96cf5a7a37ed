/-
  WriteZero: of no arena nothing is written.
-/
import Derived.Test.YtfcagiacjpcpeaaEb
namespace Go.Proofs.Ytfcagiacjpcpeaa
open Go.RowKit Go.Lib

theorem nodeN_ret (W : World) (b : Nat) (h : W.heap[b]? = some (.cells #[.int .i64 0, .int .i64 0, .string ⟨#[]⟩, .slice none 0 0, .string ⟨#[]⟩, .string ⟨#[]⟩, .int .i64 0, .int .i64 0, .int .i64 0, .int .i64 0, .int .i64 0, .int .i64 0] 60 (0, 0))) (tmps : Array Value) (x : Value) (h4 : tmps.getD 4 undef = .pointer (some ⟨b, 0, none⟩)) (h5 : tmps.getD 5 undef = x) :
    (results Try.f34 tmps).run Try.prog W = .ok (.tuple #[.agg #[.int .i64 0, .int .i64 0, .string ⟨#[]⟩, .slice none 0 0, .string ⟨#[]⟩, .string ⟨#[]⟩, .int .i64 0, .int .i64 0, .int .i64 0, .int .i64 0, .int .i64 0, .int .i64 0], x]) W := by
  have c : ∀ j, W.cell? ⟨b, j, none⟩ = (#[.int .i64 0, .int .i64 0, .string ⟨#[]⟩, .slice none 0 0, .string ⟨#[]⟩, .string ⟨#[]⟩, .int .i64 0, .int .i64 0, .int .i64 0, .int .i64 0, .int .i64 0, .int .i64 0] : Array Value)[j]? := fun j => cell_row W b j _ _ _ h
  have c0 := c 0
  have c1 := c 1
  have c2 := c 2
  have c3 := c 3
  have c4 := c 4
  have c5 := c 5
  have c6 := c 6
  have c7 := c 7
  have c8 := c 8
  have c9 := c 9
  have c10 := c 10
  have c11 := c 11
  clear c
  simp at c0 c1 c2 c3 c4 c5 c6 c7 c8 c9 c10 c11
  rw [results_cell_tmp (p := 4) (u := 5) (ty := 60) Try.results34 tmps Try.prog W, h4, h5]
  simp [go_sem, c0, c1, c2, c3, c4, c5, c6, c7, c8, c9, c10, c11]
theorem madeN (w : World) : Calls Try.prog 42 #[.pointer none] w fun e w' => e = .returned (.bool false) ∧ w' = w := by
  go_enter Try.func42, Try.ntmps42
  go_wp2
  go_ret
  exact ⟨rfl, rfl⟩
set_option maxHeartbeats 1000000 in
theorem nodeN (id : Int) (w : World) : Calls Try.prog 34 #[.pointer none, .int .i64 id] w fun e w' => e = .returned (.tuple #[.agg #[.int .i64 0, .int .i64 0, .string ⟨#[]⟩, .slice none 0 0, .string ⟨#[]⟩, .string ⟨#[]⟩, .int .i64 0, .int .i64 0, .int .i64 0, .int .i64 0, .int .i64 0, .int .i64 0], .int .i64 7]) ∧ Below w.heap.size w w' := by
  have HB := hide (below_new w (.cells #[.int .i64 0, .int .i64 0, .string ⟨#[]⟩, .slice none 0 0, .string ⟨#[]⟩, .string ⟨#[]⟩, .int .i64 0, .int .i64 0, .int .i64 0, .int .i64 0, .int .i64 0, .int .i64 0] 60))
  go_enter Try.func34, Try.ntmps34
  go_wp2_with (go_at_call 42; refine (madeN _).mono ?_; rintro e w' ⟨rfl, rfl⟩)
  exact bodyPost_ret (nodeN_ret _ w.heap.size (heap_alloc_new w _) _ _ rfl rfl) rfl ⟨rfl, unhide HB⟩
set_option maxHeartbeats 1000000 in
theorem innerN (id : Int) (sc : Bool) (w : World) : Calls Try.prog 10 #[.pointer none, .int .i64 id, .bool sc] w fun e w' => e = .returned (.tuple #[.string ⟨#[]⟩, .int .i64 7]) ∧ Below w.heap.size w w' := by
  have HN := hide (fun W => nodeN id W)
  go_enter Try.func10, Try.ntmps10
  go_wp2_with (go_at_call 34; refine (unhide HN _).mono ?_; rintro e w1 ⟨rfl, hb1⟩; have HB1 := hide hb1; clear hb1)
  go_ret2
  exact ⟨rfl, (unhide HB1).alloc (unhide HB1).size _⟩
set_option maxHeartbeats 1000000 in
theorem zero_walk (id : Int) (w : World) : Calls Try.prog 7 #[.int .i64 id] w fun e w' => e = .returned (.bool true) ∧ Below w.heap.size w w' := by
  have HN := hide (fun W => innerN id true W)
  go_enter Try.func7, Try.ntmps7
  go_wp2_with (go_at_call 10; refine (unhide HN _).mono ?_; rintro e w1 ⟨rfl, hb1⟩; have HB1 := hide hb1; clear hb1)
  go_ret
  exact ⟨rfl, unhide HB1⟩
end Go.Proofs.Ytfcagiacjpcpeaa
