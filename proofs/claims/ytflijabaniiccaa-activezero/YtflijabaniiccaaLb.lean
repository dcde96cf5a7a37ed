/-
  ActiveZero's walk.
-/
import Derived.Test.YtflijabaniiccaaLa
namespace Go.Proofs.Ytflijabaniiccaa
open Go.RowKit

theorem first_two (w : World) (a b : Value) (t : TypeId) (w1 : World) (hb : Below (w.alloc (.cells #[a, b] t)).heap.size (w.alloc (.cells #[a, b] t)) w1) : w1.cell? ⟨w.heap.size, 1, none⟩ = some b := by
  have h := hb.block w.heap.size (by simp)
  rw [heap_alloc_new] at h
  simp [World.cell?, h]

set_option maxHeartbeats 4000000 in
theorem lzero_walk (id : Int) (name : ByteArray) (w : World) : Calls Try.prog 6 #[.int .i64 id, .string name] w fun e w' => e = .returned (.bool true) ∧ Below w.heap.size w w' := by
  have hd : ∀ w1, Below (w.alloc (.cells #[.pointer none, .pointer none] 80)).heap.size (w.alloc (.cells #[.pointer none, .pointer none] 80)) w1 → DeadL w1 (.pointer (some ⟨w.heap.size, 0, none⟩)) := fun w1 hb => .inr ⟨w.heap.size, rfl, first_two w _ _ _ _ hb⟩
  have hn : ∀ w1, DeadL w1 (.pointer none) := fun w1 => .inl rfl
  have HB0 := hide (Below.refl (w.alloc (.cells #[.pointer none, .pointer none] 80)).heap.size (w.alloc (.cells #[.pointer none, .pointer none] 80)))
  have HD := hide hd
  have HN := hide hn
  clear hd hn
  go_enter Try.func6, Try.ntmps6
  go_wp2_with (first | (go_at_call 17; refine (newnil_any _).mono ?_; rintro e x ⟨rfl, rfl⟩) | (go_at_call 23; refine (at_d ((unhide HN) _) id).mono ?_; rintro e x1 ⟨rfl, hb⟩; have HB1 := hide (show Below (w.alloc (.cells #[.pointer none, .pointer none] 80)).heap.size (w.alloc (.cells #[.pointer none, .pointer none] 80)) (x1.alloc (.cells #[.int .i64 0, .int .i64 0, .string ⟨#[]⟩, .string ⟨#[]⟩, .string ⟨#[]⟩, .int .i64 0, .bool false, .int .i32 0, .bool false, .slice none 0 0] 60)) from hb.alloc hb.size _); clear hb) | (go_at_call 30; refine (push_d ((unhide HN) _) id _ _ _ _ _ _ _ _ _ _ _).mono ?_; rintro e x2 ⟨rfl, hb⟩; have HB2 := hide (show Below (w.alloc (.cells #[.pointer none, .pointer none] 80)).heap.size (w.alloc (.cells #[.pointer none, .pointer none] 80)) x2 from (unhide HB1).trans (hb.mono (by exact (unhide HB1).size))); clear hb) | (go_at_call 29; refine (mark_d ((unhide HD) _ (unhide HB2)) ).mono ?_; rintro e x ⟨rfl, rfl⟩) | (go_at_call 32; refine (clear_d ((unhide HN) _) ).mono ?_; rintro e x ⟨rfl, rfl⟩) | (go_at_call 21; refine (find_d ((unhide HD) _ (unhide HB2)) id).mono ?_; rintro e x3 ⟨rfl, hb⟩; have HB3 := hide (show Below (w.alloc (.cells #[.pointer none, .pointer none] 80)).heap.size (w.alloc (.cells #[.pointer none, .pointer none] 80)) x3 from (unhide HB2).trans (hb.mono (by exact (unhide HB2).size))); clear hb) | (go_at_call 31; refine (last_d ((unhide HN) _) name).mono ?_; rintro e x4 ⟨rfl, hb⟩; have HB4 := hide (show Below (w.alloc (.cells #[.pointer none, .pointer none] 80)).heap.size (w.alloc (.cells #[.pointer none, .pointer none] 80)) x4 from (unhide HB3).trans (hb.mono (by exact (unhide HB3).size))); clear hb) | (go_at_call 33; refine (remove_d ((unhide HD) _ (unhide HB4)) id).mono ?_; rintro e x ⟨rfl, rfl⟩) | (go_at_call 34; refine (put_d ((unhide HN) _) id id _ _ _ _ _ _ _ _ _ _ _).mono ?_; rintro e x5 ⟨rfl, hb⟩; have HB5 := hide (show Below (w.alloc (.cells #[.pointer none, .pointer none] 80)).heap.size (w.alloc (.cells #[.pointer none, .pointer none] 80)) x5 from (unhide HB4).trans (hb.mono (by exact (unhide HB4).size))); clear hb) | (go_at_call 35; refine (swap_d ((unhide HD) _ (unhide HB5)) id id).mono ?_; rintro e x6 ⟨rfl, hb⟩; have HB6 := hide (show Below (w.alloc (.cells #[.pointer none, .pointer none] 80)).heap.size (w.alloc (.cells #[.pointer none, .pointer none] 80)) x6 from (unhide HB5).trans (hb.mono (by exact (unhide HB5).size))); clear hb) | (go_at_call 20; refine (len_d ((unhide HN) _) ).mono ?_; rintro e x ⟨rfl, rfl⟩))
  go_ret
  exact ⟨rfl, below_box (unhide HB6)⟩
end Go.Proofs.Ytflijabaniiccaa
