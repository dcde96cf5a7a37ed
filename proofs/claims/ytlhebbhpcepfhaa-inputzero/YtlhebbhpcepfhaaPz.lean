/-
  A stream that nobody made: the walk of InputZero.
-/
import Derived.Test.YtlhebbhpcepfhaaPa
import Derived.OwnWalk
namespace Go.Proofs.Ytlhebbhpcepfhaa
open Go.RowKit

/-- No stream: nil, or one that no call made. -/
def NoStr (w : World) (v : Value) : Prop := v = .pointer none ∨ ∃ b, v = .pointer (some ⟨b, 0, none⟩) ∧ w.cell? ⟨b, 0, none⟩ = some (.slice none 0 0)

theorem made_zero {w : World} {v : Value} (h : NoStr w v) : Calls Try.prog 35 #[v] w fun e w' => e = .returned (.bool false) ∧ w = w' := by
  rcases h with rfl | ⟨b, rfl, hc⟩
  · go_enter Try.func35, Try.ntmps35
    go_wp2
    go_ret
    exact ⟨rfl, rfl⟩
  · go_enter Try.func35, Try.ntmps35
    go_wp2
    go_ret
    exact ⟨rfl, rfl⟩
theorem peek_zero {w : World} {v : Value} (h : NoStr w v) : Calls Try.prog 24 #[v] w fun e w' => e = .returned (.tuple #[.int .i32 0, .bool false]) ∧ w = w' := by
  have H := hide (made_zero h)
  clear h
  go_enter Try.func24, Try.ntmps24
  go_wp2_with (first
    | (go_at_call 35; go_must (refine (unhide H).mono ?_); rintro e w' ⟨rfl, rfl⟩))
  go_ret2
  exact ⟨rfl, rfl⟩
theorem next_zero {w : World} {v : Value} (h : NoStr w v) : Calls Try.prog 22 #[v] w fun e w' => e = .returned (.tuple #[.int .i32 0, .bool false]) ∧ w = w' := by
  have H := hide (made_zero h)
  have H24 := hide (peek_zero h)
  clear h
  go_enter Try.func22, Try.ntmps22
  go_wp2_with (first
    | (go_at_call 35; go_must (refine (unhide H).mono ?_); rintro e w' ⟨rfl, rfl⟩) | (go_at_call 24; go_must (refine (unhide H24).mono ?_); rintro e w' ⟨rfl, rfl⟩))
  go_ret2
  exact ⟨rfl, rfl⟩
theorem feed_zero {w : World} {v : Value} (h : NoStr w v) (u : Value) : Calls Try.prog 16 #[v, u] w fun e w' => e = .returned (.int .i64 7) ∧ w = w' := by
  have H := hide (made_zero h)
  clear h
  go_enter Try.func16, Try.ntmps16
  go_wp2_with (first
    | (go_at_call 35; go_must (refine (unhide H).mono ?_); rintro e w' ⟨rfl, rfl⟩))
  go_ret
  exact ⟨rfl, rfl⟩
theorem end_zero {w : World} {v : Value} (h : NoStr w v) : Calls Try.prog 17 #[v] w fun e w' => e = .returned (.int .i64 7) ∧ w = w' := by
  have H := hide (made_zero h)
  clear h
  go_enter Try.func17, Try.ntmps17
  go_wp2_with (first
    | (go_at_call 35; go_must (refine (unhide H).mono ?_); rintro e w' ⟨rfl, rfl⟩))
  go_ret
  exact ⟨rfl, rfl⟩
theorem mark_zero {w : World} {v : Value} (h : NoStr w v) : Calls Try.prog 20 #[v] w fun e w' => e = .returned (.int .i64 7) ∧ w = w' := by
  have H := hide (made_zero h)
  clear h
  go_enter Try.func20, Try.ntmps20
  go_wp2_with (first
    | (go_at_call 35; go_must (refine (unhide H).mono ?_); rintro e w' ⟨rfl, rfl⟩))
  go_ret
  exact ⟨rfl, rfl⟩
theorem unmark_zero {w : World} {v : Value} (h : NoStr w v) : Calls Try.prog 23 #[v] w fun e w' => e = .returned (.int .i64 7) ∧ w = w' := by
  have H := hide (made_zero h)
  clear h
  go_enter Try.func23, Try.ntmps23
  go_wp2_with (first
    | (go_at_call 35; go_must (refine (unhide H).mono ?_); rintro e w' ⟨rfl, rfl⟩))
  go_ret
  exact ⟨rfl, rfl⟩
theorem write_zero {w : World} {v : Value} (h : NoStr w v) (u : Value) : Calls Try.prog 21 #[v, u] w fun e w' => e = .returned (.int .i64 7) ∧ w = w' := by
  have H := hide (made_zero h)
  clear h
  go_enter Try.func21, Try.ntmps21
  go_wp2_with (first
    | (go_at_call 35; go_must (refine (unhide H).mono ?_); rintro e w' ⟨rfl, rfl⟩))
  go_ret
  exact ⟨rfl, rfl⟩
theorem drop_zero {w : World} {v : Value} (h : NoStr w v) : Calls Try.prog 25 #[v] w fun e w' => e = .returned (.int .i64 7) ∧ w = w' := by
  have H := hide (made_zero h)
  clear h
  go_enter Try.func25, Try.ntmps25
  go_wp2_with (first
    | (go_at_call 35; go_must (refine (unhide H).mono ?_); rintro e w' ⟨rfl, rfl⟩))
  go_ret
  exact ⟨rfl, rfl⟩
theorem len_zero {w : World} {v : Value} (h : NoStr w v) : Calls Try.prog 12 #[v] w fun e w' => e = .returned (.int .i64 0) ∧ w = w' := by
  have H := hide (made_zero h)
  clear h
  go_enter Try.func12, Try.ntmps12
  go_wp2_with (first
    | (go_at_call 35; go_must (refine (unhide H).mono ?_); rintro e w' ⟨rfl, rfl⟩))
  go_ret
  exact ⟨rfl, rfl⟩
theorem marks_zero {w : World} {v : Value} (h : NoStr w v) : Calls Try.prog 13 #[v] w fun e w' => e = .returned (.int .i64 0) ∧ w = w' := by
  have H := hide (made_zero h)
  clear h
  go_enter Try.func13, Try.ntmps13
  go_wp2_with (first
    | (go_at_call 35; go_must (refine (unhide H).mono ?_); rintro e w' ⟨rfl, rfl⟩))
  go_ret
  exact ⟨rfl, rfl⟩

set_option maxHeartbeats 2000000 in
theorem inputZero_walk (w : World) (u : Value) : Calls Try.prog 7 #[u] w fun e w' => e = .returned (.bool true) ∧ Below w.heap.size w w' := by
  have H0 : Hid (NoStr (w.alloc (.cells #[.slice none 0 0, .nilFunc, .bool false, .bool false] 52)) (.pointer none)) := hide (.inl rfl)
  have H1 : Hid (NoStr (w.alloc (.cells #[.slice none 0 0, .nilFunc, .bool false, .bool false] 52)) (.pointer (some ⟨w.heap.size, 0, none⟩))) := hide (.inr ⟨_, rfl, (cell_of_row _ _ 0 _ 52 (0, 0) (heap_alloc_new w _)).trans rfl⟩)
  go_enter Try.func7, Try.ntmps7
  go_wp2_with (first
    | (go_at_call 22; go_must (refine (next_zero (unhide H0)).mono ?_); rintro e w' ⟨rfl, rfl⟩)
    | (go_at_call 24; go_must (refine (peek_zero (unhide H1)).mono ?_); rintro e w' ⟨rfl, rfl⟩)
    | (go_at_call 16; go_must (refine (feed_zero (unhide H0) _).mono ?_); rintro e w' ⟨rfl, rfl⟩)
    | (go_at_call 17; go_must (refine (end_zero (unhide H1)).mono ?_); rintro e w' ⟨rfl, rfl⟩)
    | (go_at_call 20; go_must (refine (mark_zero (unhide H0)).mono ?_); rintro e w' ⟨rfl, rfl⟩)
    | (go_at_call 23; go_must (refine (unmark_zero (unhide H1)).mono ?_); rintro e w' ⟨rfl, rfl⟩)
    | (go_at_call 21; go_must (refine (write_zero (unhide H0) _).mono ?_); rintro e w' ⟨rfl, rfl⟩)
    | (go_at_call 25; go_must (refine (drop_zero (unhide H1)).mono ?_); rintro e w' ⟨rfl, rfl⟩)
    | (go_at_call 12; go_must (refine (len_zero (unhide H0)).mono ?_); rintro e w' ⟨rfl, rfl⟩)
    | (go_at_call 13; go_must (refine (marks_zero (unhide H1)).mono ?_); rintro e w' ⟨rfl, rfl⟩))
  go_ret
  exact ⟨rfl, (Below.refl _ w).alloc (Nat.le_refl _) _⟩
end Go.Proofs.Ytlhebbhpcepfhaa
