/-
  The walk of LexerZero.
-/
import Derived.Test.YtjdfbnndkhfjnaaZa
namespace Go.Proofs.Ytjdfbnndkhfjnaa
open Go.RowKit

def zeroCells : Array Value := #[.map none, .int .i64 0, .int .i64 0, .int .i64 0, .int .i32 0, .slice none 0 0, .int .i64 0, .string ByteArray.empty, .bool false, .bool false, .slice none 0 0, .bool false, .slice none 0 0, .map none, .slice none 0 0, .slice none 0 0, .bool false, .slice none 0 0, .slice none 0 0, .slice none 0 0, .slice none 0 0, .int .i64 0, .bool false, .nilFunc, .slice none 0 0, .slice none 0 0]

set_option maxHeartbeats 2000000 in
theorem lexerZero_walk (w : World) (r : Int) (s : ByteArray) : Calls Try.prog 3 #[.int .i32 r, .string s] w fun e w' => e = .returned (.bool true) ∧ Below w.heap.size w w' := by
  have H0 : Hid (NoLex (w.alloc (.cells zeroCells 38)) (.pointer none)) := hide (.inl rfl)
  have H1 : Hid (NoLex (w.alloc (.cells zeroCells 38)) (.pointer (some ⟨w.heap.size, 0, none⟩))) := hide (.inr ⟨_, rfl, (cell_of_row _ _ 0 _ 38 (0, 0) (heap_alloc_new w _)).trans rfl⟩)
  unfold zeroCells at H0 H1
  go_enter Try.func3, Try.ntmps3
  go_wp2_with (first
    | (go_at_call 4; have _x := unhide HP; go_must (refine (put_zero (unhide H1) _).mono ?_); rintro e w' ⟨rfl, rfl⟩)
    | (go_at_call 4; go_must (refine (put_zero (unhide H0) _).mono ?_); rintro e w' ⟨rfl, rfl⟩; have HP := hide True.intro)
    | (go_at_call 5; go_must (refine (tokens_zero (unhide H0)).mono ?_); rintro e w' ⟨rfl, rfl⟩)
    | (go_at_call 6; go_must (refine (errors_zero (unhide H1)).mono ?_); rintro e w' ⟨rfl, rfl⟩)
    | (go_at_call 7; go_must (refine (set_zero (unhide H0) _).mono ?_); rintro e w' ⟨rfl, rfl⟩)
    | (go_at_call 8; go_must (refine (name_zero (unhide H1) _).mono ?_); rintro e w' ⟨rfl, rfl⟩)
    | (go_at_call 9; go_must (refine (sections_zero (unhide H0) _).mono ?_); rintro e w' ⟨rfl, rfl⟩)
    | (go_at_call 10; go_must (refine (text_zero (unhide H1)).mono ?_); rintro e w' ⟨rfl, rfl⟩))
  go_ret
  exact ⟨rfl, (Below.refl _ w).alloc (Nat.le_refl _) _⟩
end Go.Proofs.Ytjdfbnndkhfjnaa
