/-
  A lexer that nobody made: the walk of LexerZero.
-/
import Derived.Test.YtjdfbnndkhfjnaaProg
import Derived.WalkKit
import Derived.WalkSpells
import Derived.ArgAppend
import Derived.OwnWalk
namespace Go.Proofs.Ytjdfbnndkhfjnaa
open Go.RowKit

theorem hide {p : Prop} (h : p) : Hid p := h
theorem unhide {p : Prop} (h : Hid p) : p := h

/-- No lexer: nil, or one that no call made. -/
def NoLex (w : World) (v : Value) : Prop := v = .pointer none ∨ ∃ b, v = .pointer (some ⟨b, 0, none⟩) ∧ w.cell? ⟨b, 0, none⟩ = some (.map none)

theorem made_zero {w : World} {v : Value} (h : NoLex w v) : Calls Try.prog 11 #[v] w fun e w' => e = .returned (.bool false) ∧ w = w' := by
  have q23 : ∀ (w : World) (r : Option Nat), (binOp .neq 23 (.map r) (.map none)).run Try.prog w = .ok (.bool (!r.isNone)) w := fun w r => run_neq_map_nil w 23 3 54 r (by kernel_rfl)
  rcases h with rfl | ⟨b, rfl, hc⟩
  · go_enter Try.func11, Try.ntmps11
    go_wp2
    go_ret
    exact ⟨rfl, rfl⟩
  · go_enter Try.func11, Try.ntmps11
    go_wp2
    go_ret
    exact ⟨rfl, rfl⟩
theorem put_zero {w : World} {v : Value} (h : NoLex w v) (r : Int) : Calls Try.prog 4 #[v, .int .i32 r] w fun e w' => e = .returned (.int .i64 7) ∧ w = w' := by
  have H := hide (made_zero h)
  clear h
  go_enter Try.func4, Try.ntmps4
  go_wp2_with (first
    | (go_at_call 11; go_must (refine (unhide H).mono ?_); rintro e w' ⟨rfl, rfl⟩))
  go_ret
  exact ⟨rfl, rfl⟩
theorem tokens_zero {w : World} {v : Value} (h : NoLex w v) : Calls Try.prog 5 #[v] w fun e w' => e = .returned (.slice none 0 0) ∧ w = w' := by
  have H := hide (made_zero h)
  clear h
  go_enter Try.func5, Try.ntmps5
  go_wp2_with (first
    | (go_at_call 11; go_must (refine (unhide H).mono ?_); rintro e w' ⟨rfl, rfl⟩))
  go_ret
  exact ⟨rfl, rfl⟩
theorem errors_zero {w : World} {v : Value} (h : NoLex w v) : Calls Try.prog 6 #[v] w fun e w' => e = .returned (.slice none 0 0) ∧ w = w' := by
  have H := hide (made_zero h)
  clear h
  go_enter Try.func6, Try.ntmps6
  go_wp2_with (first
    | (go_at_call 11; go_must (refine (unhide H).mono ?_); rintro e w' ⟨rfl, rfl⟩))
  go_ret
  exact ⟨rfl, rfl⟩
theorem set_zero {w : World} {v : Value} (h : NoLex w v) (n : Int) : Calls Try.prog 7 #[v, .int .i64 n] w fun e w' => e = .returned (.int .i64 7) ∧ w = w' := by
  have H := hide (made_zero h)
  clear h
  go_enter Try.func7, Try.ntmps7
  go_wp2_with (first
    | (go_at_call 11; go_must (refine (unhide H).mono ?_); rintro e w' ⟨rfl, rfl⟩))
  go_ret
  exact ⟨rfl, rfl⟩
theorem name_zero {w : World} {v : Value} (h : NoLex w v) (s : ByteArray) : Calls Try.prog 8 #[v, .string s] w fun e w' => e = .returned (.int .i64 7) ∧ w = w' := by
  have H := hide (made_zero h)
  clear h
  go_enter Try.func8, Try.ntmps8
  go_wp2_with (first
    | (go_at_call 11; go_must (refine (unhide H).mono ?_); rintro e w' ⟨rfl, rfl⟩))
  go_ret
  exact ⟨rfl, rfl⟩
theorem sections_zero {w : World} {v : Value} (h : NoLex w v) (s : Bool) : Calls Try.prog 9 #[v, .bool s] w fun e w' => e = .returned (.int .i64 7) ∧ w = w' := by
  have H := hide (made_zero h)
  clear h
  go_enter Try.func9, Try.ntmps9
  go_wp2_with (first
    | (go_at_call 11; go_must (refine (unhide H).mono ?_); rintro e w' ⟨rfl, rfl⟩))
  go_ret
  exact ⟨rfl, rfl⟩
theorem text_zero {w : World} {v : Value} (h : NoLex w v) : Calls Try.prog 10 #[v] w fun e w' => e = .returned (.bool false) ∧ w = w' := by
  have H := hide (made_zero h)
  clear h
  go_enter Try.func10, Try.ntmps10
  go_wp2_with (first
    | (go_at_call 11; go_must (refine (unhide H).mono ?_); rintro e w' ⟨rfl, rfl⟩))
  go_ret
  exact ⟨rfl, rfl⟩

end Go.Proofs.Ytjdfbnndkhfjnaa
