/-
  StackZero's walk.
-/
import Derived.Test.YtaiejlgoldmjdaaZa
namespace Go.Proofs.Ytaiejlgoldmjdaa
open Go.RowKit

set_option maxHeartbeats 4000000 in
theorem zero_walk (id : Int) (name : ByteArray) (w : World) : Calls Try.prog 6 #[.int .i64 id, .string name] w fun e w' => e = .returned (.bool true) ∧ Below w.heap.size w w' := by
  have hd : ∀ w1, Below (w.alloc (.cells #[.pointer none, .pointer none] 54)).heap.size (w.alloc (.cells #[.pointer none, .pointer none] 54)) w1 → Dead w1 (.pointer (some ⟨w.heap.size, 0, none⟩)) := fun w1 hb => .inr ⟨w.heap.size, rfl, ((first_cells w _ _ _ _ hb)).2⟩
  have hn : ∀ w1, Dead w1 (.pointer none) := fun w1 => .inl rfl
  have HD := hide hd
  have HN := hide hn
  clear hd hn
  go_enter Try.func6, Try.ntmps6
  go_wp2_with (first | (go_at_call 9; refine (newnil_any _).mono ?_; rintro e x ⟨rfl, rfl⟩) | (go_at_call 18; refine (push_d ((unhide HN) _) id).mono ?_; rintro e x ⟨rfl, rfl⟩) | (go_at_call 25; refine (pop_d ((unhide HD) _ (by first | exact unhide HB3 | exact unhide HB2 | exact unhide HB1 | exact Below.refl _ _)) ).mono ?_; rintro e x ⟨rfl, rfl⟩) | (go_at_call 23; refine (top_d ((unhide HN) _) ).mono ?_; rintro e x ⟨rfl, rfl⟩) | (go_at_call 26; refine (at_d ((unhide HD) _ (by first | exact unhide HB3 | exact unhide HB2 | exact unhide HB1 | exact Below.refl _ _)) id).mono ?_; rintro e x ⟨rfl, rfl⟩) | (go_at_call 21; refine (len_d ((unhide HN) _) ).mono ?_; rintro e x ⟨rfl, rfl⟩) | (go_at_call 12; refine (find_d ((unhide HD) _ (by first | exact unhide HB3 | exact unhide HB2 | exact unhide HB1 | exact Below.refl _ _)) id).mono ?_; rintro e x ⟨rfl, rfl⟩) | (go_at_call 27; refine (remove_d ((unhide HN) _) id).mono ?_; rintro e x ⟨rfl, rfl⟩) | (go_at_call 28; refine (put_d ((unhide HD) _ (by first | exact unhide HB3 | exact unhide HB2 | exact unhide HB1 | exact Below.refl _ _)) id id).mono ?_; rintro e x ⟨rfl, rfl⟩) | (go_at_call 29; refine (swap_d ((unhide HN) _) id id).mono ?_; rintro e x ⟨rfl, rfl⟩) | (go_at_call 19; refine (scope_d ((unhide HD) _ (by first | exact unhide HB3 | exact unhide HB2 | exact unhide HB1 | exact Below.refl _ _)) name).mono ?_; rintro e x1 ⟨rfl, hb⟩; have HB1 := hide (show Below ((w.alloc (.cells #[.pointer none, .pointer none] 54))).heap.size (w.alloc (.cells #[.pointer none, .pointer none] 54)) x1 from hb); clear hb) | (go_at_call 30; refine (nodescope_d ((unhide HN) _) id).mono ?_; rintro e x2 ⟨rfl, hb⟩; have HB2 := hide (show Below ((w.alloc (.cells #[.pointer none, .pointer none] 54))).heap.size (w.alloc (.cells #[.pointer none, .pointer none] 54)) x2 from (unhide HB1).trans (hb.mono (unhide HB1).size)); clear hb) | (go_at_call 20; refine (popto_d ((unhide HD) _ (by first | exact unhide HB3 | exact unhide HB2 | exact unhide HB1 | exact Below.refl _ _)) name).mono ?_; rintro e x ⟨rfl, rfl⟩) | (go_at_call 22; refine (implied_d ((unhide HN) _) name).mono ?_; rintro e x3 ⟨rfl, hb⟩; have HB3 := hide (show Below ((w.alloc (.cells #[.pointer none, .pointer none] 54))).heap.size (w.alloc (.cells #[.pointer none, .pointer none] 54)) x3 from (unhide HB2).trans (hb.mono (unhide HB2).size)); clear hb) | (go_at_call 24; refine (thorough_d ((unhide HD) _ (by first | exact unhide HB3 | exact unhide HB2 | exact unhide HB1 | exact Below.refl _ _)) ).mono ?_; rintro e x ⟨rfl, rfl⟩) | (go_at_call 31; refine (special_d ((unhide HN) _) id).mono ?_; rintro e x4 ⟨rfl, hb⟩; have HB4 := hide (show Below ((w.alloc (.cells #[.pointer none, .pointer none] 54))).heap.size (w.alloc (.cells #[.pointer none, .pointer none] 54)) x4 from (unhide HB3).trans (hb.mono (unhide HB3).size)); clear hb))
  go_ret
  exact ⟨rfl, below_box (unhide HB4)⟩
end Go.Proofs.Ytaiejlgoldmjdaa
