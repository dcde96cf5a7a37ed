/-
  TaskZero's walk.
-/
import Derived.Test.YtdfcdgjmjionbaaTl
namespace Go.Proofs.Ytdfcdgjmjionbaa
open Go.RowKit Go.Lib

theorem readyZ (v : Option Addr) (w : World) (h : v = none ∨ ∃ b, v = some ⟨b, 0, none⟩ ∧ w.cell? ⟨b, 0, none⟩ = some (.chan none)) : Hid (∀ W, Below w.heap.size w W → Calls Try.prog 20 #[.pointer v] W fun e w' => ∃ a c, e = .returned (.slice a 0 c) ∧ Below W.heap.size W w') := by
  refine hide fun W hb => (ready_zero v W ?_).mono ?_
  · rcases h with rfl | ⟨b, rfl, hc⟩
    · exact .inl rfl
    · exact .inr ⟨b, rfl, by rw [hb.cell (World.block_lt_of_cell? w _ hc)]; exact hc⟩
  · rintro e w' ⟨rfl, hb'⟩
    exact ⟨none, 0, rfl, hb'⟩
theorem zero_walk (n : Int) (w : World) : Calls Try.prog 7 #[.int .i64 n] w fun e w' => e = .returned (.bool true) ∧ Below w.heap.size w w' := by
  have hq0 := heap_alloc_new w (.cells #[.chan none, .chan none, .chan none, .chan none] 56)
  have HB0 := hide (below_new w (.cells #[.chan none, .chan none, .chan none, .chan none] 56))
  have hsz : (w.alloc (.cells #[.chan none, .chan none, .chan none, .chan none] 56)).heap.size = w.heap.size + 1 := by simp
  generalize hw0 : w.alloc (.cells #[.chan none, .chan none, .chan none, .chan none] 56) = w0 at *
  have HC : Hid (∀ W, Below w0.heap.size w0 W → W.cell? ⟨w.heap.size, 0, none⟩ = some (.chan none)) := hide fun W hb => by
    have h := (hb.block w.heap.size (by omega)).trans hq0
    exact (cell_of_row _ _ 0 _ _ _ h).trans (by rfl)
  have HN1 : Hid (∀ W, Calls Try.prog 14 #[.pointer none, .int .i64 n] W fun e w' => e = .returned (.tuple #[tkZ.val, .int .i64 0, .bool false]) ∧ Below W.heap.size W w') := hide fun W => next_none none n W (readyZ none W (.inl rfl))
  have HN2 : Hid (∀ W, Below w0.heap.size w0 W → Calls Try.prog 14 #[.pointer (some ⟨w.heap.size, 0, none⟩), .int .i64 n] W fun e w' => e = .returned (.tuple #[tkZ.val, .int .i64 0, .bool false]) ∧ Below W.heap.size W w') := hide fun W hb => next_none _ n W (readyZ _ W (.inr ⟨_, rfl, unhide HC W hb⟩))
  have HP1 : Hid (∀ W, Calls Try.prog 11 #[.pointer none, .int .i64 n, tkZ.val] W fun e w' => e = .returned (.int .i64 7) ∧ Below W.heap.size W w') := hide fun W => post_zero none n tkZ W (.inl rfl)
  have HP2 : Hid (∀ W, Below w0.heap.size w0 W → Calls Try.prog 11 #[.pointer (some ⟨w.heap.size, 0, none⟩), .int .i64 0, tkZ.val] W fun e w' => e = .returned (.int .i64 7) ∧ Below W.heap.size W w') := hide fun W hb => post_zero _ 0 tkZ W (.inr ⟨_, rfl, unhide HC W hb⟩)
  have HR : Hid (∀ W, Calls Try.prog 20 #[.pointer none] W fun e w' => e = .returned (.slice none 0 0) ∧ Below W.heap.size W w') := hide fun W => ready_zero none W (.inl rfl)
  have HL : Hid (∀ W, Below w0.heap.size w0 W → Calls Try.prog 17 #[.pointer (some ⟨w.heap.size, 0, none⟩)] W fun e w' => e = .returned (.int .i64 0) ∧ Below W.heap.size W w') := hide fun W hb => len_zero _ W (.inr ⟨_, rfl, unhide HC W hb⟩)
  simp only [tkZ, TkV.val, TkV.cells] at *
  clear hq0
  go_enter Try.func7, Try.ntmps7
  go_wp2_with (go_at_call 14; fail)
  refine (unhide HN1 _).mono ?_
  rintro e w1 ⟨rfl, hb⟩
  have HB1 := hide hb
  clear hb
  go_wp2_with (go_at_call 14; fail)
  have HB2 := hide ((unhide HB1).alloc (unhide HB1).size (.cells #[.int .i64 0, .slice none 0 0, .slice none 0 0] 34))
  refine (unhide HN2 _ (unhide HB2)).mono ?_
  rintro e w2 ⟨rfl, hb⟩
  have HB3 := hide ((unhide HB2).trans (hb.mono (unhide HB2).size))
  clear hb
  go_wp2_with (go_at_call 11; fail)
  have HB4 := hide ((unhide HB3).alloc (unhide HB3).size (.cells #[.int .i64 0, .slice none 0 0, .slice none 0 0] 34))
  refine (unhide HP1 _).mono ?_
  rintro e w3 ⟨rfl, hb⟩
  have HB5 := hide ((unhide HB4).trans (hb.mono (unhide HB4).size))
  clear hb
  go_wp2_with (go_at_call 11; fail)
  refine (unhide HP2 _ (unhide HB5)).mono ?_
  rintro e w4 ⟨rfl, hb⟩
  have HB6 := hide ((unhide HB5).trans (hb.mono (unhide HB5).size))
  clear hb
  go_wp2_with (go_at_call 20; fail)
  refine (unhide HR _).mono ?_
  rintro e w5 ⟨rfl, hb⟩
  have HB7 := hide ((unhide HB6).trans (hb.mono (unhide HB6).size))
  clear hb
  go_wp2_with (go_at_call 17; fail)
  refine (unhide HL _ (unhide HB7)).mono ?_
  rintro e w6 ⟨rfl, hb⟩
  have HB8 := hide ((unhide HB7).trans (hb.mono (unhide HB7).size))
  clear hb
  go_wp2
  go_ret
  exact ⟨rfl, (unhide HB0).trans ((unhide HB8).mono (by omega))⟩
end Go.Proofs.Ytdfcdgjmjionbaa
