/-
  Package entity's table of names: function 33, a letter a theorem.
-/
import Derived.Test.YtdhknaiggnafnaaTa
namespace Go.Proofs.Ytdhknaiggnafnaa
open Go.RowKit Go.Lib

theorem tab97_at (w : World) : Calls Try.prog 33 #[.int .u8 97] w fun e w' => e = .returned (.slice (some ⟨w.heap.size, 0, none⟩) 15 15) ∧ w' = w.alloc (.cells (tcells tab97) 36) := by
  go_enter Try.func33, Try.ntmps33
  go_wp2
  go_ret
  exact ⟨rfl, rfl⟩
theorem tab98_at (w : World) : Calls Try.prog 33 #[.int .u8 98] w fun e w' => e = .returned (.slice (some ⟨w.heap.size, 0, none⟩) 5 5) ∧ w' = w.alloc (.cells (tcells tab98) 36) := by
  go_enter Try.func33, Try.ntmps33
  go_wp2
  go_ret
  exact ⟨rfl, rfl⟩
theorem tab99_at (w : World) : Calls Try.prog 33 #[.int .u8 99] w fun e w' => e = .returned (.slice (some ⟨w.heap.size, 0, none⟩) 11 11) ∧ w' = w.alloc (.cells (tcells tab99) 36) := by
  go_enter Try.func33, Try.ntmps33
  go_wp2
  go_ret
  exact ⟨rfl, rfl⟩
theorem tab100_at (w : World) : Calls Try.prog 33 #[.int .u8 100] w fun e w' => e = .returned (.slice (some ⟨w.heap.size, 0, none⟩) 5 5) ∧ w' = w.alloc (.cells (tcells tab100) 36) := by
  go_enter Try.func33, Try.ntmps33
  go_wp2
  go_ret
  exact ⟨rfl, rfl⟩
theorem tab101_at (w : World) : Calls Try.prog 33 #[.int .u8 101] w fun e w' => e = .returned (.slice (some ⟨w.heap.size, 0, none⟩) 13 13) ∧ w' = w.alloc (.cells (tcells tab101) 36) := by
  go_enter Try.func33, Try.ntmps33
  go_wp2
  go_ret
  exact ⟨rfl, rfl⟩
theorem tab102_at (w : World) : Calls Try.prog 33 #[.int .u8 102] w fun e w' => e = .returned (.slice (some ⟨w.heap.size, 0, none⟩) 7 7) ∧ w' = w.alloc (.cells (tcells tab102) 36) := by
  go_enter Try.func33, Try.ntmps33
  go_wp2
  go_ret
  exact ⟨rfl, rfl⟩
theorem tab103_at (w : World) : Calls Try.prog 33 #[.int .u8 103] w fun e w' => e = .returned (.slice (some ⟨w.heap.size, 0, none⟩) 3 3) ∧ w' = w.alloc (.cells (tcells tab103) 36) := by
  go_enter Try.func33, Try.ntmps33
  go_wp2
  go_ret
  exact ⟨rfl, rfl⟩
theorem tab104_at (w : World) : Calls Try.prog 33 #[.int .u8 104] w fun e w' => e = .returned (.slice (some ⟨w.heap.size, 0, none⟩) 2 2) ∧ w' = w.alloc (.cells (tcells tab104) 36) := by
  go_enter Try.func33, Try.ntmps33
  go_wp2
  go_ret
  exact ⟨rfl, rfl⟩
theorem tab105_at (w : World) : Calls Try.prog 33 #[.int .u8 105] w fun e w' => e = .returned (.slice (some ⟨w.heap.size, 0, none⟩) 10 10) ∧ w' = w.alloc (.cells (tcells tab105) 36) := by
  go_enter Try.func33, Try.ntmps33
  go_wp2
  go_ret
  exact ⟨rfl, rfl⟩
theorem tab107_at (w : World) : Calls Try.prog 33 #[.int .u8 107] w fun e w' => e = .returned (.slice (some ⟨w.heap.size, 0, none⟩) 1 1) ∧ w' = w.alloc (.cells (tcells tab107) 36) := by
  go_enter Try.func33, Try.ntmps33
  go_wp2
  go_ret
  exact ⟨rfl, rfl⟩
theorem tab108_at (w : World) : Calls Try.prog 33 #[.int .u8 108] w fun e w' => e = .returned (.slice (some ⟨w.heap.size, 0, none⟩) 13 13) ∧ w' = w.alloc (.cells (tcells tab108) 36) := by
  go_enter Try.func33, Try.ntmps33
  go_wp2
  go_ret
  exact ⟨rfl, rfl⟩
theorem none33_at (n : Int) (w : World) (h97 : (n == 97) = false) (h98 : (n == 98) = false) (h99 : (n == 99) = false) (h100 : (n == 100) = false) (h101 : (n == 101) = false) (h102 : (n == 102) = false) (h103 : (n == 103) = false) (h104 : (n == 104) = false) (h105 : (n == 105) = false) (h107 : (n == 107) = false) (h108 : (n == 108) = false) : Calls Try.prog 33 #[.int .u8 n] w fun e w' => e = .returned (.slice none 0 0) ∧ w' = w := by
  go_enter Try.func33, Try.ntmps33
  go_wp2
  go_ret
  exact ⟨rfl, rfl⟩
end Go.Proofs.Ytdhknaiggnafnaa
