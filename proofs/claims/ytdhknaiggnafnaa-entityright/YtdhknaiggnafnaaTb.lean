/-
  Package entity's table of names: function 32, a letter a theorem.
-/
import Derived.Test.YtdhknaiggnafnaaTa
namespace Go.Proofs.Ytdhknaiggnafnaa
open Go.RowKit Go.Lib

theorem tab65_at (w : World) : Calls Try.prog 32 #[.int .u8 65] w fun e w' => e = .returned (.slice (some ⟨w.heap.size, 0, none⟩) 9 9) ∧ w' = w.alloc (.cells (tcells tab65) 36) := by
  go_enter Try.func32, Try.ntmps32
  go_wp2
  go_ret
  exact ⟨rfl, rfl⟩
theorem tab66_at (w : World) : Calls Try.prog 32 #[.int .u8 66] w fun e w' => e = .returned (.slice (some ⟨w.heap.size, 0, none⟩) 1 1) ∧ w' = w.alloc (.cells (tcells tab66) 36) := by
  go_enter Try.func32, Try.ntmps32
  go_wp2
  go_ret
  exact ⟨rfl, rfl⟩
theorem tab67_at (w : World) : Calls Try.prog 32 #[.int .u8 67] w fun e w' => e = .returned (.slice (some ⟨w.heap.size, 0, none⟩) 3 3) ∧ w' = w.alloc (.cells (tcells tab67) 36) := by
  go_enter Try.func32, Try.ntmps32
  go_wp2
  go_ret
  exact ⟨rfl, rfl⟩
theorem tab68_at (w : World) : Calls Try.prog 32 #[.int .u8 68] w fun e w' => e = .returned (.slice (some ⟨w.heap.size, 0, none⟩) 2 2) ∧ w' = w.alloc (.cells (tcells tab68) 36) := by
  go_enter Try.func32, Try.ntmps32
  go_wp2
  go_ret
  exact ⟨rfl, rfl⟩
theorem tab69_at (w : World) : Calls Try.prog 32 #[.int .u8 69] w fun e w' => e = .returned (.slice (some ⟨w.heap.size, 0, none⟩) 7 7) ∧ w' = w.alloc (.cells (tcells tab69) 36) := by
  go_enter Try.func32, Try.ntmps32
  go_wp2
  go_ret
  exact ⟨rfl, rfl⟩
theorem tab71_at (w : World) : Calls Try.prog 32 #[.int .u8 71] w fun e w' => e = .returned (.slice (some ⟨w.heap.size, 0, none⟩) 2 2) ∧ w' = w.alloc (.cells (tcells tab71) 36) := by
  go_enter Try.func32, Try.ntmps32
  go_wp2
  go_ret
  exact ⟨rfl, rfl⟩
theorem tab73_at (w : World) : Calls Try.prog 32 #[.int .u8 73] w fun e w' => e = .returned (.slice (some ⟨w.heap.size, 0, none⟩) 5 5) ∧ w' = w.alloc (.cells (tcells tab73) 36) := by
  go_enter Try.func32, Try.ntmps32
  go_wp2
  go_ret
  exact ⟨rfl, rfl⟩
theorem tab75_at (w : World) : Calls Try.prog 32 #[.int .u8 75] w fun e w' => e = .returned (.slice (some ⟨w.heap.size, 0, none⟩) 1 1) ∧ w' = w.alloc (.cells (tcells tab75) 36) := by
  go_enter Try.func32, Try.ntmps32
  go_wp2
  go_ret
  exact ⟨rfl, rfl⟩
theorem tab76_at (w : World) : Calls Try.prog 32 #[.int .u8 76] w fun e w' => e = .returned (.slice (some ⟨w.heap.size, 0, none⟩) 2 2) ∧ w' = w.alloc (.cells (tcells tab76) 36) := by
  go_enter Try.func32, Try.ntmps32
  go_wp2
  go_ret
  exact ⟨rfl, rfl⟩
theorem tab77_at (w : World) : Calls Try.prog 32 #[.int .u8 77] w fun e w' => e = .returned (.slice (some ⟨w.heap.size, 0, none⟩) 1 1) ∧ w' = w.alloc (.cells (tcells tab77) 36) := by
  go_enter Try.func32, Try.ntmps32
  go_wp2
  go_ret
  exact ⟨rfl, rfl⟩
theorem tab78_at (w : World) : Calls Try.prog 32 #[.int .u8 78] w fun e w' => e = .returned (.slice (some ⟨w.heap.size, 0, none⟩) 3 3) ∧ w' = w.alloc (.cells (tcells tab78) 36) := by
  go_enter Try.func32, Try.ntmps32
  go_wp2
  go_ret
  exact ⟨rfl, rfl⟩
theorem tab79_at (w : World) : Calls Try.prog 32 #[.int .u8 79] w fun e w' => e = .returned (.slice (some ⟨w.heap.size, 0, none⟩) 9 9) ∧ w' = w.alloc (.cells (tcells tab79) 36) := by
  go_enter Try.func32, Try.ntmps32
  go_wp2
  go_ret
  exact ⟨rfl, rfl⟩
theorem tab80_at (w : World) : Calls Try.prog 32 #[.int .u8 80] w fun e w' => e = .returned (.slice (some ⟨w.heap.size, 0, none⟩) 4 4) ∧ w' = w.alloc (.cells (tcells tab80) 36) := by
  go_enter Try.func32, Try.ntmps32
  go_wp2
  go_ret
  exact ⟨rfl, rfl⟩
theorem tab81_at (w : World) : Calls Try.prog 32 #[.int .u8 81] w fun e w' => e = .returned (.slice (some ⟨w.heap.size, 0, none⟩) 1 1) ∧ w' = w.alloc (.cells (tcells tab81) 36) := by
  go_enter Try.func32, Try.ntmps32
  go_wp2
  go_ret
  exact ⟨rfl, rfl⟩
theorem tab82_at (w : World) : Calls Try.prog 32 #[.int .u8 82] w fun e w' => e = .returned (.slice (some ⟨w.heap.size, 0, none⟩) 2 2) ∧ w' = w.alloc (.cells (tcells tab82) 36) := by
  go_enter Try.func32, Try.ntmps32
  go_wp2
  go_ret
  exact ⟨rfl, rfl⟩
theorem tab83_at (w : World) : Calls Try.prog 32 #[.int .u8 83] w fun e w' => e = .returned (.slice (some ⟨w.heap.size, 0, none⟩) 2 2) ∧ w' = w.alloc (.cells (tcells tab83) 36) := by
  go_enter Try.func32, Try.ntmps32
  go_wp2
  go_ret
  exact ⟨rfl, rfl⟩
theorem tab84_at (w : World) : Calls Try.prog 32 #[.int .u8 84] w fun e w' => e = .returned (.slice (some ⟨w.heap.size, 0, none⟩) 4 4) ∧ w' = w.alloc (.cells (tcells tab84) 36) := by
  go_enter Try.func32, Try.ntmps32
  go_wp2
  go_ret
  exact ⟨rfl, rfl⟩
theorem tab85_at (w : World) : Calls Try.prog 32 #[.int .u8 85] w fun e w' => e = .returned (.slice (some ⟨w.heap.size, 0, none⟩) 5 5) ∧ w' = w.alloc (.cells (tcells tab85) 36) := by
  go_enter Try.func32, Try.ntmps32
  go_wp2
  go_ret
  exact ⟨rfl, rfl⟩
theorem tab88_at (w : World) : Calls Try.prog 32 #[.int .u8 88] w fun e w' => e = .returned (.slice (some ⟨w.heap.size, 0, none⟩) 1 1) ∧ w' = w.alloc (.cells (tcells tab88) 36) := by
  go_enter Try.func32, Try.ntmps32
  go_wp2
  go_ret
  exact ⟨rfl, rfl⟩
theorem tab89_at (w : World) : Calls Try.prog 32 #[.int .u8 89] w fun e w' => e = .returned (.slice (some ⟨w.heap.size, 0, none⟩) 2 2) ∧ w' = w.alloc (.cells (tcells tab89) 36) := by
  go_enter Try.func32, Try.ntmps32
  go_wp2
  go_ret
  exact ⟨rfl, rfl⟩
theorem tab90_at (w : World) : Calls Try.prog 32 #[.int .u8 90] w fun e w' => e = .returned (.slice (some ⟨w.heap.size, 0, none⟩) 1 1) ∧ w' = w.alloc (.cells (tcells tab90) 36) := by
  go_enter Try.func32, Try.ntmps32
  go_wp2
  go_ret
  exact ⟨rfl, rfl⟩
theorem none32_at (n : Int) (w : World) (h65 : (n == 65) = false) (h66 : (n == 66) = false) (h67 : (n == 67) = false) (h68 : (n == 68) = false) (h69 : (n == 69) = false) (h71 : (n == 71) = false) (h73 : (n == 73) = false) (h75 : (n == 75) = false) (h76 : (n == 76) = false) (h77 : (n == 77) = false) (h78 : (n == 78) = false) (h79 : (n == 79) = false) (h80 : (n == 80) = false) (h81 : (n == 81) = false) (h82 : (n == 82) = false) (h83 : (n == 83) = false) (h84 : (n == 84) = false) (h85 : (n == 85) = false) (h88 : (n == 88) = false) (h89 : (n == 89) = false) (h90 : (n == 90) = false) : Calls Try.prog 32 #[.int .u8 n] w fun e w' => e = .returned (.slice none 0 0) ∧ w' = w := by
  go_enter Try.func32, Try.ntmps32
  go_wp2
  go_ret
  exact ⟨rfl, rfl⟩
end Go.Proofs.Ytdhknaiggnafnaa
