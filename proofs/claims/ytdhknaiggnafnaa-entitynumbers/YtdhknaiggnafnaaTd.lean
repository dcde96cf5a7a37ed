/-
  Package entity's table of names: function 34, a letter a theorem.
-/
import Derived.Test.YtdhknaiggnafnaaTa
namespace Go.Proofs.Ytdhknaiggnafnaa
open Go.RowKit Go.Lib

theorem tab109_at (w : World) : Calls Try.prog 34 #[.int .u8 109] w fun e w' => e = .returned (.slice (some ⟨w.heap.size, 0, none⟩) 6 6) ∧ w' = w.alloc (.cells (tcells tab109) 36) := by
  go_enter Try.func34, Try.ntmps34
  go_wp2
  go_ret
  exact ⟨rfl, rfl⟩
theorem tab110_at (w : World) : Calls Try.prog 34 #[.int .u8 110] w fun e w' => e = .returned (.slice (some ⟨w.heap.size, 0, none⟩) 12 12) ∧ w' = w.alloc (.cells (tcells tab110) 36) := by
  go_enter Try.func34, Try.ntmps34
  go_wp2
  go_ret
  exact ⟨rfl, rfl⟩
theorem tab111_at (w : World) : Calls Try.prog 34 #[.int .u8 111] w fun e w' => e = .returned (.slice (some ⟨w.heap.size, 0, none⟩) 15 15) ∧ w' = w.alloc (.cells (tcells tab111) 36) := by
  go_enter Try.func34, Try.ntmps34
  go_wp2
  go_ret
  exact ⟨rfl, rfl⟩
theorem tab112_at (w : World) : Calls Try.prog 34 #[.int .u8 112] w fun e w' => e = .returned (.slice (some ⟨w.heap.size, 0, none⟩) 13 13) ∧ w' = w.alloc (.cells (tcells tab112) 36) := by
  go_enter Try.func34, Try.ntmps34
  go_wp2
  go_ret
  exact ⟨rfl, rfl⟩
theorem tab113_at (w : World) : Calls Try.prog 34 #[.int .u8 113] w fun e w' => e = .returned (.slice (some ⟨w.heap.size, 0, none⟩) 1 1) ∧ w' = w.alloc (.cells (tcells tab113) 36) := by
  go_enter Try.func34, Try.ntmps34
  go_wp2
  go_ret
  exact ⟨rfl, rfl⟩
theorem tab114_at (w : World) : Calls Try.prog 34 #[.int .u8 114] w fun e w' => e = .returned (.slice (some ⟨w.heap.size, 0, none⟩) 12 12) ∧ w' = w.alloc (.cells (tcells tab114) 36) := by
  go_enter Try.func34, Try.ntmps34
  go_wp2
  go_ret
  exact ⟨rfl, rfl⟩
theorem tab115_at (w : World) : Calls Try.prog 34 #[.int .u8 115] w fun e w' => e = .returned (.slice (some ⟨w.heap.size, 0, none⟩) 17 17) ∧ w' = w.alloc (.cells (tcells tab115) 36) := by
  go_enter Try.func34, Try.ntmps34
  go_wp2
  go_ret
  exact ⟨rfl, rfl⟩
theorem tab116_at (w : World) : Calls Try.prog 34 #[.int .u8 116] w fun e w' => e = .returned (.slice (some ⟨w.heap.size, 0, none⟩) 8 8) ∧ w' = w.alloc (.cells (tcells tab116) 36) := by
  go_enter Try.func34, Try.ntmps34
  go_wp2
  go_ret
  exact ⟨rfl, rfl⟩
theorem tab117_at (w : World) : Calls Try.prog 34 #[.int .u8 117] w fun e w' => e = .returned (.slice (some ⟨w.heap.size, 0, none⟩) 8 8) ∧ w' = w.alloc (.cells (tcells tab117) 36) := by
  go_enter Try.func34, Try.ntmps34
  go_wp2
  go_ret
  exact ⟨rfl, rfl⟩
theorem tab120_at (w : World) : Calls Try.prog 34 #[.int .u8 120] w fun e w' => e = .returned (.slice (some ⟨w.heap.size, 0, none⟩) 1 1) ∧ w' = w.alloc (.cells (tcells tab120) 36) := by
  go_enter Try.func34, Try.ntmps34
  go_wp2
  go_ret
  exact ⟨rfl, rfl⟩
theorem tab121_at (w : World) : Calls Try.prog 34 #[.int .u8 121] w fun e w' => e = .returned (.slice (some ⟨w.heap.size, 0, none⟩) 3 3) ∧ w' = w.alloc (.cells (tcells tab121) 36) := by
  go_enter Try.func34, Try.ntmps34
  go_wp2
  go_ret
  exact ⟨rfl, rfl⟩
theorem tab122_at (w : World) : Calls Try.prog 34 #[.int .u8 122] w fun e w' => e = .returned (.slice (some ⟨w.heap.size, 0, none⟩) 3 3) ∧ w' = w.alloc (.cells (tcells tab122) 36) := by
  go_enter Try.func34, Try.ntmps34
  go_wp2
  go_ret
  exact ⟨rfl, rfl⟩
theorem none34_at (n : Int) (w : World) (h109 : (n == 109) = false) (h110 : (n == 110) = false) (h111 : (n == 111) = false) (h112 : (n == 112) = false) (h113 : (n == 113) = false) (h114 : (n == 114) = false) (h115 : (n == 115) = false) (h116 : (n == 116) = false) (h117 : (n == 117) = false) (h120 : (n == 120) = false) (h121 : (n == 121) = false) (h122 : (n == 122) = false) : Calls Try.prog 34 #[.int .u8 n] w fun e w' => e = .returned (.slice none 0 0) ∧ w' = w := by
  go_enter Try.func34, Try.ntmps34
  go_wp2
  go_ret
  exact ⟨rfl, rfl⟩
end Go.Proofs.Ytdhknaiggnafnaa
