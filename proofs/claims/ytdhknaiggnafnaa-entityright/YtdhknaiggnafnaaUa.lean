/-
  The document's Number, a leaf a theorem.
-/
import Derived.Test.YtdhknaiggnafnaaTz
namespace Go.Proofs.Ytdhknaiggnafnaa
open Go.RowKit Go.Lib

theorem oth_all : (oth.all fun x => decide (0 ≤ x.2) && decide (x.2 < 55296)) = true := by decide +kernel
theorem oth_range (n : Int) (h0 : 0 ≤ n) (h1 : n < 55296) : 0 ≤ (othM n).getD n ∧ (othM n).getD n < 55296 := by
  unfold othM
  cases e : oth.find? (fun x => x.1 == n) with
  | none => exact ⟨h0, h1⟩
  | some x =>
    have := List.all_eq_true.1 oth_all x (List.mem_of_find?_eq_some e)
    simp only [Bool.and_eq_true, decide_eq_true_eq] at this
    exact this


set_option maxHeartbeats 1000000 in
theorem refNum_nul (n : Int) (l0 : n = 0) (w : World) : Calls Try.prog 18 #[.int .i64 n] w (NumPost n w) := by
  have HE := hide (num_nul n l0)
  have q0 : ¬ n < 0 := by omega
  have q1 : ¬ 1114111 < n := by omega
  have q2 : ¬ 55296 ≤ n := by omega
  have q3 : n ≤ 57343 := by omega
  have q4 : ¬ 64976 ≤ n := by omega
  have q5 : n ≤ 65007 := by omega
  have q6 : n < 32 := by omega
  have q7 : ¬ 127 ≤ n := by omega
  have q8 : n ≤ 159 := by omega
  have e0 : (n == 0) = true := by rw [beq_iff_eq]; omega
  have f0 : (n != 0) = false := by rw [bne, e0]; rfl
  have e9 : (n == 9) = false := by rw [beq_eq_false_iff_ne]; omega
  have f9 : (n != 9) = true := by rw [bne, e9]; rfl
  have e10 : (n == 10) = false := by rw [beq_eq_false_iff_ne]; omega
  have f10 : (n != 10) = true := by rw [bne, e10]; rfl
  have e12 : (n == 12) = false := by rw [beq_eq_false_iff_ne]; omega
  have f12 : (n != 12) = true := by rw [bne, e12]; rfl
  clear l0
  go_enter Try.func18, Try.ntmps18
  set_option maxRecDepth 8000 in
  go_wp2
  go_ret2
  unfold NumPost
  rw [unhide HE]
  exact ⟨rfl, Below.refl _ _⟩
set_option maxHeartbeats 1000000 in
theorem refNum_neg (n : Int) (l0 : n < 0) (w : World) : Calls Try.prog 18 #[.int .i64 n] w (NumPost n w) := by
  have HE := hide (num_rng n (by omega) (.inl l0))
  have q0 : n < 0 := by omega
  have q1 : ¬ 1114111 < n := by omega
  have q2 : ¬ 55296 ≤ n := by omega
  have q3 : n ≤ 57343 := by omega
  have q4 : ¬ 64976 ≤ n := by omega
  have q5 : n ≤ 65007 := by omega
  have q6 : n < 32 := by omega
  have q7 : ¬ 127 ≤ n := by omega
  have q8 : n ≤ 159 := by omega
  have e0 : (n == 0) = false := by rw [beq_eq_false_iff_ne]; omega
  have f0 : (n != 0) = true := by rw [bne, e0]; rfl
  have e9 : (n == 9) = false := by rw [beq_eq_false_iff_ne]; omega
  have f9 : (n != 9) = true := by rw [bne, e9]; rfl
  have e10 : (n == 10) = false := by rw [beq_eq_false_iff_ne]; omega
  have f10 : (n != 10) = true := by rw [bne, e10]; rfl
  have e12 : (n == 12) = false := by rw [beq_eq_false_iff_ne]; omega
  have f12 : (n != 12) = true := by rw [bne, e12]; rfl
  clear l0
  go_enter Try.func18, Try.ntmps18
  set_option maxRecDepth 8000 in
  go_wp2
  go_ret2
  unfold NumPost
  rw [unhide HE]
  exact ⟨rfl, Below.refl _ _⟩
set_option maxHeartbeats 1000000 in
theorem refNum_big (n : Int) (l0 : 1114111 < n) (w : World) : Calls Try.prog 18 #[.int .i64 n] w (NumPost n w) := by
  have HE := hide (num_rng n (by omega) (.inr l0))
  have q0 : ¬ n < 0 := by omega
  have q1 : 1114111 < n := by omega
  have q2 : 55296 ≤ n := by omega
  have q3 : ¬ n ≤ 57343 := by omega
  have q4 : 64976 ≤ n := by omega
  have q5 : ¬ n ≤ 65007 := by omega
  have q6 : ¬ n < 32 := by omega
  have q7 : 127 ≤ n := by omega
  have q8 : ¬ n ≤ 159 := by omega
  have e0 : (n == 0) = false := by rw [beq_eq_false_iff_ne]; omega
  have f0 : (n != 0) = true := by rw [bne, e0]; rfl
  have e9 : (n == 9) = false := by rw [beq_eq_false_iff_ne]; omega
  have f9 : (n != 9) = true := by rw [bne, e9]; rfl
  have e10 : (n == 10) = false := by rw [beq_eq_false_iff_ne]; omega
  have f10 : (n != 10) = true := by rw [bne, e10]; rfl
  have e12 : (n == 12) = false := by rw [beq_eq_false_iff_ne]; omega
  have f12 : (n != 12) = true := by rw [bne, e12]; rfl
  clear l0
  go_enter Try.func18, Try.ntmps18
  set_option maxRecDepth 8000 in
  go_wp2
  go_ret2
  unfold NumPost
  rw [unhide HE]
  exact ⟨rfl, Below.refl _ _⟩
set_option maxHeartbeats 1000000 in
theorem refNum_sur (n : Int) (l0 : 55296 ≤ n) (l1 : n ≤ 57343) (w : World) : Calls Try.prog 18 #[.int .i64 n] w (NumPost n w) := by
  have HE := hide (num_sur n l0 l1)
  have q0 : ¬ n < 0 := by omega
  have q1 : ¬ 1114111 < n := by omega
  have q2 : 55296 ≤ n := by omega
  have q3 : n ≤ 57343 := by omega
  have q4 : ¬ 64976 ≤ n := by omega
  have q5 : n ≤ 65007 := by omega
  have q6 : ¬ n < 32 := by omega
  have q7 : 127 ≤ n := by omega
  have q8 : ¬ n ≤ 159 := by omega
  have e0 : (n == 0) = false := by rw [beq_eq_false_iff_ne]; omega
  have f0 : (n != 0) = true := by rw [bne, e0]; rfl
  have e9 : (n == 9) = false := by rw [beq_eq_false_iff_ne]; omega
  have f9 : (n != 9) = true := by rw [bne, e9]; rfl
  have e10 : (n == 10) = false := by rw [beq_eq_false_iff_ne]; omega
  have f10 : (n != 10) = true := by rw [bne, e10]; rfl
  have e12 : (n == 12) = false := by rw [beq_eq_false_iff_ne]; omega
  have f12 : (n != 12) = true := by rw [bne, e12]; rfl
  clear l0 l1
  go_enter Try.func18, Try.ntmps18
  set_option maxRecDepth 8000 in
  go_wp2
  go_ret2
  unfold NumPost
  rw [unhide HE]
  exact ⟨rfl, Below.refl _ _⟩
set_option maxHeartbeats 1000000 in
theorem refNum_la (n : Int) (l0 : n = 9) (w : World) : Calls Try.prog 18 #[.int .i64 n] w (NumPost n w) := by
  have HE := hide (num_ok n (by omega) (by omega) (by omega) (false_of (fun h => by have := noncB_iff.1 h; omega)) (false_of (fun h => by have := ctrlB_iff.1 h; omega)))
  have hwr : IntKind.i32.wrap n = n := by rw [IntKind.wrap_i32]; omega
  obtain ⟨m, hm⟩ : ∃ m, n.tmod 65536 = m := ⟨_, rfl⟩
  have hmm : n % 65536 = m := by rw [← hm, Int.tmod_eq_emod_of_nonneg (by omega)]
  have qm : ¬ 65534 ≤ m := by omega
  have q0 : ¬ n < 0 := by omega
  have q1 : ¬ 1114111 < n := by omega
  have q2 : ¬ 55296 ≤ n := by omega
  have q3 : n ≤ 57343 := by omega
  have q4 : ¬ 64976 ≤ n := by omega
  have q5 : n ≤ 65007 := by omega
  have q6 : n < 32 := by omega
  have q7 : ¬ 127 ≤ n := by omega
  have q8 : n ≤ 159 := by omega
  have e0 : (n == 0) = false := by rw [beq_eq_false_iff_ne]; omega
  have f0 : (n != 0) = true := by rw [bne, e0]; rfl
  have e9 : (n == 9) = true := by rw [beq_iff_eq]; omega
  have f9 : (n != 9) = false := by rw [bne, e9]; rfl
  have e10 : (n == 10) = false := by rw [beq_eq_false_iff_ne]; omega
  have f10 : (n != 10) = true := by rw [bne, e10]; rfl
  have e12 : (n == 12) = false := by rw [beq_eq_false_iff_ne]; omega
  have f12 : (n != 12) = true := by rw [bne, e12]; rfl
  clear l0 hmm
  go_enter Try.func18, Try.ntmps18
  set_option maxRecDepth 8000 in
  go_wp2
  go_ret2
  unfold NumPost
  rw [unhide HE]
  exact ⟨rfl, Below.refl _ _⟩
set_option maxHeartbeats 1000000 in
theorem refNum_lb (n : Int) (l0 : n = 10) (w : World) : Calls Try.prog 18 #[.int .i64 n] w (NumPost n w) := by
  have HE := hide (num_ok n (by omega) (by omega) (by omega) (false_of (fun h => by have := noncB_iff.1 h; omega)) (false_of (fun h => by have := ctrlB_iff.1 h; omega)))
  have hwr : IntKind.i32.wrap n = n := by rw [IntKind.wrap_i32]; omega
  obtain ⟨m, hm⟩ : ∃ m, n.tmod 65536 = m := ⟨_, rfl⟩
  have hmm : n % 65536 = m := by rw [← hm, Int.tmod_eq_emod_of_nonneg (by omega)]
  have qm : ¬ 65534 ≤ m := by omega
  have q0 : ¬ n < 0 := by omega
  have q1 : ¬ 1114111 < n := by omega
  have q2 : ¬ 55296 ≤ n := by omega
  have q3 : n ≤ 57343 := by omega
  have q4 : ¬ 64976 ≤ n := by omega
  have q5 : n ≤ 65007 := by omega
  have q6 : n < 32 := by omega
  have q7 : ¬ 127 ≤ n := by omega
  have q8 : n ≤ 159 := by omega
  have e0 : (n == 0) = false := by rw [beq_eq_false_iff_ne]; omega
  have f0 : (n != 0) = true := by rw [bne, e0]; rfl
  have e9 : (n == 9) = false := by rw [beq_eq_false_iff_ne]; omega
  have f9 : (n != 9) = true := by rw [bne, e9]; rfl
  have e10 : (n == 10) = true := by rw [beq_iff_eq]; omega
  have f10 : (n != 10) = false := by rw [bne, e10]; rfl
  have e12 : (n == 12) = false := by rw [beq_eq_false_iff_ne]; omega
  have f12 : (n != 12) = true := by rw [bne, e12]; rfl
  clear l0 hmm
  go_enter Try.func18, Try.ntmps18
  set_option maxRecDepth 8000 in
  go_wp2
  go_ret2
  unfold NumPost
  rw [unhide HE]
  exact ⟨rfl, Below.refl _ _⟩
set_option maxHeartbeats 1000000 in
theorem refNum_lc (n : Int) (l0 : n = 12) (w : World) : Calls Try.prog 18 #[.int .i64 n] w (NumPost n w) := by
  have HE := hide (num_ok n (by omega) (by omega) (by omega) (false_of (fun h => by have := noncB_iff.1 h; omega)) (false_of (fun h => by have := ctrlB_iff.1 h; omega)))
  have hwr : IntKind.i32.wrap n = n := by rw [IntKind.wrap_i32]; omega
  obtain ⟨m, hm⟩ : ∃ m, n.tmod 65536 = m := ⟨_, rfl⟩
  have hmm : n % 65536 = m := by rw [← hm, Int.tmod_eq_emod_of_nonneg (by omega)]
  have qm : ¬ 65534 ≤ m := by omega
  have q0 : ¬ n < 0 := by omega
  have q1 : ¬ 1114111 < n := by omega
  have q2 : ¬ 55296 ≤ n := by omega
  have q3 : n ≤ 57343 := by omega
  have q4 : ¬ 64976 ≤ n := by omega
  have q5 : n ≤ 65007 := by omega
  have q6 : n < 32 := by omega
  have q7 : ¬ 127 ≤ n := by omega
  have q8 : n ≤ 159 := by omega
  have e0 : (n == 0) = false := by rw [beq_eq_false_iff_ne]; omega
  have f0 : (n != 0) = true := by rw [bne, e0]; rfl
  have e9 : (n == 9) = false := by rw [beq_eq_false_iff_ne]; omega
  have f9 : (n != 9) = true := by rw [bne, e9]; rfl
  have e10 : (n == 10) = false := by rw [beq_eq_false_iff_ne]; omega
  have f10 : (n != 10) = true := by rw [bne, e10]; rfl
  have e12 : (n == 12) = true := by rw [beq_iff_eq]; omega
  have f12 : (n != 12) = false := by rw [bne, e12]; rfl
  clear l0 hmm
  go_enter Try.func18, Try.ntmps18
  set_option maxRecDepth 8000 in
  go_wp2
  go_ret2
  unfold NumPost
  rw [unhide HE]
  exact ⟨rfl, Below.refl _ _⟩
set_option maxHeartbeats 1000000 in
theorem refNum_ld (n : Int) (l0 : 0 < n) (l1 : n < 32) (l2 : n ≠ 9) (l3 : n ≠ 10) (l4 : n ≠ 12) (w : World) : Calls Try.prog 18 #[.int .i64 n] w (NumPost n w) := by
  have HE := hide (num_ctl n (by omega) (by omega) (by omega) (false_of (fun h => by have := noncB_iff.1 h; omega)) (ctrlB_iff.2 (by omega)))
  have hwr : IntKind.i32.wrap n = n := by rw [IntKind.wrap_i32]; omega
  have HM := hide (fun w => means_at n w)
  have hwo : IntKind.i32.wrap ((othM n).getD n) = (othM n).getD n := by have := oth_range n (by omega) (by omega); rw [IntKind.wrap_i32]; omega
  generalize (othM n).getD n = r at HM hwo HE
  obtain ⟨m, hm⟩ : ∃ m, n.tmod 65536 = m := ⟨_, rfl⟩
  have hmm : n % 65536 = m := by rw [← hm, Int.tmod_eq_emod_of_nonneg (by omega)]
  have qm : ¬ 65534 ≤ m := by omega
  have q0 : ¬ n < 0 := by omega
  have q1 : ¬ 1114111 < n := by omega
  have q2 : ¬ 55296 ≤ n := by omega
  have q3 : n ≤ 57343 := by omega
  have q4 : ¬ 64976 ≤ n := by omega
  have q5 : n ≤ 65007 := by omega
  have q6 : n < 32 := by omega
  have q7 : ¬ 127 ≤ n := by omega
  have q8 : n ≤ 159 := by omega
  have e0 : (n == 0) = false := by rw [beq_eq_false_iff_ne]; omega
  have f0 : (n != 0) = true := by rw [bne, e0]; rfl
  have e9 : (n == 9) = false := by rw [beq_eq_false_iff_ne]; omega
  have f9 : (n != 9) = true := by rw [bne, e9]; rfl
  have e10 : (n == 10) = false := by rw [beq_eq_false_iff_ne]; omega
  have f10 : (n != 10) = true := by rw [bne, e10]; rfl
  have e12 : (n == 12) = false := by rw [beq_eq_false_iff_ne]; omega
  have f12 : (n != 12) = true := by rw [bne, e12]; rfl
  clear l0 l1 l2 l3 l4 hmm
  go_enter Try.func18, Try.ntmps18
  set_option maxRecDepth 8000 in
  go_wp2_with (go_at_call 31; refine (unhide HM _).mono ?_; rintro e w3 ⟨rfl, hw3⟩; have HW3 := hide hw3; clear hw3)
  go_ret2
  unfold NumPost
  rw [unhide HE]
  exact ⟨rfl, unhide HW3⟩
set_option maxHeartbeats 1000000 in
theorem refNum_le (n : Int) (l0 : 32 ≤ n) (l1 : n < 127) (w : World) : Calls Try.prog 18 #[.int .i64 n] w (NumPost n w) := by
  have HE := hide (num_ok n (by omega) (by omega) (by omega) (false_of (fun h => by have := noncB_iff.1 h; omega)) (false_of (fun h => by have := ctrlB_iff.1 h; omega)))
  have hwr : IntKind.i32.wrap n = n := by rw [IntKind.wrap_i32]; omega
  obtain ⟨m, hm⟩ : ∃ m, n.tmod 65536 = m := ⟨_, rfl⟩
  have hmm : n % 65536 = m := by rw [← hm, Int.tmod_eq_emod_of_nonneg (by omega)]
  have qm : ¬ 65534 ≤ m := by omega
  have q0 : ¬ n < 0 := by omega
  have q1 : ¬ 1114111 < n := by omega
  have q2 : ¬ 55296 ≤ n := by omega
  have q3 : n ≤ 57343 := by omega
  have q4 : ¬ 64976 ≤ n := by omega
  have q5 : n ≤ 65007 := by omega
  have q6 : ¬ n < 32 := by omega
  have q7 : ¬ 127 ≤ n := by omega
  have q8 : n ≤ 159 := by omega
  have e0 : (n == 0) = false := by rw [beq_eq_false_iff_ne]; omega
  have f0 : (n != 0) = true := by rw [bne, e0]; rfl
  have e9 : (n == 9) = false := by rw [beq_eq_false_iff_ne]; omega
  have f9 : (n != 9) = true := by rw [bne, e9]; rfl
  have e10 : (n == 10) = false := by rw [beq_eq_false_iff_ne]; omega
  have f10 : (n != 10) = true := by rw [bne, e10]; rfl
  have e12 : (n == 12) = false := by rw [beq_eq_false_iff_ne]; omega
  have f12 : (n != 12) = true := by rw [bne, e12]; rfl
  clear l0 l1 hmm
  go_enter Try.func18, Try.ntmps18
  set_option maxRecDepth 8000 in
  go_wp2
  go_ret2
  unfold NumPost
  rw [unhide HE]
  exact ⟨rfl, Below.refl _ _⟩
set_option maxHeartbeats 1000000 in
theorem refNum_lf (n : Int) (l0 : 127 ≤ n) (l1 : n ≤ 159) (w : World) : Calls Try.prog 18 #[.int .i64 n] w (NumPost n w) := by
  have HE := hide (num_ctl n (by omega) (by omega) (by omega) (false_of (fun h => by have := noncB_iff.1 h; omega)) (ctrlB_iff.2 (by omega)))
  have hwr : IntKind.i32.wrap n = n := by rw [IntKind.wrap_i32]; omega
  have HM := hide (fun w => means_at n w)
  have hwo : IntKind.i32.wrap ((othM n).getD n) = (othM n).getD n := by have := oth_range n (by omega) (by omega); rw [IntKind.wrap_i32]; omega
  generalize (othM n).getD n = r at HM hwo HE
  obtain ⟨m, hm⟩ : ∃ m, n.tmod 65536 = m := ⟨_, rfl⟩
  have hmm : n % 65536 = m := by rw [← hm, Int.tmod_eq_emod_of_nonneg (by omega)]
  have qm : ¬ 65534 ≤ m := by omega
  have q0 : ¬ n < 0 := by omega
  have q1 : ¬ 1114111 < n := by omega
  have q2 : ¬ 55296 ≤ n := by omega
  have q3 : n ≤ 57343 := by omega
  have q4 : ¬ 64976 ≤ n := by omega
  have q5 : n ≤ 65007 := by omega
  have q6 : ¬ n < 32 := by omega
  have q7 : 127 ≤ n := by omega
  have q8 : n ≤ 159 := by omega
  have e0 : (n == 0) = false := by rw [beq_eq_false_iff_ne]; omega
  have f0 : (n != 0) = true := by rw [bne, e0]; rfl
  have e9 : (n == 9) = false := by rw [beq_eq_false_iff_ne]; omega
  have f9 : (n != 9) = true := by rw [bne, e9]; rfl
  have e10 : (n == 10) = false := by rw [beq_eq_false_iff_ne]; omega
  have f10 : (n != 10) = true := by rw [bne, e10]; rfl
  have e12 : (n == 12) = false := by rw [beq_eq_false_iff_ne]; omega
  have f12 : (n != 12) = true := by rw [bne, e12]; rfl
  clear l0 l1 hmm
  go_enter Try.func18, Try.ntmps18
  set_option maxRecDepth 8000 in
  go_wp2_with (go_at_call 31; refine (unhide HM _).mono ?_; rintro e w3 ⟨rfl, hw3⟩; have HW3 := hide hw3; clear hw3)
  go_ret2
  unfold NumPost
  rw [unhide HE]
  exact ⟨rfl, unhide HW3⟩
set_option maxHeartbeats 1000000 in
theorem refNum_lg (n : Int) (l0 : 160 ≤ n) (l1 : n < 55296) (w : World) : Calls Try.prog 18 #[.int .i64 n] w (NumPost n w) := by
  have HE := hide (num_ok n (by omega) (by omega) (by omega) (false_of (fun h => by have := noncB_iff.1 h; omega)) (false_of (fun h => by have := ctrlB_iff.1 h; omega)))
  have hwr : IntKind.i32.wrap n = n := by rw [IntKind.wrap_i32]; omega
  obtain ⟨m, hm⟩ : ∃ m, n.tmod 65536 = m := ⟨_, rfl⟩
  have hmm : n % 65536 = m := by rw [← hm, Int.tmod_eq_emod_of_nonneg (by omega)]
  have qm : ¬ 65534 ≤ m := by omega
  have q0 : ¬ n < 0 := by omega
  have q1 : ¬ 1114111 < n := by omega
  have q2 : ¬ 55296 ≤ n := by omega
  have q3 : n ≤ 57343 := by omega
  have q4 : ¬ 64976 ≤ n := by omega
  have q5 : n ≤ 65007 := by omega
  have q6 : ¬ n < 32 := by omega
  have q7 : 127 ≤ n := by omega
  have q8 : ¬ n ≤ 159 := by omega
  have e0 : (n == 0) = false := by rw [beq_eq_false_iff_ne]; omega
  have f0 : (n != 0) = true := by rw [bne, e0]; rfl
  have e9 : (n == 9) = false := by rw [beq_eq_false_iff_ne]; omega
  have f9 : (n != 9) = true := by rw [bne, e9]; rfl
  have e10 : (n == 10) = false := by rw [beq_eq_false_iff_ne]; omega
  have f10 : (n != 10) = true := by rw [bne, e10]; rfl
  have e12 : (n == 12) = false := by rw [beq_eq_false_iff_ne]; omega
  have f12 : (n != 12) = true := by rw [bne, e12]; rfl
  clear l0 l1 hmm
  go_enter Try.func18, Try.ntmps18
  set_option maxRecDepth 8000 in
  go_wp2
  go_ret2
  unfold NumPost
  rw [unhide HE]
  exact ⟨rfl, Below.refl _ _⟩
set_option maxHeartbeats 1000000 in
theorem refNum_non1 (n : Int) (l0 : 57343 < n) (l1 : n ≤ 1114111) (l2 : 65534 ≤ n % 65536) (w : World) : Calls Try.prog 18 #[.int .i64 n] w (NumPost n w) := by
  have HE := hide (num_non n (by omega) (by omega) (by omega) (noncB_iff.2 (by omega)))
  have hwr : IntKind.i32.wrap n = n := by rw [IntKind.wrap_i32]; omega
  obtain ⟨m, hm⟩ : ∃ m, n.tmod 65536 = m := ⟨_, rfl⟩
  have hmm : n % 65536 = m := by rw [← hm, Int.tmod_eq_emod_of_nonneg (by omega)]
  have qm : 65534 ≤ m := by omega
  have q0 : ¬ n < 0 := by omega
  have q1 : ¬ 1114111 < n := by omega
  have q2 : 55296 ≤ n := by omega
  have q3 : ¬ n ≤ 57343 := by omega
  have q4 : ¬ n < 32 := by omega
  have q5 : 127 ≤ n := by omega
  have q6 : ¬ n ≤ 159 := by omega
  have e0 : (n == 0) = false := by rw [beq_eq_false_iff_ne]; omega
  have f0 : (n != 0) = true := by rw [bne, e0]; rfl
  have e9 : (n == 9) = false := by rw [beq_eq_false_iff_ne]; omega
  have f9 : (n != 9) = true := by rw [bne, e9]; rfl
  have e10 : (n == 10) = false := by rw [beq_eq_false_iff_ne]; omega
  have f10 : (n != 10) = true := by rw [bne, e10]; rfl
  have e12 : (n == 12) = false := by rw [beq_eq_false_iff_ne]; omega
  have f12 : (n != 12) = true := by rw [bne, e12]; rfl
  clear l0 l1 l2 hmm
  go_enter Try.func18, Try.ntmps18
  set_option maxRecDepth 8000 in
  go_wp2
  go_ret2
  unfold NumPost
  rw [unhide HE]
  exact ⟨rfl, Below.refl _ _⟩
set_option maxHeartbeats 1000000 in
theorem refNum_non2 (n : Int) (l0 : 64976 ≤ n) (l1 : n ≤ 65007) (w : World) : Calls Try.prog 18 #[.int .i64 n] w (NumPost n w) := by
  have HE := hide (num_non n (by omega) (by omega) (by omega) (noncB_iff.2 (by omega)))
  have hwr : IntKind.i32.wrap n = n := by rw [IntKind.wrap_i32]; omega
  obtain ⟨m, hm⟩ : ∃ m, n.tmod 65536 = m := ⟨_, rfl⟩
  have hmm : n % 65536 = m := by rw [← hm, Int.tmod_eq_emod_of_nonneg (by omega)]
  have qm : ¬ 65534 ≤ m := by omega
  have q0 : ¬ n < 0 := by omega
  have q1 : ¬ 1114111 < n := by omega
  have q2 : 55296 ≤ n := by omega
  have q3 : ¬ n ≤ 57343 := by omega
  have q4 : 64976 ≤ n := by omega
  have q5 : n ≤ 65007 := by omega
  have q6 : ¬ n < 32 := by omega
  have q7 : 127 ≤ n := by omega
  have q8 : ¬ n ≤ 159 := by omega
  have e0 : (n == 0) = false := by rw [beq_eq_false_iff_ne]; omega
  have f0 : (n != 0) = true := by rw [bne, e0]; rfl
  have e9 : (n == 9) = false := by rw [beq_eq_false_iff_ne]; omega
  have f9 : (n != 9) = true := by rw [bne, e9]; rfl
  have e10 : (n == 10) = false := by rw [beq_eq_false_iff_ne]; omega
  have f10 : (n != 10) = true := by rw [bne, e10]; rfl
  have e12 : (n == 12) = false := by rw [beq_eq_false_iff_ne]; omega
  have f12 : (n != 12) = true := by rw [bne, e12]; rfl
  clear l0 l1 hmm
  go_enter Try.func18, Try.ntmps18
  set_option maxRecDepth 8000 in
  go_wp2
  go_ret2
  unfold NumPost
  rw [unhide HE]
  exact ⟨rfl, Below.refl _ _⟩
set_option maxHeartbeats 1000000 in
theorem refNum_ok2 (n : Int) (l0 : 65007 < n) (l1 : n < 65534) (w : World) : Calls Try.prog 18 #[.int .i64 n] w (NumPost n w) := by
  have HE := hide (num_ok n (by omega) (by omega) (by omega) (false_of (fun h => by have := noncB_iff.1 h; omega)) (false_of (fun h => by have := ctrlB_iff.1 h; omega)))
  have hwr : IntKind.i32.wrap n = n := by rw [IntKind.wrap_i32]; omega
  obtain ⟨m, hm⟩ : ∃ m, n.tmod 65536 = m := ⟨_, rfl⟩
  have hmm : n % 65536 = m := by rw [← hm, Int.tmod_eq_emod_of_nonneg (by omega)]
  have qm : ¬ 65534 ≤ m := by omega
  have q0 : ¬ n < 0 := by omega
  have q1 : ¬ 1114111 < n := by omega
  have q2 : 55296 ≤ n := by omega
  have q3 : ¬ n ≤ 57343 := by omega
  have q4 : 64976 ≤ n := by omega
  have q5 : ¬ n ≤ 65007 := by omega
  have q6 : ¬ n < 32 := by omega
  have q7 : 127 ≤ n := by omega
  have q8 : ¬ n ≤ 159 := by omega
  have e0 : (n == 0) = false := by rw [beq_eq_false_iff_ne]; omega
  have f0 : (n != 0) = true := by rw [bne, e0]; rfl
  have e9 : (n == 9) = false := by rw [beq_eq_false_iff_ne]; omega
  have f9 : (n != 9) = true := by rw [bne, e9]; rfl
  have e10 : (n == 10) = false := by rw [beq_eq_false_iff_ne]; omega
  have f10 : (n != 10) = true := by rw [bne, e10]; rfl
  have e12 : (n == 12) = false := by rw [beq_eq_false_iff_ne]; omega
  have f12 : (n != 12) = true := by rw [bne, e12]; rfl
  clear l0 l1 hmm
  go_enter Try.func18, Try.ntmps18
  set_option maxRecDepth 8000 in
  go_wp2
  go_ret2
  unfold NumPost
  rw [unhide HE]
  exact ⟨rfl, Below.refl _ _⟩
set_option maxHeartbeats 1000000 in
theorem refNum_ok3 (n : Int) (l0 : 57343 < n) (l1 : n < 64976) (w : World) : Calls Try.prog 18 #[.int .i64 n] w (NumPost n w) := by
  have HE := hide (num_ok n (by omega) (by omega) (by omega) (false_of (fun h => by have := noncB_iff.1 h; omega)) (false_of (fun h => by have := ctrlB_iff.1 h; omega)))
  have hwr : IntKind.i32.wrap n = n := by rw [IntKind.wrap_i32]; omega
  obtain ⟨m, hm⟩ : ∃ m, n.tmod 65536 = m := ⟨_, rfl⟩
  have hmm : n % 65536 = m := by rw [← hm, Int.tmod_eq_emod_of_nonneg (by omega)]
  have qm : ¬ 65534 ≤ m := by omega
  have q0 : ¬ n < 0 := by omega
  have q1 : ¬ 1114111 < n := by omega
  have q2 : 55296 ≤ n := by omega
  have q3 : ¬ n ≤ 57343 := by omega
  have q4 : ¬ 64976 ≤ n := by omega
  have q5 : n ≤ 65007 := by omega
  have q6 : ¬ n < 32 := by omega
  have q7 : 127 ≤ n := by omega
  have q8 : ¬ n ≤ 159 := by omega
  have e0 : (n == 0) = false := by rw [beq_eq_false_iff_ne]; omega
  have f0 : (n != 0) = true := by rw [bne, e0]; rfl
  have e9 : (n == 9) = false := by rw [beq_eq_false_iff_ne]; omega
  have f9 : (n != 9) = true := by rw [bne, e9]; rfl
  have e10 : (n == 10) = false := by rw [beq_eq_false_iff_ne]; omega
  have f10 : (n != 10) = true := by rw [bne, e10]; rfl
  have e12 : (n == 12) = false := by rw [beq_eq_false_iff_ne]; omega
  have f12 : (n != 12) = true := by rw [bne, e12]; rfl
  clear l0 l1 hmm
  go_enter Try.func18, Try.ntmps18
  set_option maxRecDepth 8000 in
  go_wp2
  go_ret2
  unfold NumPost
  rw [unhide HE]
  exact ⟨rfl, Below.refl _ _⟩
set_option maxHeartbeats 1000000 in
theorem refNum_ok4 (n : Int) (l0 : 65534 ≤ n) (l1 : n ≤ 1114111) (l2 : n % 65536 < 65534) (w : World) : Calls Try.prog 18 #[.int .i64 n] w (NumPost n w) := by
  have HE := hide (num_ok n (by omega) (by omega) (by omega) (false_of (fun h => by have := noncB_iff.1 h; omega)) (false_of (fun h => by have := ctrlB_iff.1 h; omega)))
  have hwr : IntKind.i32.wrap n = n := by rw [IntKind.wrap_i32]; omega
  obtain ⟨m, hm⟩ : ∃ m, n.tmod 65536 = m := ⟨_, rfl⟩
  have hmm : n % 65536 = m := by rw [← hm, Int.tmod_eq_emod_of_nonneg (by omega)]
  have qm : ¬ 65534 ≤ m := by omega
  have q0 : ¬ n < 0 := by omega
  have q1 : ¬ 1114111 < n := by omega
  have q2 : 55296 ≤ n := by omega
  have q3 : ¬ n ≤ 57343 := by omega
  have q4 : 64976 ≤ n := by omega
  have q5 : ¬ n ≤ 65007 := by omega
  have q6 : ¬ n < 32 := by omega
  have q7 : 127 ≤ n := by omega
  have q8 : ¬ n ≤ 159 := by omega
  have e0 : (n == 0) = false := by rw [beq_eq_false_iff_ne]; omega
  have f0 : (n != 0) = true := by rw [bne, e0]; rfl
  have e9 : (n == 9) = false := by rw [beq_eq_false_iff_ne]; omega
  have f9 : (n != 9) = true := by rw [bne, e9]; rfl
  have e10 : (n == 10) = false := by rw [beq_eq_false_iff_ne]; omega
  have f10 : (n != 10) = true := by rw [bne, e10]; rfl
  have e12 : (n == 12) = false := by rw [beq_eq_false_iff_ne]; omega
  have f12 : (n != 12) = true := by rw [bne, e12]; rfl
  clear l0 l1 l2 hmm
  go_enter Try.func18, Try.ntmps18
  set_option maxRecDepth 8000 in
  go_wp2
  go_ret2
  unfold NumPost
  rw [unhide HE]
  exact ⟨rfl, Below.refl _ _⟩
theorem refNum_any (n : Int) (w : World) : Calls Try.prog 18 #[.int .i64 n] w (NumPost n w) := by
  by_cases h0 : n = 0
  · exact refNum_nul n h0 w
  by_cases h1 : n < 0
  · exact refNum_neg n h1 w
  by_cases h2 : 1114111 < n
  · exact refNum_big n h2 w
  by_cases h3 : n < 55296
  · by_cases a1 : n = 9
    · exact refNum_la n a1 w
    by_cases a2 : n = 10
    · exact refNum_lb n a2 w
    by_cases a3 : n = 12
    · exact refNum_lc n a3 w
    by_cases a4 : n < 32
    · exact refNum_ld n (by omega) a4 a1 a2 a3 w
    by_cases a5 : n < 127
    · exact refNum_le n (by omega) a5 w
    by_cases a6 : n ≤ 159
    · exact refNum_lf n (by omega) a6 w
    · exact refNum_lg n (by omega) h3 w
  by_cases h4 : n ≤ 57343
  · exact refNum_sur n (by omega) h4 w
  by_cases h5 : 65534 ≤ n % 65536
  · exact refNum_non1 n (by omega) (by omega) h5 w
  by_cases h6 : n < 64976
  · exact refNum_ok3 n (by omega) h6 w
  by_cases h7 : n ≤ 65007
  · exact refNum_non2 n (by omega) h7 w
  by_cases h8 : n < 65534
  · exact refNum_ok2 n (by omega) h8 w
  · exact refNum_ok4 n (by omega) (by omega) (by omega) w
end Go.Proofs.Ytdhknaiggnafnaa
