/-
  EntityRight: the walk, a leaf a theorem.
-/
import Derived.Test.YtdhknaiggnafnaaUa
import Derived.Test.YtdhknaiggnafnaaTk
namespace Go.Proofs.Ytdhknaiggnafnaa
open Go.RowKit Go.Lib

theorem ok_empty : okS.toList = [] := by unfold okS; rw [toList_data]
theorem nul_full : (nulS.toList == []) = false := by unfold nulS; rw [toList_data]; rfl
theorem rng_full : (rngS.toList == []) = false := by unfold rngS; rw [toList_data]; rfl
theorem sur_full : (surS.toList == []) = false := by unfold surS; rw [toList_data]; rfl
theorem non_full : (nonS.toList == []) = false := by unfold nonS; rw [toList_data]; rfl
theorem ctl_full : (ctlS.toList == []) = false := by unfold ctlS; rw [toList_data]; rfl
set_option maxHeartbeats 1000000 in
theorem right_nul (n : Int) (l0 : n = 0) (w : World) : Calls Try.prog 8 #[.int .i64 n] w fun e w' => e = .returned (.bool true) ∧ Below w.heap.size w w' := by
  have HF : Hid (∀ w, Calls Try.prog 17 #[.int .i64 n] w fun e w' => e = .returned (.tuple #[.int .i32 (65533), .string nulS]) ∧ Below w.heap.size w w') := hide (fun w => by have := number_at n w; unfold NumPost at this; rw [num_nul n l0] at this; exact this)
  have HA := hide awake_any
  have hfe := nul_full
  have hfn : (nulS.toList != []) = true := by rw [bne, hfe]; rfl
  generalize nulS = fs at HF hfe hfn
  have q0 : ¬ n < 0 := by omega
  have q1 : ¬ 32 ≤ n := by omega
  have q2 : n < 127 := by omega
  have q3 : ¬ 160 ≤ n := by omega
  have q4 : n < 55296 := by omega
  have q5 : ¬ 57344 ≤ n := by omega
  have q6 : n < 64976 := by omega
  have q7 : ¬ 65008 ≤ n := by omega
  have q8 : n < 65534 := by omega
  have e9 : (n == 9) = false := by rw [beq_eq_false_iff_ne]; omega
  have f9 : (n != 9) = true := by rw [bne, e9]; rfl
  have e10 : (n == 10) = false := by rw [beq_eq_false_iff_ne]; omega
  have f10 : (n != 10) = true := by rw [bne, e10]; rfl
  have e12 : (n == 12) = false := by rw [beq_eq_false_iff_ne]; omega
  have f12 : (n != 12) = true := by rw [bne, e12]; rfl
  clear l0
  go_enter Try.func8, Try.ntmps8
  set_option maxRecDepth 8000 in
  go_wp2_with (first
    | (go_at_call 17; refine (unhide HF _).mono ?_; rintro e w1 ⟨rfl, hw1⟩; have HW1 := hide hw1; clear hw1)
    | (go_at_call 12; refine (unhide HA _).mono ?_; rintro e w4 ⟨rfl, hw4⟩; have HW4 := hide hw4; clear hw4))
  go_ret
  exact ⟨rfl, (unhide HW1).trans ((unhide HW4).mono (unhide HW1).size)⟩
set_option maxHeartbeats 1000000 in
theorem right_neg (n : Int) (l0 : n < 0) (w : World) : Calls Try.prog 8 #[.int .i64 n] w fun e w' => e = .returned (.bool true) ∧ Below w.heap.size w w' := by
  have HF : Hid (∀ w, Calls Try.prog 17 #[.int .i64 n] w fun e w' => e = .returned (.tuple #[.int .i32 (65533), .string rngS]) ∧ Below w.heap.size w w') := hide (fun w => by have := number_at n w; unfold NumPost at this; rw [num_rng n (by omega) (.inl l0)] at this; exact this)
  have HA := hide awake_any
  have hfe := rng_full
  have hfn : (rngS.toList != []) = true := by rw [bne, hfe]; rfl
  generalize rngS = fs at HF hfe hfn
  have q0 : n < 0 := by omega
  have q1 : ¬ 32 ≤ n := by omega
  have q2 : n < 127 := by omega
  have q3 : ¬ 160 ≤ n := by omega
  have q4 : n < 55296 := by omega
  have q5 : ¬ 57344 ≤ n := by omega
  have q6 : n < 64976 := by omega
  have q7 : ¬ 65008 ≤ n := by omega
  have q8 : n < 65534 := by omega
  have e9 : (n == 9) = false := by rw [beq_eq_false_iff_ne]; omega
  have f9 : (n != 9) = true := by rw [bne, e9]; rfl
  have e10 : (n == 10) = false := by rw [beq_eq_false_iff_ne]; omega
  have f10 : (n != 10) = true := by rw [bne, e10]; rfl
  have e12 : (n == 12) = false := by rw [beq_eq_false_iff_ne]; omega
  have f12 : (n != 12) = true := by rw [bne, e12]; rfl
  clear l0
  go_enter Try.func8, Try.ntmps8
  set_option maxRecDepth 8000 in
  go_wp2_with (first
    | (go_at_call 17; refine (unhide HF _).mono ?_; rintro e w1 ⟨rfl, hw1⟩; have HW1 := hide hw1; clear hw1)
    | (go_at_call 12; refine (unhide HA _).mono ?_; rintro e w4 ⟨rfl, hw4⟩; have HW4 := hide hw4; clear hw4))
  go_ret
  exact ⟨rfl, (unhide HW1).trans ((unhide HW4).mono (unhide HW1).size)⟩
set_option maxHeartbeats 1000000 in
theorem right_big (n : Int) (l0 : 1114111 < n) (w : World) : Calls Try.prog 8 #[.int .i64 n] w fun e w' => e = .returned (.bool true) ∧ Below w.heap.size w w' := by
  have HF : Hid (∀ w, Calls Try.prog 17 #[.int .i64 n] w fun e w' => e = .returned (.tuple #[.int .i32 (65533), .string rngS]) ∧ Below w.heap.size w w') := hide (fun w => by have := number_at n w; unfold NumPost at this; rw [num_rng n (by omega) (.inr l0)] at this; exact this)
  have HA := hide awake_any
  have hfe := rng_full
  have hfn : (rngS.toList != []) = true := by rw [bne, hfe]; rfl
  generalize rngS = fs at HF hfe hfn
  have q0 : ¬ n < 0 := by omega
  have q1 : 32 ≤ n := by omega
  have q2 : ¬ n < 127 := by omega
  have q3 : 160 ≤ n := by omega
  have q4 : ¬ n < 55296 := by omega
  have q5 : 57344 ≤ n := by omega
  have q6 : ¬ n < 64976 := by omega
  have q7 : 65008 ≤ n := by omega
  have q8 : ¬ n < 65534 := by omega
  have e9 : (n == 9) = false := by rw [beq_eq_false_iff_ne]; omega
  have f9 : (n != 9) = true := by rw [bne, e9]; rfl
  have e10 : (n == 10) = false := by rw [beq_eq_false_iff_ne]; omega
  have f10 : (n != 10) = true := by rw [bne, e10]; rfl
  have e12 : (n == 12) = false := by rw [beq_eq_false_iff_ne]; omega
  have f12 : (n != 12) = true := by rw [bne, e12]; rfl
  clear l0
  go_enter Try.func8, Try.ntmps8
  set_option maxRecDepth 8000 in
  go_wp2_with (first
    | (go_at_call 17; refine (unhide HF _).mono ?_; rintro e w1 ⟨rfl, hw1⟩; have HW1 := hide hw1; clear hw1)
    | (go_at_call 12; refine (unhide HA _).mono ?_; rintro e w4 ⟨rfl, hw4⟩; have HW4 := hide hw4; clear hw4))
  go_ret
  exact ⟨rfl, (unhide HW1).trans ((unhide HW4).mono (unhide HW1).size)⟩
set_option maxHeartbeats 1000000 in
theorem right_sur (n : Int) (l0 : 55296 ≤ n) (l1 : n ≤ 57343) (w : World) : Calls Try.prog 8 #[.int .i64 n] w fun e w' => e = .returned (.bool true) ∧ Below w.heap.size w w' := by
  have HF : Hid (∀ w, Calls Try.prog 17 #[.int .i64 n] w fun e w' => e = .returned (.tuple #[.int .i32 (65533), .string surS]) ∧ Below w.heap.size w w') := hide (fun w => by have := number_at n w; unfold NumPost at this; rw [num_sur n l0 l1] at this; exact this)
  have HA := hide awake_any
  have hfe := sur_full
  have hfn : (surS.toList != []) = true := by rw [bne, hfe]; rfl
  generalize surS = fs at HF hfe hfn
  have q0 : ¬ n < 0 := by omega
  have q1 : 32 ≤ n := by omega
  have q2 : ¬ n < 127 := by omega
  have q3 : 160 ≤ n := by omega
  have q4 : ¬ n < 55296 := by omega
  have q5 : ¬ 57344 ≤ n := by omega
  have q6 : n < 64976 := by omega
  have q7 : ¬ 65008 ≤ n := by omega
  have q8 : n < 65534 := by omega
  have e9 : (n == 9) = false := by rw [beq_eq_false_iff_ne]; omega
  have f9 : (n != 9) = true := by rw [bne, e9]; rfl
  have e10 : (n == 10) = false := by rw [beq_eq_false_iff_ne]; omega
  have f10 : (n != 10) = true := by rw [bne, e10]; rfl
  have e12 : (n == 12) = false := by rw [beq_eq_false_iff_ne]; omega
  have f12 : (n != 12) = true := by rw [bne, e12]; rfl
  clear l0 l1
  go_enter Try.func8, Try.ntmps8
  set_option maxRecDepth 8000 in
  go_wp2_with (first
    | (go_at_call 17; refine (unhide HF _).mono ?_; rintro e w1 ⟨rfl, hw1⟩; have HW1 := hide hw1; clear hw1)
    | (go_at_call 12; refine (unhide HA _).mono ?_; rintro e w4 ⟨rfl, hw4⟩; have HW4 := hide hw4; clear hw4))
  go_ret
  exact ⟨rfl, (unhide HW1).trans ((unhide HW4).mono (unhide HW1).size)⟩
set_option maxHeartbeats 1000000 in
theorem right_la (n : Int) (l0 : n = 9) (w : World) : Calls Try.prog 8 #[.int .i64 n] w fun e w' => e = .returned (.bool true) ∧ Below w.heap.size w w' := by
  have HF : Hid (∀ w, Calls Try.prog 17 #[.int .i64 n] w fun e w' => e = .returned (.tuple #[.int .i32 (n), .string okS]) ∧ Below w.heap.size w w') := hide (fun w => by have := number_at n w; unfold NumPost at this; rw [num_ok n (by omega) (by omega) (by omega) (false_of (fun h => by have := noncB_iff.1 h; omega)) (false_of (fun h => by have := ctrlB_iff.1 h; omega))] at this; exact this)
  have HA := hide awake_any
  have hfe : (okS.toList == []) = true := by rw [ok_empty]; rfl
  have hfn : (okS.toList != []) = false := by rw [bne, hfe]; rfl
  generalize okS = fs at HF hfe hfn
  have hw64 : IntKind.i64.wrap n = n := by rw [IntKind.wrap_i64]; omega
  have hnn : (n == n) = true := beq_self_eq_true _
  have g0 : ¬ n < 0 := by omega
  have g1 : ¬ 1114111 < n := by omega
  have g2 : ¬ 55296 ≤ n := by omega
  have g3 : n ≤ 57343 := by omega
  have q0 : ¬ 32 ≤ n := by omega
  have q1 : n < 127 := by omega
  have q2 : ¬ 160 ≤ n := by omega
  have q3 : n < 55296 := by omega
  have q4 : ¬ 57344 ≤ n := by omega
  have q5 : n < 64976 := by omega
  have q6 : ¬ 65008 ≤ n := by omega
  have q7 : n < 65534 := by omega
  have e9 : (n == 9) = true := by rw [beq_iff_eq]; omega
  have f9 : (n != 9) = false := by rw [bne, e9]; rfl
  have e10 : (n == 10) = false := by rw [beq_eq_false_iff_ne]; omega
  have f10 : (n != 10) = true := by rw [bne, e10]; rfl
  have e12 : (n == 12) = false := by rw [beq_eq_false_iff_ne]; omega
  have f12 : (n != 12) = true := by rw [bne, e12]; rfl
  clear l0
  go_enter Try.func8, Try.ntmps8
  set_option maxRecDepth 8000 in
  go_wp2_with (first
    | (go_at_call 17; refine (unhide HF _).mono ?_; rintro e w1 ⟨rfl, hw1⟩; have HW1 := hide hw1; clear hw1)
    | (go_at_call 12; refine (unhide HA _).mono ?_; rintro e w4 ⟨rfl, hw4⟩; have HW4 := hide hw4; clear hw4))
  go_ret
  exact ⟨rfl, (unhide HW1).trans ((unhide HW4).mono (unhide HW1).size)⟩
set_option maxHeartbeats 1000000 in
theorem right_lb (n : Int) (l0 : n = 10) (w : World) : Calls Try.prog 8 #[.int .i64 n] w fun e w' => e = .returned (.bool true) ∧ Below w.heap.size w w' := by
  have HF : Hid (∀ w, Calls Try.prog 17 #[.int .i64 n] w fun e w' => e = .returned (.tuple #[.int .i32 (n), .string okS]) ∧ Below w.heap.size w w') := hide (fun w => by have := number_at n w; unfold NumPost at this; rw [num_ok n (by omega) (by omega) (by omega) (false_of (fun h => by have := noncB_iff.1 h; omega)) (false_of (fun h => by have := ctrlB_iff.1 h; omega))] at this; exact this)
  have HA := hide awake_any
  have hfe : (okS.toList == []) = true := by rw [ok_empty]; rfl
  have hfn : (okS.toList != []) = false := by rw [bne, hfe]; rfl
  generalize okS = fs at HF hfe hfn
  have hw64 : IntKind.i64.wrap n = n := by rw [IntKind.wrap_i64]; omega
  have hnn : (n == n) = true := beq_self_eq_true _
  have g0 : ¬ n < 0 := by omega
  have g1 : ¬ 1114111 < n := by omega
  have g2 : ¬ 55296 ≤ n := by omega
  have g3 : n ≤ 57343 := by omega
  have q0 : ¬ 32 ≤ n := by omega
  have q1 : n < 127 := by omega
  have q2 : ¬ 160 ≤ n := by omega
  have q3 : n < 55296 := by omega
  have q4 : ¬ 57344 ≤ n := by omega
  have q5 : n < 64976 := by omega
  have q6 : ¬ 65008 ≤ n := by omega
  have q7 : n < 65534 := by omega
  have e9 : (n == 9) = false := by rw [beq_eq_false_iff_ne]; omega
  have f9 : (n != 9) = true := by rw [bne, e9]; rfl
  have e10 : (n == 10) = true := by rw [beq_iff_eq]; omega
  have f10 : (n != 10) = false := by rw [bne, e10]; rfl
  have e12 : (n == 12) = false := by rw [beq_eq_false_iff_ne]; omega
  have f12 : (n != 12) = true := by rw [bne, e12]; rfl
  clear l0
  go_enter Try.func8, Try.ntmps8
  set_option maxRecDepth 8000 in
  go_wp2_with (first
    | (go_at_call 17; refine (unhide HF _).mono ?_; rintro e w1 ⟨rfl, hw1⟩; have HW1 := hide hw1; clear hw1)
    | (go_at_call 12; refine (unhide HA _).mono ?_; rintro e w4 ⟨rfl, hw4⟩; have HW4 := hide hw4; clear hw4))
  go_ret
  exact ⟨rfl, (unhide HW1).trans ((unhide HW4).mono (unhide HW1).size)⟩
set_option maxHeartbeats 1000000 in
theorem right_lc (n : Int) (l0 : n = 12) (w : World) : Calls Try.prog 8 #[.int .i64 n] w fun e w' => e = .returned (.bool true) ∧ Below w.heap.size w w' := by
  have HF : Hid (∀ w, Calls Try.prog 17 #[.int .i64 n] w fun e w' => e = .returned (.tuple #[.int .i32 (n), .string okS]) ∧ Below w.heap.size w w') := hide (fun w => by have := number_at n w; unfold NumPost at this; rw [num_ok n (by omega) (by omega) (by omega) (false_of (fun h => by have := noncB_iff.1 h; omega)) (false_of (fun h => by have := ctrlB_iff.1 h; omega))] at this; exact this)
  have HA := hide awake_any
  have hfe : (okS.toList == []) = true := by rw [ok_empty]; rfl
  have hfn : (okS.toList != []) = false := by rw [bne, hfe]; rfl
  generalize okS = fs at HF hfe hfn
  have hw64 : IntKind.i64.wrap n = n := by rw [IntKind.wrap_i64]; omega
  have hnn : (n == n) = true := beq_self_eq_true _
  have g0 : ¬ n < 0 := by omega
  have g1 : ¬ 1114111 < n := by omega
  have g2 : ¬ 55296 ≤ n := by omega
  have g3 : n ≤ 57343 := by omega
  have q0 : ¬ 32 ≤ n := by omega
  have q1 : n < 127 := by omega
  have q2 : ¬ 160 ≤ n := by omega
  have q3 : n < 55296 := by omega
  have q4 : ¬ 57344 ≤ n := by omega
  have q5 : n < 64976 := by omega
  have q6 : ¬ 65008 ≤ n := by omega
  have q7 : n < 65534 := by omega
  have e9 : (n == 9) = false := by rw [beq_eq_false_iff_ne]; omega
  have f9 : (n != 9) = true := by rw [bne, e9]; rfl
  have e10 : (n == 10) = false := by rw [beq_eq_false_iff_ne]; omega
  have f10 : (n != 10) = true := by rw [bne, e10]; rfl
  have e12 : (n == 12) = true := by rw [beq_iff_eq]; omega
  have f12 : (n != 12) = false := by rw [bne, e12]; rfl
  clear l0
  go_enter Try.func8, Try.ntmps8
  set_option maxRecDepth 8000 in
  go_wp2_with (first
    | (go_at_call 17; refine (unhide HF _).mono ?_; rintro e w1 ⟨rfl, hw1⟩; have HW1 := hide hw1; clear hw1)
    | (go_at_call 12; refine (unhide HA _).mono ?_; rintro e w4 ⟨rfl, hw4⟩; have HW4 := hide hw4; clear hw4))
  go_ret
  exact ⟨rfl, (unhide HW1).trans ((unhide HW4).mono (unhide HW1).size)⟩
set_option maxHeartbeats 1000000 in
theorem right_ld (n : Int) (l0 : 0 < n) (l1 : n < 32) (l2 : n ≠ 9) (l3 : n ≠ 10) (l4 : n ≠ 12) (w : World) : Calls Try.prog 8 #[.int .i64 n] w fun e w' => e = .returned (.bool true) ∧ Below w.heap.size w w' := by
  have HF : Hid (∀ w, Calls Try.prog 17 #[.int .i64 n] w fun e w' => e = .returned (.tuple #[.int .i32 ((othM n).getD n), .string ctlS]) ∧ Below w.heap.size w w') := hide (fun w => by have := number_at n w; unfold NumPost at this; rw [num_ctl n (by omega) (by omega) (by omega) (false_of (fun h => by have := noncB_iff.1 h; omega)) (ctrlB_iff.2 (by omega))] at this; exact this)
  have HA := hide awake_any
  have hfe := ctl_full
  have hfn : (ctlS.toList != []) = true := by rw [bne, hfe]; rfl
  generalize ctlS = fs at HF hfe hfn
  have hor := oth_range n (by omega) (by omega)
  generalize (othM n).getD n = r at HF hor
  have g0 : ¬ r < 0 := by omega
  have g1 : ¬ 1114111 < r := by omega
  have g2 : ¬ 55296 ≤ r := by omega
  have q0 : ¬ n < 0 := by omega
  have q1 : ¬ 32 ≤ n := by omega
  have q2 : n < 127 := by omega
  have q3 : ¬ 160 ≤ n := by omega
  have q4 : n < 55296 := by omega
  have q5 : ¬ 57344 ≤ n := by omega
  have q6 : n < 64976 := by omega
  have q7 : ¬ 65008 ≤ n := by omega
  have q8 : n < 65534 := by omega
  have e9 : (n == 9) = false := by rw [beq_eq_false_iff_ne]; omega
  have f9 : (n != 9) = true := by rw [bne, e9]; rfl
  have e10 : (n == 10) = false := by rw [beq_eq_false_iff_ne]; omega
  have f10 : (n != 10) = true := by rw [bne, e10]; rfl
  have e12 : (n == 12) = false := by rw [beq_eq_false_iff_ne]; omega
  have f12 : (n != 12) = true := by rw [bne, e12]; rfl
  clear l0 l1 l2 l3 l4 hor
  go_enter Try.func8, Try.ntmps8
  set_option maxRecDepth 8000 in
  go_wp2_with (first
    | (go_at_call 17; refine (unhide HF _).mono ?_; rintro e w1 ⟨rfl, hw1⟩; have HW1 := hide hw1; clear hw1)
    | (go_at_call 12; refine (unhide HA _).mono ?_; rintro e w4 ⟨rfl, hw4⟩; have HW4 := hide hw4; clear hw4))
  go_ret
  exact ⟨rfl, (unhide HW1).trans ((unhide HW4).mono (unhide HW1).size)⟩
set_option maxHeartbeats 1000000 in
theorem right_le (n : Int) (l0 : 32 ≤ n) (l1 : n < 127) (w : World) : Calls Try.prog 8 #[.int .i64 n] w fun e w' => e = .returned (.bool true) ∧ Below w.heap.size w w' := by
  have HF : Hid (∀ w, Calls Try.prog 17 #[.int .i64 n] w fun e w' => e = .returned (.tuple #[.int .i32 (n), .string okS]) ∧ Below w.heap.size w w') := hide (fun w => by have := number_at n w; unfold NumPost at this; rw [num_ok n (by omega) (by omega) (by omega) (false_of (fun h => by have := noncB_iff.1 h; omega)) (false_of (fun h => by have := ctrlB_iff.1 h; omega))] at this; exact this)
  have HA := hide awake_any
  have hfe : (okS.toList == []) = true := by rw [ok_empty]; rfl
  have hfn : (okS.toList != []) = false := by rw [bne, hfe]; rfl
  generalize okS = fs at HF hfe hfn
  have hw64 : IntKind.i64.wrap n = n := by rw [IntKind.wrap_i64]; omega
  have hnn : (n == n) = true := beq_self_eq_true _
  have g0 : ¬ n < 0 := by omega
  have g1 : ¬ 1114111 < n := by omega
  have g2 : ¬ 55296 ≤ n := by omega
  have g3 : n ≤ 57343 := by omega
  have q0 : 32 ≤ n := by omega
  have q1 : n < 127 := by omega
  have q2 : ¬ 160 ≤ n := by omega
  have q3 : n < 55296 := by omega
  have q4 : ¬ 57344 ≤ n := by omega
  have q5 : n < 64976 := by omega
  have q6 : ¬ 65008 ≤ n := by omega
  have q7 : n < 65534 := by omega
  have e9 : (n == 9) = false := by rw [beq_eq_false_iff_ne]; omega
  have f9 : (n != 9) = true := by rw [bne, e9]; rfl
  have e10 : (n == 10) = false := by rw [beq_eq_false_iff_ne]; omega
  have f10 : (n != 10) = true := by rw [bne, e10]; rfl
  have e12 : (n == 12) = false := by rw [beq_eq_false_iff_ne]; omega
  have f12 : (n != 12) = true := by rw [bne, e12]; rfl
  clear l0 l1
  go_enter Try.func8, Try.ntmps8
  set_option maxRecDepth 8000 in
  go_wp2_with (first
    | (go_at_call 17; refine (unhide HF _).mono ?_; rintro e w1 ⟨rfl, hw1⟩; have HW1 := hide hw1; clear hw1)
    | (go_at_call 12; refine (unhide HA _).mono ?_; rintro e w4 ⟨rfl, hw4⟩; have HW4 := hide hw4; clear hw4))
  go_ret
  exact ⟨rfl, (unhide HW1).trans ((unhide HW4).mono (unhide HW1).size)⟩
set_option maxHeartbeats 1000000 in
theorem right_lf (n : Int) (l0 : 127 ≤ n) (l1 : n ≤ 159) (w : World) : Calls Try.prog 8 #[.int .i64 n] w fun e w' => e = .returned (.bool true) ∧ Below w.heap.size w w' := by
  have HF : Hid (∀ w, Calls Try.prog 17 #[.int .i64 n] w fun e w' => e = .returned (.tuple #[.int .i32 ((othM n).getD n), .string ctlS]) ∧ Below w.heap.size w w') := hide (fun w => by have := number_at n w; unfold NumPost at this; rw [num_ctl n (by omega) (by omega) (by omega) (false_of (fun h => by have := noncB_iff.1 h; omega)) (ctrlB_iff.2 (by omega))] at this; exact this)
  have HA := hide awake_any
  have hfe := ctl_full
  have hfn : (ctlS.toList != []) = true := by rw [bne, hfe]; rfl
  generalize ctlS = fs at HF hfe hfn
  have hor := oth_range n (by omega) (by omega)
  generalize (othM n).getD n = r at HF hor
  have g0 : ¬ r < 0 := by omega
  have g1 : ¬ 1114111 < r := by omega
  have g2 : ¬ 55296 ≤ r := by omega
  have q0 : ¬ n < 0 := by omega
  have q1 : 32 ≤ n := by omega
  have q2 : ¬ n < 127 := by omega
  have q3 : ¬ 160 ≤ n := by omega
  have q4 : n < 55296 := by omega
  have q5 : ¬ 57344 ≤ n := by omega
  have q6 : n < 64976 := by omega
  have q7 : ¬ 65008 ≤ n := by omega
  have q8 : n < 65534 := by omega
  have e9 : (n == 9) = false := by rw [beq_eq_false_iff_ne]; omega
  have f9 : (n != 9) = true := by rw [bne, e9]; rfl
  have e10 : (n == 10) = false := by rw [beq_eq_false_iff_ne]; omega
  have f10 : (n != 10) = true := by rw [bne, e10]; rfl
  have e12 : (n == 12) = false := by rw [beq_eq_false_iff_ne]; omega
  have f12 : (n != 12) = true := by rw [bne, e12]; rfl
  clear l0 l1 hor
  go_enter Try.func8, Try.ntmps8
  set_option maxRecDepth 8000 in
  go_wp2_with (first
    | (go_at_call 17; refine (unhide HF _).mono ?_; rintro e w1 ⟨rfl, hw1⟩; have HW1 := hide hw1; clear hw1)
    | (go_at_call 12; refine (unhide HA _).mono ?_; rintro e w4 ⟨rfl, hw4⟩; have HW4 := hide hw4; clear hw4))
  go_ret
  exact ⟨rfl, (unhide HW1).trans ((unhide HW4).mono (unhide HW1).size)⟩
set_option maxHeartbeats 1000000 in
theorem right_lg (n : Int) (l0 : 160 ≤ n) (l1 : n < 55296) (w : World) : Calls Try.prog 8 #[.int .i64 n] w fun e w' => e = .returned (.bool true) ∧ Below w.heap.size w w' := by
  have HF : Hid (∀ w, Calls Try.prog 17 #[.int .i64 n] w fun e w' => e = .returned (.tuple #[.int .i32 (n), .string okS]) ∧ Below w.heap.size w w') := hide (fun w => by have := number_at n w; unfold NumPost at this; rw [num_ok n (by omega) (by omega) (by omega) (false_of (fun h => by have := noncB_iff.1 h; omega)) (false_of (fun h => by have := ctrlB_iff.1 h; omega))] at this; exact this)
  have HA := hide awake_any
  have hfe : (okS.toList == []) = true := by rw [ok_empty]; rfl
  have hfn : (okS.toList != []) = false := by rw [bne, hfe]; rfl
  generalize okS = fs at HF hfe hfn
  have hw64 : IntKind.i64.wrap n = n := by rw [IntKind.wrap_i64]; omega
  have hnn : (n == n) = true := beq_self_eq_true _
  have g0 : ¬ n < 0 := by omega
  have g1 : ¬ 1114111 < n := by omega
  have g2 : ¬ 55296 ≤ n := by omega
  have g3 : n ≤ 57343 := by omega
  have q0 : 32 ≤ n := by omega
  have q1 : ¬ n < 127 := by omega
  have q2 : 160 ≤ n := by omega
  have q3 : n < 55296 := by omega
  have q4 : ¬ 57344 ≤ n := by omega
  have q5 : n < 64976 := by omega
  have q6 : ¬ 65008 ≤ n := by omega
  have q7 : n < 65534 := by omega
  have e9 : (n == 9) = false := by rw [beq_eq_false_iff_ne]; omega
  have f9 : (n != 9) = true := by rw [bne, e9]; rfl
  have e10 : (n == 10) = false := by rw [beq_eq_false_iff_ne]; omega
  have f10 : (n != 10) = true := by rw [bne, e10]; rfl
  have e12 : (n == 12) = false := by rw [beq_eq_false_iff_ne]; omega
  have f12 : (n != 12) = true := by rw [bne, e12]; rfl
  clear l0 l1
  go_enter Try.func8, Try.ntmps8
  set_option maxRecDepth 8000 in
  go_wp2_with (first
    | (go_at_call 17; refine (unhide HF _).mono ?_; rintro e w1 ⟨rfl, hw1⟩; have HW1 := hide hw1; clear hw1)
    | (go_at_call 12; refine (unhide HA _).mono ?_; rintro e w4 ⟨rfl, hw4⟩; have HW4 := hide hw4; clear hw4))
  go_ret
  exact ⟨rfl, (unhide HW1).trans ((unhide HW4).mono (unhide HW1).size)⟩
set_option maxHeartbeats 1000000 in
theorem right_non1 (n : Int) (l0 : 57343 < n) (l1 : n ≤ 1114111) (l2 : 65534 ≤ n % 65536) (w : World) : Calls Try.prog 8 #[.int .i64 n] w fun e w' => e = .returned (.bool true) ∧ Below w.heap.size w w' := by
  have HF : Hid (∀ w, Calls Try.prog 17 #[.int .i64 n] w fun e w' => e = .returned (.tuple #[.int .i32 (n), .string nonS]) ∧ Below w.heap.size w w') := hide (fun w => by have := number_at n w; unfold NumPost at this; rw [num_non n (by omega) (by omega) (by omega) (noncB_iff.2 (by omega))] at this; exact this)
  have HA := hide awake_any
  have hfe := non_full
  have hfn : (nonS.toList != []) = true := by rw [bne, hfe]; rfl
  generalize nonS = fs at HF hfe hfn
  have hw64 : IntKind.i64.wrap n = n := by rw [IntKind.wrap_i64]; omega
  have hnn : (n == n) = true := beq_self_eq_true _
  have g0 : ¬ n < 0 := by omega
  have g1 : ¬ 1114111 < n := by omega
  have g2 : 55296 ≤ n := by omega
  have g3 : ¬ n ≤ 57343 := by omega
  have q0 : 32 ≤ n := by omega
  have q1 : ¬ n < 127 := by omega
  have q2 : 160 ≤ n := by omega
  have q3 : ¬ n < 55296 := by omega
  have q4 : 57344 ≤ n := by omega
  have q5 : ¬ n < 64976 := by omega
  have q6 : 65008 ≤ n := by omega
  have q7 : ¬ n < 65534 := by omega
  have e9 : (n == 9) = false := by rw [beq_eq_false_iff_ne]; omega
  have f9 : (n != 9) = true := by rw [bne, e9]; rfl
  have e10 : (n == 10) = false := by rw [beq_eq_false_iff_ne]; omega
  have f10 : (n != 10) = true := by rw [bne, e10]; rfl
  have e12 : (n == 12) = false := by rw [beq_eq_false_iff_ne]; omega
  have f12 : (n != 12) = true := by rw [bne, e12]; rfl
  clear l0 l1 l2
  go_enter Try.func8, Try.ntmps8
  set_option maxRecDepth 8000 in
  go_wp2_with (first
    | (go_at_call 17; refine (unhide HF _).mono ?_; rintro e w1 ⟨rfl, hw1⟩; have HW1 := hide hw1; clear hw1)
    | (go_at_call 12; refine (unhide HA _).mono ?_; rintro e w4 ⟨rfl, hw4⟩; have HW4 := hide hw4; clear hw4))
  go_ret
  exact ⟨rfl, (unhide HW1).trans ((unhide HW4).mono (unhide HW1).size)⟩
set_option maxHeartbeats 1000000 in
theorem right_non2 (n : Int) (l0 : 64976 ≤ n) (l1 : n ≤ 65007) (w : World) : Calls Try.prog 8 #[.int .i64 n] w fun e w' => e = .returned (.bool true) ∧ Below w.heap.size w w' := by
  have HF : Hid (∀ w, Calls Try.prog 17 #[.int .i64 n] w fun e w' => e = .returned (.tuple #[.int .i32 (n), .string nonS]) ∧ Below w.heap.size w w') := hide (fun w => by have := number_at n w; unfold NumPost at this; rw [num_non n (by omega) (by omega) (by omega) (noncB_iff.2 (by omega))] at this; exact this)
  have HA := hide awake_any
  have hfe := non_full
  have hfn : (nonS.toList != []) = true := by rw [bne, hfe]; rfl
  generalize nonS = fs at HF hfe hfn
  have hw64 : IntKind.i64.wrap n = n := by rw [IntKind.wrap_i64]; omega
  have hnn : (n == n) = true := beq_self_eq_true _
  have g0 : ¬ n < 0 := by omega
  have g1 : ¬ 1114111 < n := by omega
  have g2 : 55296 ≤ n := by omega
  have g3 : ¬ n ≤ 57343 := by omega
  have q0 : 32 ≤ n := by omega
  have q1 : ¬ n < 127 := by omega
  have q2 : 160 ≤ n := by omega
  have q3 : ¬ n < 55296 := by omega
  have q4 : 57344 ≤ n := by omega
  have q5 : ¬ n < 64976 := by omega
  have q6 : ¬ 65008 ≤ n := by omega
  have q7 : n < 65534 := by omega
  have e9 : (n == 9) = false := by rw [beq_eq_false_iff_ne]; omega
  have f9 : (n != 9) = true := by rw [bne, e9]; rfl
  have e10 : (n == 10) = false := by rw [beq_eq_false_iff_ne]; omega
  have f10 : (n != 10) = true := by rw [bne, e10]; rfl
  have e12 : (n == 12) = false := by rw [beq_eq_false_iff_ne]; omega
  have f12 : (n != 12) = true := by rw [bne, e12]; rfl
  clear l0 l1
  go_enter Try.func8, Try.ntmps8
  set_option maxRecDepth 8000 in
  go_wp2_with (first
    | (go_at_call 17; refine (unhide HF _).mono ?_; rintro e w1 ⟨rfl, hw1⟩; have HW1 := hide hw1; clear hw1)
    | (go_at_call 12; refine (unhide HA _).mono ?_; rintro e w4 ⟨rfl, hw4⟩; have HW4 := hide hw4; clear hw4))
  go_ret
  exact ⟨rfl, (unhide HW1).trans ((unhide HW4).mono (unhide HW1).size)⟩
set_option maxHeartbeats 1000000 in
theorem right_ok2 (n : Int) (l0 : 65007 < n) (l1 : n < 65534) (w : World) : Calls Try.prog 8 #[.int .i64 n] w fun e w' => e = .returned (.bool true) ∧ Below w.heap.size w w' := by
  have HF : Hid (∀ w, Calls Try.prog 17 #[.int .i64 n] w fun e w' => e = .returned (.tuple #[.int .i32 (n), .string okS]) ∧ Below w.heap.size w w') := hide (fun w => by have := number_at n w; unfold NumPost at this; rw [num_ok n (by omega) (by omega) (by omega) (false_of (fun h => by have := noncB_iff.1 h; omega)) (false_of (fun h => by have := ctrlB_iff.1 h; omega))] at this; exact this)
  have HA := hide awake_any
  have hfe : (okS.toList == []) = true := by rw [ok_empty]; rfl
  have hfn : (okS.toList != []) = false := by rw [bne, hfe]; rfl
  generalize okS = fs at HF hfe hfn
  have hw64 : IntKind.i64.wrap n = n := by rw [IntKind.wrap_i64]; omega
  have hnn : (n == n) = true := beq_self_eq_true _
  have g0 : ¬ n < 0 := by omega
  have g1 : ¬ 1114111 < n := by omega
  have g2 : 55296 ≤ n := by omega
  have g3 : ¬ n ≤ 57343 := by omega
  have q0 : 32 ≤ n := by omega
  have q1 : ¬ n < 127 := by omega
  have q2 : 160 ≤ n := by omega
  have q3 : ¬ n < 55296 := by omega
  have q4 : 57344 ≤ n := by omega
  have q5 : ¬ n < 64976 := by omega
  have q6 : 65008 ≤ n := by omega
  have q7 : n < 65534 := by omega
  have e9 : (n == 9) = false := by rw [beq_eq_false_iff_ne]; omega
  have f9 : (n != 9) = true := by rw [bne, e9]; rfl
  have e10 : (n == 10) = false := by rw [beq_eq_false_iff_ne]; omega
  have f10 : (n != 10) = true := by rw [bne, e10]; rfl
  have e12 : (n == 12) = false := by rw [beq_eq_false_iff_ne]; omega
  have f12 : (n != 12) = true := by rw [bne, e12]; rfl
  clear l0 l1
  go_enter Try.func8, Try.ntmps8
  set_option maxRecDepth 8000 in
  go_wp2_with (first
    | (go_at_call 17; refine (unhide HF _).mono ?_; rintro e w1 ⟨rfl, hw1⟩; have HW1 := hide hw1; clear hw1)
    | (go_at_call 12; refine (unhide HA _).mono ?_; rintro e w4 ⟨rfl, hw4⟩; have HW4 := hide hw4; clear hw4))
  go_ret
  exact ⟨rfl, (unhide HW1).trans ((unhide HW4).mono (unhide HW1).size)⟩
set_option maxHeartbeats 1000000 in
theorem right_ok3 (n : Int) (l0 : 57343 < n) (l1 : n < 64976) (w : World) : Calls Try.prog 8 #[.int .i64 n] w fun e w' => e = .returned (.bool true) ∧ Below w.heap.size w w' := by
  have HF : Hid (∀ w, Calls Try.prog 17 #[.int .i64 n] w fun e w' => e = .returned (.tuple #[.int .i32 (n), .string okS]) ∧ Below w.heap.size w w') := hide (fun w => by have := number_at n w; unfold NumPost at this; rw [num_ok n (by omega) (by omega) (by omega) (false_of (fun h => by have := noncB_iff.1 h; omega)) (false_of (fun h => by have := ctrlB_iff.1 h; omega))] at this; exact this)
  have HA := hide awake_any
  have hfe : (okS.toList == []) = true := by rw [ok_empty]; rfl
  have hfn : (okS.toList != []) = false := by rw [bne, hfe]; rfl
  generalize okS = fs at HF hfe hfn
  have hw64 : IntKind.i64.wrap n = n := by rw [IntKind.wrap_i64]; omega
  have hnn : (n == n) = true := beq_self_eq_true _
  have g0 : ¬ n < 0 := by omega
  have g1 : ¬ 1114111 < n := by omega
  have g2 : 55296 ≤ n := by omega
  have g3 : ¬ n ≤ 57343 := by omega
  have q0 : 32 ≤ n := by omega
  have q1 : ¬ n < 127 := by omega
  have q2 : 160 ≤ n := by omega
  have q3 : ¬ n < 55296 := by omega
  have q4 : 57344 ≤ n := by omega
  have q5 : n < 64976 := by omega
  have q6 : ¬ 65008 ≤ n := by omega
  have q7 : n < 65534 := by omega
  have e9 : (n == 9) = false := by rw [beq_eq_false_iff_ne]; omega
  have f9 : (n != 9) = true := by rw [bne, e9]; rfl
  have e10 : (n == 10) = false := by rw [beq_eq_false_iff_ne]; omega
  have f10 : (n != 10) = true := by rw [bne, e10]; rfl
  have e12 : (n == 12) = false := by rw [beq_eq_false_iff_ne]; omega
  have f12 : (n != 12) = true := by rw [bne, e12]; rfl
  clear l0 l1
  go_enter Try.func8, Try.ntmps8
  set_option maxRecDepth 8000 in
  go_wp2_with (first
    | (go_at_call 17; refine (unhide HF _).mono ?_; rintro e w1 ⟨rfl, hw1⟩; have HW1 := hide hw1; clear hw1)
    | (go_at_call 12; refine (unhide HA _).mono ?_; rintro e w4 ⟨rfl, hw4⟩; have HW4 := hide hw4; clear hw4))
  go_ret
  exact ⟨rfl, (unhide HW1).trans ((unhide HW4).mono (unhide HW1).size)⟩
set_option maxHeartbeats 1000000 in
theorem right_ok4 (n : Int) (l0 : 65534 ≤ n) (l1 : n ≤ 1114111) (l2 : n % 65536 < 65534) (w : World) : Calls Try.prog 8 #[.int .i64 n] w fun e w' => e = .returned (.bool true) ∧ Below w.heap.size w w' := by
  have HF : Hid (∀ w, Calls Try.prog 17 #[.int .i64 n] w fun e w' => e = .returned (.tuple #[.int .i32 (n), .string okS]) ∧ Below w.heap.size w w') := hide (fun w => by have := number_at n w; unfold NumPost at this; rw [num_ok n (by omega) (by omega) (by omega) (false_of (fun h => by have := noncB_iff.1 h; omega)) (false_of (fun h => by have := ctrlB_iff.1 h; omega))] at this; exact this)
  have HA := hide awake_any
  have hfe : (okS.toList == []) = true := by rw [ok_empty]; rfl
  have hfn : (okS.toList != []) = false := by rw [bne, hfe]; rfl
  generalize okS = fs at HF hfe hfn
  have hw64 : IntKind.i64.wrap n = n := by rw [IntKind.wrap_i64]; omega
  have hnn : (n == n) = true := beq_self_eq_true _
  have g0 : ¬ n < 0 := by omega
  have g1 : ¬ 1114111 < n := by omega
  have g2 : 55296 ≤ n := by omega
  have g3 : ¬ n ≤ 57343 := by omega
  have q0 : 32 ≤ n := by omega
  have q1 : ¬ n < 127 := by omega
  have q2 : 160 ≤ n := by omega
  have q3 : ¬ n < 55296 := by omega
  have q4 : 57344 ≤ n := by omega
  have q5 : ¬ n < 64976 := by omega
  have q6 : 65008 ≤ n := by omega
  have q7 : ¬ n < 65534 := by omega
  have e9 : (n == 9) = false := by rw [beq_eq_false_iff_ne]; omega
  have f9 : (n != 9) = true := by rw [bne, e9]; rfl
  have e10 : (n == 10) = false := by rw [beq_eq_false_iff_ne]; omega
  have f10 : (n != 10) = true := by rw [bne, e10]; rfl
  have e12 : (n == 12) = false := by rw [beq_eq_false_iff_ne]; omega
  have f12 : (n != 12) = true := by rw [bne, e12]; rfl
  clear l0 l1 l2
  go_enter Try.func8, Try.ntmps8
  set_option maxRecDepth 8000 in
  go_wp2_with (first
    | (go_at_call 17; refine (unhide HF _).mono ?_; rintro e w1 ⟨rfl, hw1⟩; have HW1 := hide hw1; clear hw1)
    | (go_at_call 12; refine (unhide HA _).mono ?_; rintro e w4 ⟨rfl, hw4⟩; have HW4 := hide hw4; clear hw4))
  go_ret
  exact ⟨rfl, (unhide HW1).trans ((unhide HW4).mono (unhide HW1).size)⟩
theorem right_any (n : Int) (w : World) : Calls Try.prog 8 #[.int .i64 n] w fun e w' => e = .returned (.bool true) ∧ Below w.heap.size w w' := by
  by_cases h0 : n = 0
  · exact right_nul n h0 w
  by_cases h1 : n < 0
  · exact right_neg n h1 w
  by_cases h2 : 1114111 < n
  · exact right_big n h2 w
  by_cases h3 : n < 55296
  · by_cases a1 : n = 9
    · exact right_la n a1 w
    by_cases a2 : n = 10
    · exact right_lb n a2 w
    by_cases a3 : n = 12
    · exact right_lc n a3 w
    by_cases a4 : n < 32
    · exact right_ld n (by omega) a4 a1 a2 a3 w
    by_cases a5 : n < 127
    · exact right_le n (by omega) a5 w
    by_cases a6 : n ≤ 159
    · exact right_lf n (by omega) a6 w
    · exact right_lg n (by omega) h3 w
  by_cases h4 : n ≤ 57343
  · exact right_sur n (by omega) h4 w
  by_cases h5 : 65534 ≤ n % 65536
  · exact right_non1 n (by omega) (by omega) h5 w
  by_cases h6 : n < 64976
  · exact right_ok3 n (by omega) h6 w
  by_cases h7 : n ≤ 65007
  · exact right_non2 n (by omega) h7 w
  by_cases h8 : n < 65534
  · exact right_ok2 n (by omega) h8 w
  · exact right_ok4 n (by omega) (by omega) (by omega) w
theorem entityRight_walk (n : Int) (w : World) : Calls Try.prog 8 #[.int .i64 n] w fun e w' => e = .returned (.bool true) ∧ Below w.heap.size w w' := right_any n w
end Go.Proofs.Ytdhknaiggnafnaa
