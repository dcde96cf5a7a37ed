/-
  Package edit's fitsDocument, of a node by itself.
-/
import Derived.Test.YtnclnijlpchdnaaGreatE0
namespace Go.Proofs.YtnclnijlpchdnaaGreat
open Go.RowKit

section
variable {b : Int}

set_option maxHeartbeats 2000000 in
theorem fds_text {w : World} {bA : Nat} {os : List OneM} (hq : Asks w bA os b) (i : Int) :
    Calls Tryz.prog 98 #[.pointer (some ⟨bA, 0, none⟩), .iface 120 (.agg #[.int .i64 i, .int .i64 2]), .int .i64 b] w fun e w' => e = .returned (.bool false) ∧ Below w.heap.size w w' := by
  have HQ := hide hq
  have HBC := hide (Below.refl w.heap.size w)
  have hm1 : ∀ (w : World), (method 267 120 (.agg #[.int .i64 i, .int .i64 2]) "hornbeam/edit.kind").run Tryz.prog w = .ok (143, (.agg #[.int .i64 i, .int .i64 2])) w := fun _ => by kernel_rfl
  have hm2 : ∀ (w : World), (method 267 120 (.agg #[.int .i64 i, .int .i64 2]) "hornbeam/edit.brings").run Tryz.prog w = .ok (142, (.agg #[.int .i64 i, .int .i64 2])) w := fun _ => by kernel_rfl
  have HS2 : Hid (∀ W, Calls Tryz.prog 142 #[.agg #[.int .i64 i, .int .i64 2], .int .i64 2] W fun e w' => e = .returned (.int .i64 1) ∧ Below W.heap.size W w') := hide (fun W => by have := sBrings i 2 2 W; rw [if_pos rfl] at this; exact this)
  have HS1 : Hid (∀ W, Calls Tryz.prog 142 #[.agg #[.int .i64 i, .int .i64 2], .int .i64 1] W fun e w' => e = .returned (.int .i64 0) ∧ Below W.heap.size W w') := hide (fun W => by have := sBrings i 2 1 W; rw [if_neg (by omega)] at this; exact this)
  clear hq
  go_enter Tryz.func98, Tryz.ntmps98
  set_option maxRecDepth 10000 in
  go_wp2_with (first
    | (go_at_call 142; first | (refine ((unhide HS2) _).mono ?_; rintro e w1 ⟨rfl, hb⟩; have HBC := hide ((unhide HBC).trans (hb.mono (unhide HBC).size)); clear hb) | (refine ((unhide HS1) _).mono ?_; rintro e w1 ⟨rfl, hb⟩; have HBC := hide ((unhide HBC).trans (hb.mono (unhide HBC).size)); clear hb))
    | (go_at_call 143; refine (sKind _ _ _).mono ?_; rintro e w1 ⟨rfl, hb⟩; have HBC := hide ((unhide HBC).trans (hb.mono (unhide HBC).size)); clear hb))
  go_ret
  exact ⟨rfl, unhide HBC⟩

set_option maxHeartbeats 2000000 in
theorem fds_other {w : World} {bA : Nat} {os : List OneM} (hq : Asks w bA os b) (i kd : Int) (h2 : kd ≠ 2) (h1 : kd ≠ 1) (h4 : kd ≠ 4) (h5 : kd ≠ 5) :
    Calls Tryz.prog 98 #[.pointer (some ⟨bA, 0, none⟩), .iface 120 (.agg #[.int .i64 i, .int .i64 kd]), .int .i64 b] w fun e w' => e = .returned (.bool true) ∧ Below w.heap.size w w' := by
  have HQ := hide hq
  have HBC := hide (Below.refl w.heap.size w)
  have hm1 : ∀ (w : World), (method 267 120 (.agg #[.int .i64 i, .int .i64 kd]) "hornbeam/edit.kind").run Tryz.prog w = .ok (143, (.agg #[.int .i64 i, .int .i64 kd])) w := fun _ => by kernel_rfl
  have hm2 : ∀ (w : World), (method 267 120 (.agg #[.int .i64 i, .int .i64 kd]) "hornbeam/edit.brings").run Tryz.prog w = .ok (142, (.agg #[.int .i64 i, .int .i64 kd])) w := fun _ => by kernel_rfl
  have HS2 : Hid (∀ W, Calls Tryz.prog 142 #[.agg #[.int .i64 i, .int .i64 kd], .int .i64 2] W fun e w' => e = .returned (.int .i64 0) ∧ Below W.heap.size W w') := hide (fun W => by have := sBrings i kd 2 W; rw [if_neg h2] at this; exact this)
  have HS1 : Hid (∀ W, Calls Tryz.prog 142 #[.agg #[.int .i64 i, .int .i64 kd], .int .i64 1] W fun e w' => e = .returned (.int .i64 0) ∧ Below W.heap.size W w') := hide (fun W => by have := sBrings i kd 1 W; rw [if_neg h1] at this; exact this)
  have e5 : (kd == 5) = false := by simpa using h5
  have e1 : (kd == 1) = false := by simpa using h1
  have e4 : (kd == 4) = false := by simpa using h4
  clear hq
  go_enter Tryz.func98, Tryz.ntmps98
  set_option maxRecDepth 10000 in
  go_wp2_with (first
    | (go_at_call 142; first | (refine ((unhide HS2) _).mono ?_; rintro e w1 ⟨rfl, hb⟩; have HBC := hide ((unhide HBC).trans (hb.mono (unhide HBC).size)); clear hb) | (refine ((unhide HS1) _).mono ?_; rintro e w1 ⟨rfl, hb⟩; have HBC := hide ((unhide HBC).trans (hb.mono (unhide HBC).size)); clear hb))
    | (go_at_call 143; refine (sKind _ _ _).mono ?_; rintro e w1 ⟨rfl, hb⟩; have HBC := hide ((unhide HBC).trans (hb.mono (unhide HBC).size)); clear hb))
  go_ret
  exact ⟨rfl, unhide HBC⟩

set_option maxHeartbeats 2000000 in
theorem fds_elem_a {w : World} {bA : Nat} {os : List OneM} (hq : Asks w bA os b) (i : Int) (p : Nat) (hp : cntO os (aheadO os b) [1] = p) (h0 : p ≠ 0) :
    Calls Tryz.prog 98 #[.pointer (some ⟨bA, 0, none⟩), .iface 120 (.agg #[.int .i64 i, .int .i64 1]), .int .i64 b] w fun e w' => e = .returned (.bool false) ∧ Below w.heap.size w w' := by
  have HQ := hide hq
  have HBC := hide (Below.refl w.heap.size w)
  have hm1 : ∀ (w : World), (method 267 120 (.agg #[.int .i64 i, .int .i64 1]) "hornbeam/edit.kind").run Tryz.prog w = .ok (143, (.agg #[.int .i64 i, .int .i64 1])) w := fun _ => by kernel_rfl
  have hm2 : ∀ (w : World), (method 267 120 (.agg #[.int .i64 i, .int .i64 1]) "hornbeam/edit.brings").run Tryz.prog w = .ok (142, (.agg #[.int .i64 i, .int .i64 1])) w := fun _ => by kernel_rfl
  have HS2 : Hid (∀ W, Calls Tryz.prog 142 #[.agg #[.int .i64 i, .int .i64 1], .int .i64 2] W fun e w' => e = .returned (.int .i64 0) ∧ Below W.heap.size W w') := hide (fun W => by have := sBrings i 1 2 W; rw [if_neg (by omega)] at this; exact this)
  have HS1 : Hid (∀ W, Calls Tryz.prog 142 #[.agg #[.int .i64 i, .int .i64 1], .int .i64 1] W fun e w' => e = .returned (.int .i64 1) ∧ Below W.heap.size W w') := hide (fun W => by have := sBrings i 1 1 W; rw [if_pos rfl] at this; exact this)
  have z1 : ((p : Int) == 0) = false := by simpa using h0
  clear hq
  go_enter Tryz.func98, Tryz.ntmps98
  set_option maxRecDepth 10000 in
  go_wp2_with (first
    | (go_at_call 142; first | (refine ((unhide HS2) _).mono ?_; rintro e w1 ⟨rfl, hb⟩; have HBC := hide ((unhide HBC).trans (hb.mono (unhide HBC).size)); clear hb) | (refine ((unhide HS1) _).mono ?_; rintro e w1 ⟨rfl, hb⟩; have HBC := hide ((unhide HBC).trans (hb.mono (unhide HBC).size)); clear hb))
    | (go_at_call 143; refine (sKind _ _ _).mono ?_; rintro e w1 ⟨rfl, hb⟩; have HBC := hide ((unhide HBC).trans (hb.mono (unhide HBC).size)); clear hb)
    | (go_at_call 112; refine ((unhide HQ).around _ (unhide HBC)).mono ?_; rintro e w3 ⟨a1, c1, a2, c2, rfl, i1, i2, hb3⟩; have HI1 := hide i1; have HI2 := hide i2; have HB3 := hide hb3; have HBC := hide hb3; clear i1 i2 hb3)
    | (have _x := unhide HB3; go_at_call 49; refine ((unhide HQ).a1 _ _ _ _ (unhide HB3) (unhide HI1)).mono ?_; rw [hp]; rintro e w4 ⟨rfl, hb4⟩; have HB4 := hide hb4; clear hb4))
  go_ret
  exact ⟨rfl, (unhide HB3).trans ((unhide HB4).mono (unhide HB3).size)⟩

set_option maxHeartbeats 2000000 in
theorem fds_elem_b {w : World} {bA : Nat} {os : List OneM} (hq : Asks w bA os b) (i : Int) (p q : Nat) (hp : cntO os (aheadO os b) [1] = p) (h0 : p = 0) (hq2 : cntO os (behindO os b) [1, 4] = q) (h1 : q ≠ 0) :
    Calls Tryz.prog 98 #[.pointer (some ⟨bA, 0, none⟩), .iface 120 (.agg #[.int .i64 i, .int .i64 1]), .int .i64 b] w fun e w' => e = .returned (.bool false) ∧ Below w.heap.size w w' := by
  have HQ := hide hq
  have HBC := hide (Below.refl w.heap.size w)
  have hm1 : ∀ (w : World), (method 267 120 (.agg #[.int .i64 i, .int .i64 1]) "hornbeam/edit.kind").run Tryz.prog w = .ok (143, (.agg #[.int .i64 i, .int .i64 1])) w := fun _ => by kernel_rfl
  have hm2 : ∀ (w : World), (method 267 120 (.agg #[.int .i64 i, .int .i64 1]) "hornbeam/edit.brings").run Tryz.prog w = .ok (142, (.agg #[.int .i64 i, .int .i64 1])) w := fun _ => by kernel_rfl
  have HS2 : Hid (∀ W, Calls Tryz.prog 142 #[.agg #[.int .i64 i, .int .i64 1], .int .i64 2] W fun e w' => e = .returned (.int .i64 0) ∧ Below W.heap.size W w') := hide (fun W => by have := sBrings i 1 2 W; rw [if_neg (by omega)] at this; exact this)
  have HS1 : Hid (∀ W, Calls Tryz.prog 142 #[.agg #[.int .i64 i, .int .i64 1], .int .i64 1] W fun e w' => e = .returned (.int .i64 1) ∧ Below W.heap.size W w') := hide (fun W => by have := sBrings i 1 1 W; rw [if_pos rfl] at this; exact this)
  subst h0
  have z1 : ((q : Int) == 0) = false := by simpa using h1
  clear hq
  go_enter Tryz.func98, Tryz.ntmps98
  set_option maxRecDepth 10000 in
  go_wp2_with (first
    | (go_at_call 142; first | (refine ((unhide HS2) _).mono ?_; rintro e w1 ⟨rfl, hb⟩; have HBC := hide ((unhide HBC).trans (hb.mono (unhide HBC).size)); clear hb) | (refine ((unhide HS1) _).mono ?_; rintro e w1 ⟨rfl, hb⟩; have HBC := hide ((unhide HBC).trans (hb.mono (unhide HBC).size)); clear hb))
    | (go_at_call 143; refine (sKind _ _ _).mono ?_; rintro e w1 ⟨rfl, hb⟩; have HBC := hide ((unhide HBC).trans (hb.mono (unhide HBC).size)); clear hb)
    | (go_at_call 112; refine ((unhide HQ).around _ (unhide HBC)).mono ?_; rintro e w3 ⟨a1, c1, a2, c2, rfl, i1, i2, hb3⟩; have HI1 := hide i1; have HI2 := hide i2; have HB3 := hide hb3; have HBC := hide hb3; clear i1 i2 hb3)
    | (have _x := unhide HB4; go_at_call 49; refine ((unhide HQ).b2 _ _ _ _ _ ((unhide HB3).trans ((unhide HB4).mono (unhide HB3).size)) ((unhide HI2).below (unhide HB4))).mono ?_; rw [hq2]; rintro e w5 ⟨rfl, hb5⟩; have HB5 := hide (((unhide HB3).trans ((unhide HB4).mono (unhide HB3).size)).trans (hb5.mono ((unhide HB3).trans ((unhide HB4).mono (unhide HB3).size)).size)); clear hb5)
    | (have _x := unhide HB3; go_at_call 49; refine ((unhide HQ).a1 _ _ _ _ (unhide HB3) (unhide HI1)).mono ?_; rw [hp]; rintro e w4 ⟨rfl, hb4⟩; have HB4 := hide hb4; clear hb4))
  go_ret
  exact ⟨rfl, unhide HB5⟩

set_option maxHeartbeats 2000000 in
theorem fds_elem_c {w : World} {bA : Nat} {os : List OneM} (hq : Asks w bA os b) (i : Int) (hp : cntO os (aheadO os b) [1] = 0) (hq2 : cntO os (behindO os b) [1, 4] = 0) :
    Calls Tryz.prog 98 #[.pointer (some ⟨bA, 0, none⟩), .iface 120 (.agg #[.int .i64 i, .int .i64 1]), .int .i64 b] w fun e w' => e = .returned (.bool true) ∧ Below w.heap.size w w' := by
  have HQ := hide hq
  have HBC := hide (Below.refl w.heap.size w)
  have hm1 : ∀ (w : World), (method 267 120 (.agg #[.int .i64 i, .int .i64 1]) "hornbeam/edit.kind").run Tryz.prog w = .ok (143, (.agg #[.int .i64 i, .int .i64 1])) w := fun _ => by kernel_rfl
  have hm2 : ∀ (w : World), (method 267 120 (.agg #[.int .i64 i, .int .i64 1]) "hornbeam/edit.brings").run Tryz.prog w = .ok (142, (.agg #[.int .i64 i, .int .i64 1])) w := fun _ => by kernel_rfl
  have HS2 : Hid (∀ W, Calls Tryz.prog 142 #[.agg #[.int .i64 i, .int .i64 1], .int .i64 2] W fun e w' => e = .returned (.int .i64 0) ∧ Below W.heap.size W w') := hide (fun W => by have := sBrings i 1 2 W; rw [if_neg (by omega)] at this; exact this)
  have HS1 : Hid (∀ W, Calls Tryz.prog 142 #[.agg #[.int .i64 i, .int .i64 1], .int .i64 1] W fun e w' => e = .returned (.int .i64 1) ∧ Below W.heap.size W w') := hide (fun W => by have := sBrings i 1 1 W; rw [if_pos rfl] at this; exact this)
  clear hq
  go_enter Tryz.func98, Tryz.ntmps98
  set_option maxRecDepth 10000 in
  go_wp2_with (first
    | (go_at_call 142; first | (refine ((unhide HS2) _).mono ?_; rintro e w1 ⟨rfl, hb⟩; have HBC := hide ((unhide HBC).trans (hb.mono (unhide HBC).size)); clear hb) | (refine ((unhide HS1) _).mono ?_; rintro e w1 ⟨rfl, hb⟩; have HBC := hide ((unhide HBC).trans (hb.mono (unhide HBC).size)); clear hb))
    | (go_at_call 143; refine (sKind _ _ _).mono ?_; rintro e w1 ⟨rfl, hb⟩; have HBC := hide ((unhide HBC).trans (hb.mono (unhide HBC).size)); clear hb)
    | (go_at_call 112; refine ((unhide HQ).around _ (unhide HBC)).mono ?_; rintro e w3 ⟨a1, c1, a2, c2, rfl, i1, i2, hb3⟩; have HI1 := hide i1; have HI2 := hide i2; have HB3 := hide hb3; have HBC := hide hb3; clear i1 i2 hb3)
    | (have _x := unhide HB4; go_at_call 49; refine ((unhide HQ).b2 _ _ _ _ _ ((unhide HB3).trans ((unhide HB4).mono (unhide HB3).size)) ((unhide HI2).below (unhide HB4))).mono ?_; rw [hq2]; rintro e w5 ⟨rfl, hb5⟩; have HB5 := hide (((unhide HB3).trans ((unhide HB4).mono (unhide HB3).size)).trans (hb5.mono ((unhide HB3).trans ((unhide HB4).mono (unhide HB3).size)).size)); clear hb5)
    | (have _x := unhide HB3; go_at_call 49; refine ((unhide HQ).a1 _ _ _ _ (unhide HB3) (unhide HI1)).mono ?_; rw [hp]; rintro e w4 ⟨rfl, hb4⟩; have HB4 := hide hb4; clear hb4))
  go_ret
  exact ⟨rfl, unhide HB5⟩

end
end Go.Proofs.YtnclnijlpchdnaaGreat
