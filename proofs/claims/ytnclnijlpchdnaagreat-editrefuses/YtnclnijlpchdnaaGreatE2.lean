/-
  Package edit's fitsDocument, of a fragment.
-/
import Derived.Test.YtnclnijlpchdnaaGreatE0
namespace Go.Proofs.YtnclnijlpchdnaaGreat
open Go.RowKit

section
variable {b : Int}
set_option maxHeartbeats 2000000 in
theorem fdb_text {w : World} {bA : Nat} {os : List OneM} (hq : Asks w bA os b) (ka : Option Addr) (n kc : Nat) (m2 m1 : Int) (hB : ∀ W k, Below w.heap.size w W → Calls Tryz.prog 140 #[.agg #[.pointer (some ⟨bA, 0, none⟩), .slice ka n kc], .int .i64 k] W fun e w' => (k = 2 → e = .returned (.int .i64 m2)) ∧ (k = 1 → e = .returned (.int .i64 m1)) ∧ Below w.heap.size w w') (h0 : 0 < m2) :
    Calls Tryz.prog 98 #[.pointer (some ⟨bA, 0, none⟩), .iface 118 (.agg #[.pointer (some ⟨bA, 0, none⟩), .slice ka n kc]), .int .i64 b] w fun e w' => e = .returned (.bool false) ∧ Below w.heap.size w w' := by
  have HQ := hide hq
  have HBC := hide (Below.refl w.heap.size w)
  have HT2 : Hid (∀ W, Below w.heap.size w W → Calls Tryz.prog 140 #[.agg #[.pointer (some ⟨bA, 0, none⟩), .slice ka n kc], .int .i64 2] W fun e w' => e = .returned (.int .i64 m2) ∧ Below w.heap.size w w') := hide (fun W hW => (hB W 2 hW).mono fun e w' ⟨h1, _, h3⟩ => ⟨h1 rfl, h3⟩)
  have HT1 : Hid (∀ W, Below w.heap.size w W → Calls Tryz.prog 140 #[.agg #[.pointer (some ⟨bA, 0, none⟩), .slice ka n kc], .int .i64 1] W fun e w' => e = .returned (.int .i64 m1) ∧ Below w.heap.size w w') := hide (fun W hW => (hB W 1 hW).mono fun e w' ⟨_, h2, h3⟩ => ⟨h2 rfl, h3⟩)
  have hm1 : ∀ (w : World), (method 267 118 (.agg #[.pointer (some ⟨bA, 0, none⟩), .slice ka n kc]) "hornbeam/edit.kind").run Tryz.prog w = .ok (141, (.agg #[.pointer (some ⟨bA, 0, none⟩), .slice ka n kc])) w := fun _ => by kernel_rfl
  have hm2 : ∀ (w : World), (method 267 118 (.agg #[.pointer (some ⟨bA, 0, none⟩), .slice ka n kc]) "hornbeam/edit.brings").run Tryz.prog w = .ok (140, (.agg #[.pointer (some ⟨bA, 0, none⟩), .slice ka n kc])) w := fun _ => by kernel_rfl
  clear hq hB
  go_enter Tryz.func98, Tryz.ntmps98
  set_option maxRecDepth 10000 in
  go_wp2_with (first
    | (have _x := unhide HBX; go_at_call 140; refine ((unhide HT1) _ (unhide HBC)).mono ?_; rintro e wx ⟨rfl, hb⟩; have HBC := hide hb; clear hb)
    | (go_at_call 140; refine ((unhide HT2) _ (unhide HBC)).mono ?_; rintro e wx ⟨rfl, hb⟩; have HBC := hide hb; have HBX := hide hb; clear hb)
    | (go_at_call 141; refine (bKind _ _ _).mono ?_; rintro e w1 ⟨rfl, hb⟩; have HBC := hide ((unhide HBC).trans (hb.mono (unhide HBC).size)); clear hb))
  go_ret
  exact ⟨rfl, unhide HBC⟩

set_option maxHeartbeats 2000000 in
theorem fdb_many {w : World} {bA : Nat} {os : List OneM} (hq : Asks w bA os b) (ka : Option Addr) (n kc : Nat) (m2 m1 : Int) (hB : ∀ W k, Below w.heap.size w W → Calls Tryz.prog 140 #[.agg #[.pointer (some ⟨bA, 0, none⟩), .slice ka n kc], .int .i64 k] W fun e w' => (k = 2 → e = .returned (.int .i64 m2)) ∧ (k = 1 → e = .returned (.int .i64 m1)) ∧ Below w.heap.size w w') (h0 : m2 = 0) (h1 : 1 < m1) :
    Calls Tryz.prog 98 #[.pointer (some ⟨bA, 0, none⟩), .iface 118 (.agg #[.pointer (some ⟨bA, 0, none⟩), .slice ka n kc]), .int .i64 b] w fun e w' => e = .returned (.bool false) ∧ Below w.heap.size w w' := by
  have HQ := hide hq
  have HBC := hide (Below.refl w.heap.size w)
  have HT2 : Hid (∀ W, Below w.heap.size w W → Calls Tryz.prog 140 #[.agg #[.pointer (some ⟨bA, 0, none⟩), .slice ka n kc], .int .i64 2] W fun e w' => e = .returned (.int .i64 m2) ∧ Below w.heap.size w w') := hide (fun W hW => (hB W 2 hW).mono fun e w' ⟨h1, _, h3⟩ => ⟨h1 rfl, h3⟩)
  have HT1 : Hid (∀ W, Below w.heap.size w W → Calls Tryz.prog 140 #[.agg #[.pointer (some ⟨bA, 0, none⟩), .slice ka n kc], .int .i64 1] W fun e w' => e = .returned (.int .i64 m1) ∧ Below w.heap.size w w') := hide (fun W hW => (hB W 1 hW).mono fun e w' ⟨_, h2, h3⟩ => ⟨h2 rfl, h3⟩)
  subst h0
  have hm1 : ∀ (w : World), (method 267 118 (.agg #[.pointer (some ⟨bA, 0, none⟩), .slice ka n kc]) "hornbeam/edit.kind").run Tryz.prog w = .ok (141, (.agg #[.pointer (some ⟨bA, 0, none⟩), .slice ka n kc])) w := fun _ => by kernel_rfl
  have hm2 : ∀ (w : World), (method 267 118 (.agg #[.pointer (some ⟨bA, 0, none⟩), .slice ka n kc]) "hornbeam/edit.brings").run Tryz.prog w = .ok (140, (.agg #[.pointer (some ⟨bA, 0, none⟩), .slice ka n kc])) w := fun _ => by kernel_rfl
  clear hq hB
  go_enter Tryz.func98, Tryz.ntmps98
  set_option maxRecDepth 10000 in
  go_wp2_with (first
    | (have _x := unhide HBX; go_at_call 140; refine ((unhide HT1) _ (unhide HBC)).mono ?_; rintro e wx ⟨rfl, hb⟩; have HBC := hide hb; clear hb)
    | (go_at_call 140; refine ((unhide HT2) _ (unhide HBC)).mono ?_; rintro e wx ⟨rfl, hb⟩; have HBC := hide hb; have HBX := hide hb; clear hb)
    | (go_at_call 141; refine (bKind _ _ _).mono ?_; rintro e w1 ⟨rfl, hb⟩; have HBC := hide ((unhide HBC).trans (hb.mono (unhide HBC).size)); clear hb))
  go_ret
  exact ⟨rfl, unhide HBC⟩

set_option maxHeartbeats 2000000 in
theorem fdb_none {w : World} {bA : Nat} {os : List OneM} (hq : Asks w bA os b) (ka : Option Addr) (n kc : Nat) (m2 m1 : Int) (hB : ∀ W k, Below w.heap.size w W → Calls Tryz.prog 140 #[.agg #[.pointer (some ⟨bA, 0, none⟩), .slice ka n kc], .int .i64 k] W fun e w' => (k = 2 → e = .returned (.int .i64 m2)) ∧ (k = 1 → e = .returned (.int .i64 m1)) ∧ Below w.heap.size w w') (h0 : m2 = 0) (h1 : m1 = 0) :
    Calls Tryz.prog 98 #[.pointer (some ⟨bA, 0, none⟩), .iface 118 (.agg #[.pointer (some ⟨bA, 0, none⟩), .slice ka n kc]), .int .i64 b] w fun e w' => e = .returned (.bool true) ∧ Below w.heap.size w w' := by
  have HQ := hide hq
  have HBC := hide (Below.refl w.heap.size w)
  have HT2 : Hid (∀ W, Below w.heap.size w W → Calls Tryz.prog 140 #[.agg #[.pointer (some ⟨bA, 0, none⟩), .slice ka n kc], .int .i64 2] W fun e w' => e = .returned (.int .i64 m2) ∧ Below w.heap.size w w') := hide (fun W hW => (hB W 2 hW).mono fun e w' ⟨h1, _, h3⟩ => ⟨h1 rfl, h3⟩)
  have HT1 : Hid (∀ W, Below w.heap.size w W → Calls Tryz.prog 140 #[.agg #[.pointer (some ⟨bA, 0, none⟩), .slice ka n kc], .int .i64 1] W fun e w' => e = .returned (.int .i64 m1) ∧ Below w.heap.size w w') := hide (fun W hW => (hB W 1 hW).mono fun e w' ⟨_, h2, h3⟩ => ⟨h2 rfl, h3⟩)
  subst h0
  subst h1
  have hm1 : ∀ (w : World), (method 267 118 (.agg #[.pointer (some ⟨bA, 0, none⟩), .slice ka n kc]) "hornbeam/edit.kind").run Tryz.prog w = .ok (141, (.agg #[.pointer (some ⟨bA, 0, none⟩), .slice ka n kc])) w := fun _ => by kernel_rfl
  have hm2 : ∀ (w : World), (method 267 118 (.agg #[.pointer (some ⟨bA, 0, none⟩), .slice ka n kc]) "hornbeam/edit.brings").run Tryz.prog w = .ok (140, (.agg #[.pointer (some ⟨bA, 0, none⟩), .slice ka n kc])) w := fun _ => by kernel_rfl
  clear hq hB
  go_enter Tryz.func98, Tryz.ntmps98
  set_option maxRecDepth 10000 in
  go_wp2_with (first
    | (have _x := unhide HBX; go_at_call 140; refine ((unhide HT1) _ (unhide HBC)).mono ?_; rintro e wx ⟨rfl, hb⟩; have HBC := hide hb; clear hb)
    | (go_at_call 140; refine ((unhide HT2) _ (unhide HBC)).mono ?_; rintro e wx ⟨rfl, hb⟩; have HBC := hide hb; have HBX := hide hb; clear hb)
    | (go_at_call 141; refine (bKind _ _ _).mono ?_; rintro e w1 ⟨rfl, hb⟩; have HBC := hide ((unhide HBC).trans (hb.mono (unhide HBC).size)); clear hb))
  go_ret
  exact ⟨rfl, unhide HBC⟩

set_option maxHeartbeats 2000000 in
theorem fdb_a {w : World} {bA : Nat} {os : List OneM} (hq : Asks w bA os b) (ka : Option Addr) (n kc : Nat) (m2 m1 : Int) (hB : ∀ W k, Below w.heap.size w W → Calls Tryz.prog 140 #[.agg #[.pointer (some ⟨bA, 0, none⟩), .slice ka n kc], .int .i64 k] W fun e w' => (k = 2 → e = .returned (.int .i64 m2)) ∧ (k = 1 → e = .returned (.int .i64 m1)) ∧ Below w.heap.size w w') (h2 : m2 = 0) (h3 : m1 = 1) (p : Nat) (hp : cntO os (aheadO os b) [1] = p) (h0 : p ≠ 0) :
    Calls Tryz.prog 98 #[.pointer (some ⟨bA, 0, none⟩), .iface 118 (.agg #[.pointer (some ⟨bA, 0, none⟩), .slice ka n kc]), .int .i64 b] w fun e w' => e = .returned (.bool false) ∧ Below w.heap.size w w' := by
  have HQ := hide hq
  have HBC := hide (Below.refl w.heap.size w)
  have HT2 : Hid (∀ W, Below w.heap.size w W → Calls Tryz.prog 140 #[.agg #[.pointer (some ⟨bA, 0, none⟩), .slice ka n kc], .int .i64 2] W fun e w' => e = .returned (.int .i64 m2) ∧ Below w.heap.size w w') := hide (fun W hW => (hB W 2 hW).mono fun e w' ⟨h1, _, h3⟩ => ⟨h1 rfl, h3⟩)
  have HT1 : Hid (∀ W, Below w.heap.size w W → Calls Tryz.prog 140 #[.agg #[.pointer (some ⟨bA, 0, none⟩), .slice ka n kc], .int .i64 1] W fun e w' => e = .returned (.int .i64 m1) ∧ Below w.heap.size w w') := hide (fun W hW => (hB W 1 hW).mono fun e w' ⟨_, h2, h3⟩ => ⟨h2 rfl, h3⟩)
  subst h2
  subst h3
  have z1 : ((p : Int) == 0) = false := by simpa using h0
  have hm1 : ∀ (w : World), (method 267 118 (.agg #[.pointer (some ⟨bA, 0, none⟩), .slice ka n kc]) "hornbeam/edit.kind").run Tryz.prog w = .ok (141, (.agg #[.pointer (some ⟨bA, 0, none⟩), .slice ka n kc])) w := fun _ => by kernel_rfl
  have hm2 : ∀ (w : World), (method 267 118 (.agg #[.pointer (some ⟨bA, 0, none⟩), .slice ka n kc]) "hornbeam/edit.brings").run Tryz.prog w = .ok (140, (.agg #[.pointer (some ⟨bA, 0, none⟩), .slice ka n kc])) w := fun _ => by kernel_rfl
  clear hq hB
  go_enter Tryz.func98, Tryz.ntmps98
  set_option maxRecDepth 10000 in
  go_wp2_with (first
    | (have _x := unhide HBX; go_at_call 140; refine ((unhide HT1) _ (unhide HBC)).mono ?_; rintro e wx ⟨rfl, hb⟩; have HBC := hide hb; clear hb)
    | (go_at_call 140; refine ((unhide HT2) _ (unhide HBC)).mono ?_; rintro e wx ⟨rfl, hb⟩; have HBC := hide hb; have HBX := hide hb; clear hb)
    | (go_at_call 141; refine (bKind _ _ _).mono ?_; rintro e w1 ⟨rfl, hb⟩; have HBC := hide ((unhide HBC).trans (hb.mono (unhide HBC).size)); clear hb)
    | (go_at_call 112; refine ((unhide HQ).around _ (unhide HBC)).mono ?_; rintro e w3 ⟨a1, c1, a2, c2, rfl, i1, i2, hb3⟩; have HI1 := hide i1; have HI2 := hide i2; have HB3 := hide hb3; have HBC := hide hb3; clear i1 i2 hb3)
    | (have _x := unhide HB3; go_at_call 49; refine ((unhide HQ).a1 _ _ _ _ (unhide HB3) (unhide HI1)).mono ?_; rw [hp]; rintro e w4 ⟨rfl, hb4⟩; have HB4 := hide hb4; clear hb4))
  go_ret
  exact ⟨rfl, (unhide HB3).trans ((unhide HB4).mono (unhide HB3).size)⟩

set_option maxHeartbeats 2000000 in
theorem fdb_b {w : World} {bA : Nat} {os : List OneM} (hq : Asks w bA os b) (ka : Option Addr) (n kc : Nat) (m2 m1 : Int) (hB : ∀ W k, Below w.heap.size w W → Calls Tryz.prog 140 #[.agg #[.pointer (some ⟨bA, 0, none⟩), .slice ka n kc], .int .i64 k] W fun e w' => (k = 2 → e = .returned (.int .i64 m2)) ∧ (k = 1 → e = .returned (.int .i64 m1)) ∧ Below w.heap.size w w') (h2 : m2 = 0) (h3 : m1 = 1) (p q : Nat) (hp : cntO os (aheadO os b) [1] = p) (h0 : p = 0) (hq2 : cntO os (behindO os b) [1, 4] = q) (h1 : q ≠ 0) :
    Calls Tryz.prog 98 #[.pointer (some ⟨bA, 0, none⟩), .iface 118 (.agg #[.pointer (some ⟨bA, 0, none⟩), .slice ka n kc]), .int .i64 b] w fun e w' => e = .returned (.bool false) ∧ Below w.heap.size w w' := by
  have HQ := hide hq
  have HBC := hide (Below.refl w.heap.size w)
  have HT2 : Hid (∀ W, Below w.heap.size w W → Calls Tryz.prog 140 #[.agg #[.pointer (some ⟨bA, 0, none⟩), .slice ka n kc], .int .i64 2] W fun e w' => e = .returned (.int .i64 m2) ∧ Below w.heap.size w w') := hide (fun W hW => (hB W 2 hW).mono fun e w' ⟨h1, _, h3⟩ => ⟨h1 rfl, h3⟩)
  have HT1 : Hid (∀ W, Below w.heap.size w W → Calls Tryz.prog 140 #[.agg #[.pointer (some ⟨bA, 0, none⟩), .slice ka n kc], .int .i64 1] W fun e w' => e = .returned (.int .i64 m1) ∧ Below w.heap.size w w') := hide (fun W hW => (hB W 1 hW).mono fun e w' ⟨_, h2, h3⟩ => ⟨h2 rfl, h3⟩)
  subst h2
  subst h3
  subst h0
  have z1 : ((q : Int) == 0) = false := by simpa using h1
  have hm1 : ∀ (w : World), (method 267 118 (.agg #[.pointer (some ⟨bA, 0, none⟩), .slice ka n kc]) "hornbeam/edit.kind").run Tryz.prog w = .ok (141, (.agg #[.pointer (some ⟨bA, 0, none⟩), .slice ka n kc])) w := fun _ => by kernel_rfl
  have hm2 : ∀ (w : World), (method 267 118 (.agg #[.pointer (some ⟨bA, 0, none⟩), .slice ka n kc]) "hornbeam/edit.brings").run Tryz.prog w = .ok (140, (.agg #[.pointer (some ⟨bA, 0, none⟩), .slice ka n kc])) w := fun _ => by kernel_rfl
  clear hq hB
  go_enter Tryz.func98, Tryz.ntmps98
  set_option maxRecDepth 10000 in
  go_wp2_with (first
    | (have _x := unhide HBX; go_at_call 140; refine ((unhide HT1) _ (unhide HBC)).mono ?_; rintro e wx ⟨rfl, hb⟩; have HBC := hide hb; clear hb)
    | (go_at_call 140; refine ((unhide HT2) _ (unhide HBC)).mono ?_; rintro e wx ⟨rfl, hb⟩; have HBC := hide hb; have HBX := hide hb; clear hb)
    | (go_at_call 141; refine (bKind _ _ _).mono ?_; rintro e w1 ⟨rfl, hb⟩; have HBC := hide ((unhide HBC).trans (hb.mono (unhide HBC).size)); clear hb)
    | (go_at_call 112; refine ((unhide HQ).around _ (unhide HBC)).mono ?_; rintro e w3 ⟨a1, c1, a2, c2, rfl, i1, i2, hb3⟩; have HI1 := hide i1; have HI2 := hide i2; have HB3 := hide hb3; have HBC := hide hb3; clear i1 i2 hb3)
    | (have _x := unhide HB4; go_at_call 49; refine ((unhide HQ).b2 _ _ _ _ _ ((unhide HB3).trans ((unhide HB4).mono (unhide HB3).size)) ((unhide HI2).below (unhide HB4))).mono ?_; rw [hq2]; rintro e w5 ⟨rfl, hb5⟩; have HB5 := hide (((unhide HB3).trans ((unhide HB4).mono (unhide HB3).size)).trans (hb5.mono ((unhide HB3).trans ((unhide HB4).mono (unhide HB3).size)).size)); clear hb5)
    | (have _x := unhide HB3; go_at_call 49; refine ((unhide HQ).a1 _ _ _ _ (unhide HB3) (unhide HI1)).mono ?_; rw [hp]; rintro e w4 ⟨rfl, hb4⟩; have HB4 := hide hb4; clear hb4))
  go_ret
  exact ⟨rfl, unhide HB5⟩

set_option maxHeartbeats 2000000 in
theorem fdb_c {w : World} {bA : Nat} {os : List OneM} (hq : Asks w bA os b) (ka : Option Addr) (n kc : Nat) (m2 m1 : Int) (hB : ∀ W k, Below w.heap.size w W → Calls Tryz.prog 140 #[.agg #[.pointer (some ⟨bA, 0, none⟩), .slice ka n kc], .int .i64 k] W fun e w' => (k = 2 → e = .returned (.int .i64 m2)) ∧ (k = 1 → e = .returned (.int .i64 m1)) ∧ Below w.heap.size w w') (h2 : m2 = 0) (h3 : m1 = 1) (hp : cntO os (aheadO os b) [1] = 0) (hq2 : cntO os (behindO os b) [1, 4] = 0) :
    Calls Tryz.prog 98 #[.pointer (some ⟨bA, 0, none⟩), .iface 118 (.agg #[.pointer (some ⟨bA, 0, none⟩), .slice ka n kc]), .int .i64 b] w fun e w' => e = .returned (.bool true) ∧ Below w.heap.size w w' := by
  have HQ := hide hq
  have HBC := hide (Below.refl w.heap.size w)
  have HT2 : Hid (∀ W, Below w.heap.size w W → Calls Tryz.prog 140 #[.agg #[.pointer (some ⟨bA, 0, none⟩), .slice ka n kc], .int .i64 2] W fun e w' => e = .returned (.int .i64 m2) ∧ Below w.heap.size w w') := hide (fun W hW => (hB W 2 hW).mono fun e w' ⟨h1, _, h3⟩ => ⟨h1 rfl, h3⟩)
  have HT1 : Hid (∀ W, Below w.heap.size w W → Calls Tryz.prog 140 #[.agg #[.pointer (some ⟨bA, 0, none⟩), .slice ka n kc], .int .i64 1] W fun e w' => e = .returned (.int .i64 m1) ∧ Below w.heap.size w w') := hide (fun W hW => (hB W 1 hW).mono fun e w' ⟨_, h2, h3⟩ => ⟨h2 rfl, h3⟩)
  subst h2
  subst h3
  have hm1 : ∀ (w : World), (method 267 118 (.agg #[.pointer (some ⟨bA, 0, none⟩), .slice ka n kc]) "hornbeam/edit.kind").run Tryz.prog w = .ok (141, (.agg #[.pointer (some ⟨bA, 0, none⟩), .slice ka n kc])) w := fun _ => by kernel_rfl
  have hm2 : ∀ (w : World), (method 267 118 (.agg #[.pointer (some ⟨bA, 0, none⟩), .slice ka n kc]) "hornbeam/edit.brings").run Tryz.prog w = .ok (140, (.agg #[.pointer (some ⟨bA, 0, none⟩), .slice ka n kc])) w := fun _ => by kernel_rfl
  clear hq hB
  go_enter Tryz.func98, Tryz.ntmps98
  set_option maxRecDepth 10000 in
  go_wp2_with (first
    | (have _x := unhide HBX; go_at_call 140; refine ((unhide HT1) _ (unhide HBC)).mono ?_; rintro e wx ⟨rfl, hb⟩; have HBC := hide hb; clear hb)
    | (go_at_call 140; refine ((unhide HT2) _ (unhide HBC)).mono ?_; rintro e wx ⟨rfl, hb⟩; have HBC := hide hb; have HBX := hide hb; clear hb)
    | (go_at_call 141; refine (bKind _ _ _).mono ?_; rintro e w1 ⟨rfl, hb⟩; have HBC := hide ((unhide HBC).trans (hb.mono (unhide HBC).size)); clear hb)
    | (go_at_call 112; refine ((unhide HQ).around _ (unhide HBC)).mono ?_; rintro e w3 ⟨a1, c1, a2, c2, rfl, i1, i2, hb3⟩; have HI1 := hide i1; have HI2 := hide i2; have HB3 := hide hb3; have HBC := hide hb3; clear i1 i2 hb3)
    | (have _x := unhide HB4; go_at_call 49; refine ((unhide HQ).b2 _ _ _ _ _ ((unhide HB3).trans ((unhide HB4).mono (unhide HB3).size)) ((unhide HI2).below (unhide HB4))).mono ?_; rw [hq2]; rintro e w5 ⟨rfl, hb5⟩; have HB5 := hide (((unhide HB3).trans ((unhide HB4).mono (unhide HB3).size)).trans (hb5.mono ((unhide HB3).trans ((unhide HB4).mono (unhide HB3).size)).size)); clear hb5)
    | (have _x := unhide HB3; go_at_call 49; refine ((unhide HQ).a1 _ _ _ _ (unhide HB3) (unhide HI1)).mono ?_; rw [hp]; rintro e w4 ⟨rfl, hb4⟩; have HB4 := hide hb4; clear hb4))
  go_ret
  exact ⟨rfl, unhide HB5⟩
end
end Go.Proofs.YtnclnijlpchdnaaGreat
