/-
  Borders of the scopes. What is kept of an element: newKnown. The stack's memo in memory: a row of what is kept of elements, grown by one, looked at. The stack's memo in memory: a place more, a place written.
-/
import Derived.Test.YtmllhebmaldgfaaNd
import Derived.Laws.Rows
namespace Go.Proofs.Ytmllhebmaldgfaa
open Go.RowKit

def olB : ByteArray := ⟨#[111, 108]⟩
def ulB : ByteArray := ⟨#[117, 108]⟩
def buttonB : ByteArray := ⟨#[98, 117, 116, 116, 111, 110]⟩
def optgroupB : ByteArray := ⟨#[111, 112, 116, 103, 114, 111, 117, 112]⟩
def optionB : ByteArray := ⟨#[111, 112, 116, 105, 111, 110]⟩

def borderM (c : Cal) (k : Int) : Bool :=
  if k = 0 then plainM c
  else if k = 1 then plainM c || namedM c olB || namedM c ulB
  else if k = 2 then plainM c || namedM c buttonB
  else if k = 3 then amongM c 0 tblT
  else !namedM c optgroupB && !namedM c optionB

/-- A box of what an element is called, in whatever world comes of it. -/
theorem box_after {w w1 : World} {cs : Int} {cn : ByteArray} (hb : Below (w.alloc (.cells #[.int .i64 cs, .string cn] 100)).heap.size (w.alloc (.cells #[.int .i64 cs, .string cn] 100)) w1) :
    w1.cell? ⟨w.heap.size, 0, none⟩ = some (.int .i64 cs) ∧ w1.cell? ⟨w.heap.size, 1, none⟩ = some (.string cn) := first_cells w _ _ _ _ hb
theorem below_box {w w1 : World} {o : Obj} (hb : Below (w.alloc o).heap.size (w.alloc o) w1) : Below w.heap.size w w1 := (below_new w o).trans (hb.mono (by simp))
theorem calls_more {f : Nat} {args : Array Value} {W w1 : World} {v : Value} (hb : Below W.heap.size W w1) (h : Calls Try.prog f args w1 fun e w' => e = .returned v ∧ Below w1.heap.size w1 w') : Calls Try.prog f args w1 fun e w' => e = .returned v ∧ Below W.heap.size W w' :=
  h.mono fun _ _ ⟨a, b⟩ => ⟨a, hb.trans (b.mono hb.size)⟩

set_option maxHeartbeats 2000000 in
theorem isBorder_0 (c : Cal) (w : World) : Calls Try.prog 127 #[c.agg, .int .i64 0] w fun e w' => e = .returned (.bool (borderM c 0)) ∧ Below w.heap.size w w' := by
  obtain ⟨cs, cn⟩ := c
  have HP : Hid (∀ w1, Below (w.alloc (.cells #[.int .i64 cs, .string cn] 100)).heap.size (w.alloc (.cells #[.int .i64 cs, .string cn] 100)) w1 → Calls Try.prog 132 #[.agg #[.int .i64 cs, .string cn]] w1 fun e w' => e = .returned (.bool (plainM ⟨cs, cn⟩)) ∧ Below (w.alloc (.cells #[.int .i64 cs, .string cn] 100)).heap.size (w.alloc (.cells #[.int .i64 cs, .string cn] 100)) w') := hide (fun w1 hb => calls_more hb (isPlainBorder_any ⟨cs, cn⟩ w1))
  have HT : Hid (∀ w1, Below (w.alloc (.cells #[.int .i64 cs, .string cn] 100)).heap.size (w.alloc (.cells #[.int .i64 cs, .string cn] 100)) w1 → Calls Try.prog 133 #[.agg #[.int .i64 cs, .string cn]] w1 fun e w' => e = .returned (.bool (amongM ⟨cs, cn⟩ 0 tblT)) ∧ Below (w.alloc (.cells #[.int .i64 cs, .string cn] 100)).heap.size (w.alloc (.cells #[.int .i64 cs, .string cn] 100)) w') := hide (fun w1 hb => calls_more hb (isTableBorder_any ⟨cs, cn⟩ w1))
  have e0 : borderM ⟨cs, cn⟩ 0 = plainM ⟨cs, cn⟩ := rfl
  rw [e0]
  generalize plainM ⟨cs, cn⟩ = r at *
  unfold Cal.agg
  clear HT e0
  go_enter Try.func127, Try.ntmps127
  go_wp2_with (first | (go_at_call 132; refine ((unhide HP) _ (Below.refl _ _)).mono ?_; rintro e w1 ⟨rfl, hb⟩; have HB1 := hide hb; obtain ⟨x1a, x1b⟩ := box_after hb; clear hb))
  go_ret
  exact ⟨rfl, below_box (unhide HB1)⟩

set_option maxHeartbeats 2000000 in
theorem isBorder_3 (c : Cal) (w : World) : Calls Try.prog 127 #[c.agg, .int .i64 3] w fun e w' => e = .returned (.bool (borderM c 3)) ∧ Below w.heap.size w w' := by
  obtain ⟨cs, cn⟩ := c
  have HP : Hid (∀ w1, Below (w.alloc (.cells #[.int .i64 cs, .string cn] 100)).heap.size (w.alloc (.cells #[.int .i64 cs, .string cn] 100)) w1 → Calls Try.prog 132 #[.agg #[.int .i64 cs, .string cn]] w1 fun e w' => e = .returned (.bool (plainM ⟨cs, cn⟩)) ∧ Below (w.alloc (.cells #[.int .i64 cs, .string cn] 100)).heap.size (w.alloc (.cells #[.int .i64 cs, .string cn] 100)) w') := hide (fun w1 hb => calls_more hb (isPlainBorder_any ⟨cs, cn⟩ w1))
  have HT : Hid (∀ w1, Below (w.alloc (.cells #[.int .i64 cs, .string cn] 100)).heap.size (w.alloc (.cells #[.int .i64 cs, .string cn] 100)) w1 → Calls Try.prog 133 #[.agg #[.int .i64 cs, .string cn]] w1 fun e w' => e = .returned (.bool (amongM ⟨cs, cn⟩ 0 tblT)) ∧ Below (w.alloc (.cells #[.int .i64 cs, .string cn] 100)).heap.size (w.alloc (.cells #[.int .i64 cs, .string cn] 100)) w') := hide (fun w1 hb => calls_more hb (isTableBorder_any ⟨cs, cn⟩ w1))
  have e0 : borderM ⟨cs, cn⟩ 3 = amongM ⟨cs, cn⟩ 0 tblT := rfl
  rw [e0]
  generalize amongM ⟨cs, cn⟩ 0 tblT = r at *
  unfold Cal.agg
  clear HP e0
  go_enter Try.func127, Try.ntmps127
  go_wp2_with (first | (go_at_call 133; refine ((unhide HT) _ (Below.refl _ _)).mono ?_; rintro e w1 ⟨rfl, hb⟩; have HB1 := hide hb; obtain ⟨x1a, x1b⟩ := box_after hb; clear hb))
  go_ret
  exact ⟨rfl, below_box (unhide HB1)⟩

set_option maxHeartbeats 2000000 in
theorem isBorder_2 (c : Cal) (w : World) : Calls Try.prog 127 #[c.agg, .int .i64 2] w fun e w' => e = .returned (.bool (borderM c 2)) ∧ Below w.heap.size w w' := by
  obtain ⟨cs, cn⟩ := c
  have HP : Hid (∀ w1, Below (w.alloc (.cells #[.int .i64 cs, .string cn] 100)).heap.size (w.alloc (.cells #[.int .i64 cs, .string cn] 100)) w1 → Calls Try.prog 132 #[.agg #[.int .i64 cs, .string cn]] w1 fun e w' => e = .returned (.bool (plainM ⟨cs, cn⟩)) ∧ Below (w.alloc (.cells #[.int .i64 cs, .string cn] 100)).heap.size (w.alloc (.cells #[.int .i64 cs, .string cn] 100)) w') := hide (fun w1 hb => calls_more hb (isPlainBorder_any ⟨cs, cn⟩ w1))
  have HT : Hid (∀ w1, Below (w.alloc (.cells #[.int .i64 cs, .string cn] 100)).heap.size (w.alloc (.cells #[.int .i64 cs, .string cn] 100)) w1 → Calls Try.prog 133 #[.agg #[.int .i64 cs, .string cn]] w1 fun e w' => e = .returned (.bool (amongM ⟨cs, cn⟩ 0 tblT)) ∧ Below (w.alloc (.cells #[.int .i64 cs, .string cn] 100)).heap.size (w.alloc (.cells #[.int .i64 cs, .string cn] 100)) w') := hide (fun w1 hb => calls_more hb (isTableBorder_any ⟨cs, cn⟩ w1))
  have HN_button : Hid (∀ w1, Below (w.alloc (.cells #[.int .i64 cs, .string cn] 100)).heap.size (w.alloc (.cells #[.int .i64 cs, .string cn] 100)) w1 → Calls Try.prog 67 #[.agg #[.int .i64 cs, .string cn], .string ⟨#[98, 117, 116, 116, 111, 110]⟩] w1 fun e w' => e = .returned (.bool (namedM ⟨cs, cn⟩ buttonB)) ∧ Below (w.alloc (.cells #[.int .i64 cs, .string cn] 100)).heap.size (w.alloc (.cells #[.int .i64 cs, .string cn] 100)) w') := hide (fun w1 hb => calls_more hb (isNamed_any ⟨cs, cn⟩ buttonB w1))
  have e0 : borderM ⟨cs, cn⟩ 2 = (plainM ⟨cs, cn⟩ || namedM ⟨cs, cn⟩ buttonB) := rfl
  rw [e0]
  generalize plainM ⟨cs, cn⟩ = r at *
  generalize namedM ⟨cs, cn⟩ buttonB = r1 at *
  unfold Cal.agg
  clear HT e0
  cases r with
  | true =>
    go_enter Try.func127, Try.ntmps127
    go_wp2_with (first | (go_at_call 132; refine ((unhide HP) _ (Below.refl _ _)).mono ?_; rintro e w1 ⟨rfl, hb⟩; have HB1 := hide hb; obtain ⟨x1a, x1b⟩ := box_after hb; clear hb))
    go_ret
    exact ⟨rfl, below_box (unhide HB1)⟩
  | false =>
    go_enter Try.func127, Try.ntmps127
    go_wp2_with (first | (have _x := unhide HB1; clear _x; go_at_call 67; refine ((unhide HN_button) _ (unhide HB1)).mono ?_; rintro e w2 ⟨rfl, hb⟩; have HB2 := hide hb; obtain ⟨x2a, x2b⟩ := box_after hb; clear hb) | (go_at_call 132; refine ((unhide HP) _ (Below.refl _ _)).mono ?_; rintro e w1 ⟨rfl, hb⟩; have HB1 := hide hb; obtain ⟨x1a, x1b⟩ := box_after hb; clear hb))
    go_ret
    exact ⟨rfl, below_box (unhide HB2)⟩

set_option maxHeartbeats 2000000 in
theorem isBorder_1 (c : Cal) (w : World) : Calls Try.prog 127 #[c.agg, .int .i64 1] w fun e w' => e = .returned (.bool (borderM c 1)) ∧ Below w.heap.size w w' := by
  obtain ⟨cs, cn⟩ := c
  have HP : Hid (∀ w1, Below (w.alloc (.cells #[.int .i64 cs, .string cn] 100)).heap.size (w.alloc (.cells #[.int .i64 cs, .string cn] 100)) w1 → Calls Try.prog 132 #[.agg #[.int .i64 cs, .string cn]] w1 fun e w' => e = .returned (.bool (plainM ⟨cs, cn⟩)) ∧ Below (w.alloc (.cells #[.int .i64 cs, .string cn] 100)).heap.size (w.alloc (.cells #[.int .i64 cs, .string cn] 100)) w') := hide (fun w1 hb => calls_more hb (isPlainBorder_any ⟨cs, cn⟩ w1))
  have HT : Hid (∀ w1, Below (w.alloc (.cells #[.int .i64 cs, .string cn] 100)).heap.size (w.alloc (.cells #[.int .i64 cs, .string cn] 100)) w1 → Calls Try.prog 133 #[.agg #[.int .i64 cs, .string cn]] w1 fun e w' => e = .returned (.bool (amongM ⟨cs, cn⟩ 0 tblT)) ∧ Below (w.alloc (.cells #[.int .i64 cs, .string cn] 100)).heap.size (w.alloc (.cells #[.int .i64 cs, .string cn] 100)) w') := hide (fun w1 hb => calls_more hb (isTableBorder_any ⟨cs, cn⟩ w1))
  have HN_ol : Hid (∀ w1, Below (w.alloc (.cells #[.int .i64 cs, .string cn] 100)).heap.size (w.alloc (.cells #[.int .i64 cs, .string cn] 100)) w1 → Calls Try.prog 67 #[.agg #[.int .i64 cs, .string cn], .string ⟨#[111, 108]⟩] w1 fun e w' => e = .returned (.bool (namedM ⟨cs, cn⟩ olB)) ∧ Below (w.alloc (.cells #[.int .i64 cs, .string cn] 100)).heap.size (w.alloc (.cells #[.int .i64 cs, .string cn] 100)) w') := hide (fun w1 hb => calls_more hb (isNamed_any ⟨cs, cn⟩ olB w1))
  have HN_ul : Hid (∀ w1, Below (w.alloc (.cells #[.int .i64 cs, .string cn] 100)).heap.size (w.alloc (.cells #[.int .i64 cs, .string cn] 100)) w1 → Calls Try.prog 67 #[.agg #[.int .i64 cs, .string cn], .string ⟨#[117, 108]⟩] w1 fun e w' => e = .returned (.bool (namedM ⟨cs, cn⟩ ulB)) ∧ Below (w.alloc (.cells #[.int .i64 cs, .string cn] 100)).heap.size (w.alloc (.cells #[.int .i64 cs, .string cn] 100)) w') := hide (fun w1 hb => calls_more hb (isNamed_any ⟨cs, cn⟩ ulB w1))
  have e0 : borderM ⟨cs, cn⟩ 1 = (plainM ⟨cs, cn⟩ || namedM ⟨cs, cn⟩ olB || namedM ⟨cs, cn⟩ ulB) := rfl
  rw [e0]
  generalize plainM ⟨cs, cn⟩ = r at *
  generalize namedM ⟨cs, cn⟩ olB = r1 at *
  generalize namedM ⟨cs, cn⟩ ulB = r2 at *
  unfold Cal.agg
  clear HT e0
  cases r with
  | true =>
    go_enter Try.func127, Try.ntmps127
    go_wp2_with (first | (go_at_call 132; refine ((unhide HP) _ (Below.refl _ _)).mono ?_; rintro e w1 ⟨rfl, hb⟩; have HB1 := hide hb; obtain ⟨x1a, x1b⟩ := box_after hb; clear hb))
    go_ret
    exact ⟨rfl, below_box (unhide HB1)⟩
  | false =>
    cases r1 with
    | true =>
      go_enter Try.func127, Try.ntmps127
      go_wp2_with (first | (have _x := unhide HB1; clear _x; go_at_call 67; refine ((unhide HN_ol) _ (unhide HB1)).mono ?_; rintro e w2 ⟨rfl, hb⟩; have HB2 := hide hb; obtain ⟨x2a, x2b⟩ := box_after hb; clear hb) | (go_at_call 132; refine ((unhide HP) _ (Below.refl _ _)).mono ?_; rintro e w1 ⟨rfl, hb⟩; have HB1 := hide hb; obtain ⟨x1a, x1b⟩ := box_after hb; clear hb))
      go_ret
      exact ⟨rfl, below_box (unhide HB2)⟩
    | false =>
      go_enter Try.func127, Try.ntmps127
      go_wp2_with (first | (have _x := unhide HB2; clear _x; go_at_call 67; refine ((unhide HN_ul) _ (unhide HB2)).mono ?_; rintro e w3 ⟨rfl, hb⟩; have HB3 := hide hb; obtain ⟨x3a, x3b⟩ := box_after hb; clear hb) | (have _x := unhide HB1; clear _x; go_at_call 67; refine ((unhide HN_ol) _ (unhide HB1)).mono ?_; rintro e w2 ⟨rfl, hb⟩; have HB2 := hide hb; obtain ⟨x2a, x2b⟩ := box_after hb; clear hb) | (go_at_call 132; refine ((unhide HP) _ (Below.refl _ _)).mono ?_; rintro e w1 ⟨rfl, hb⟩; have HB1 := hide hb; obtain ⟨x1a, x1b⟩ := box_after hb; clear hb))
      go_ret
      exact ⟨rfl, below_box (unhide HB3)⟩

set_option maxHeartbeats 2000000 in
theorem isBorder_4 (c : Cal) (w : World) : Calls Try.prog 127 #[c.agg, .int .i64 4] w fun e w' => e = .returned (.bool (borderM c 4)) ∧ Below w.heap.size w w' := by
  obtain ⟨cs, cn⟩ := c
  have HN_optgroup : Hid (∀ w1, Below (w.alloc (.cells #[.int .i64 cs, .string cn] 100)).heap.size (w.alloc (.cells #[.int .i64 cs, .string cn] 100)) w1 → Calls Try.prog 67 #[.agg #[.int .i64 cs, .string cn], .string ⟨#[111, 112, 116, 103, 114, 111, 117, 112]⟩] w1 fun e w' => e = .returned (.bool (namedM ⟨cs, cn⟩ optgroupB)) ∧ Below (w.alloc (.cells #[.int .i64 cs, .string cn] 100)).heap.size (w.alloc (.cells #[.int .i64 cs, .string cn] 100)) w') := hide (fun w1 hb => calls_more hb (isNamed_any ⟨cs, cn⟩ optgroupB w1))
  have HN_option : Hid (∀ w1, Below (w.alloc (.cells #[.int .i64 cs, .string cn] 100)).heap.size (w.alloc (.cells #[.int .i64 cs, .string cn] 100)) w1 → Calls Try.prog 67 #[.agg #[.int .i64 cs, .string cn], .string ⟨#[111, 112, 116, 105, 111, 110]⟩] w1 fun e w' => e = .returned (.bool (namedM ⟨cs, cn⟩ optionB)) ∧ Below (w.alloc (.cells #[.int .i64 cs, .string cn] 100)).heap.size (w.alloc (.cells #[.int .i64 cs, .string cn] 100)) w') := hide (fun w1 hb => calls_more hb (isNamed_any ⟨cs, cn⟩ optionB w1))
  have e0 : borderM ⟨cs, cn⟩ 4 = (!namedM ⟨cs, cn⟩ optgroupB && !namedM ⟨cs, cn⟩ optionB) := rfl
  rw [e0]
  generalize namedM ⟨cs, cn⟩ optgroupB = r1 at *
  generalize namedM ⟨cs, cn⟩ optionB = r2 at *
  unfold Cal.agg
  clear e0
  cases r1 with
  | true =>
    go_enter Try.func127, Try.ntmps127
    go_wp2_with (first | (go_at_call 67; refine ((unhide HN_optgroup) _ (Below.refl _ _)).mono ?_; rintro e w1 ⟨rfl, hb⟩; have HB1 := hide hb; obtain ⟨x1a, x1b⟩ := box_after hb; clear hb))
    go_ret
    exact ⟨rfl, below_box (unhide HB1)⟩
  | false =>
    go_enter Try.func127, Try.ntmps127
    go_wp2_with (first | (have _x := unhide HB1; clear _x; go_at_call 67; refine ((unhide HN_option) _ (unhide HB1)).mono ?_; rintro e w2 ⟨rfl, hb⟩; have HB2 := hide hb; obtain ⟨x2a, x2b⟩ := box_after hb; clear hb) | (go_at_call 67; refine ((unhide HN_optgroup) _ (Below.refl _ _)).mono ?_; rintro e w1 ⟨rfl, hb⟩; have HB1 := hide hb; obtain ⟨x1a, x1b⟩ := box_after hb; clear hb))
    go_ret
    exact ⟨rfl, below_box (unhide HB2)⟩

theorem isBorder_any (c : Cal) (k : Int) (h0 : 0 ≤ k) (h4 : k ≤ 4) (w : World) : Calls Try.prog 127 #[c.agg, .int .i64 k] w fun e w' => e = .returned (.bool (borderM c k)) ∧ Below w.heap.size w w' := by
  have : k = 0 ∨ k = 1 ∨ k = 2 ∨ k = 3 ∨ k = 4 := by omega
  rcases this with rfl | rfl | rfl | rfl | rfl
  · exact isBorder_0 c w
  · exact isBorder_1 c w
  · exact isBorder_2 c w
  · exact isBorder_3 c w
  · exact isBorder_4 c w
end Go.Proofs.Ytmllhebmaldgfaa

namespace Go.Proofs.Ytmllhebmaldgfaa
open Go.RowKit

/-- The borders known behind i rounds. -/
def bAt (c : Cal) (i j : Nat) : Bool := if j < i then borderM c j else false
def kRow (c : Cal) (i : Nat) : Array Value := #[.int .i64 c.space, .string c.name, .bool (bAt c i 0), .bool (bAt c i 1), .bool (bAt c i 2), .bool (bAt c i 3), .bool (bAt c i 4), .bool true]
def kV (c : Cal) : Value := .agg (kRow c 5)
def zRow : Array Value := #[.int .i64 0, .string ⟨#[]⟩, .bool false, .bool false, .bool false, .bool false, .bool false, .bool false]
theorem kRow_zero (c : Cal) : kRow c 0 = #[.int .i64 c.space, .string c.name, .bool false, .bool false, .bool false, .bool false, .bool false, .bool true] := rfl
theorem kRow_set (c : Cal) (i : Nat) (h : i < 5) : (kRow c i).setIfInBounds (2 + i) (.bool (borderM c i)) = kRow c (i + 1) := by
  rcases i with _ | _ | _ | _ | _ | i
  · simp [kRow, bAt]
  · simp [kRow, bAt]
  · simp [kRow, bAt]
  · simp [kRow, bAt]
  · simp [kRow, bAt]
  · omega

/-- The three blocks of newKnown behind i rounds. -/
structure Kn (w wr : World) (c : Cal) (i : Nat) : Prop where
  x : wr.heap[w.heap.size]? = some (.cells #[.int .i64 c.space, .string c.name] 100 (0, 0))
  r : wr.heap[w.heap.size + 1]? = some (.cells zRow 103 (0, 0))
  k : wr.heap[w.heap.size + 1 + 1]? = some (.cells (kRow c i) 103 (0, 0))
  bel : Below w.heap.size w wr
theorem Kn.start (w : World) (c : Cal) : Kn w (((w.alloc (.cells #[.int .i64 c.space, .string c.name] 100)).alloc (.cells zRow 103)).alloc (.cells (kRow c 0) 103)) c 0 := by
  have h0 := heap_alloc_new w (.cells #[.int .i64 c.space, .string c.name] 100)
  have h1 := heap_alloc_new (w.alloc (.cells #[.int .i64 c.space, .string c.name] 100)) (.cells zRow 103)
  have h2 := heap_alloc_new ((w.alloc (.cells #[.int .i64 c.space, .string c.name] 100)).alloc (.cells zRow 103)) (.cells (kRow c 0) 103)
  refine ⟨?_, ?_, ?_, below3 w _ _ _⟩
  · exact (Below.heap_alloc _ _ _ (by simp only [World.size_alloc]; omega)).trans ((Below.heap_alloc _ _ _ (by simp only [World.size_alloc]; omega)).trans h0)
  · exact (Below.heap_alloc _ _ _ (by simp only [World.size_alloc]; omega)).trans (by simpa using h1)
  · simpa using h2
theorem Kn.next {w wr w1 : World} {c : Cal} {i : Nat} (h : Kn w wr c i) (hi : i < 5) (hb : Below wr.heap.size wr w1) : Kn w (w1.setCell ⟨w.heap.size + 1 + 1, 2 + i, none⟩ (.bool (borderM c i))) c (i + 1) := by
  have l0 := lt_of_block h.x
  have l1 := lt_of_block h.r
  have l2 := lt_of_block h.k
  have hm : Mod (fun k => k = w.heap.size + 1 + 1) w1 (w1.setCell ⟨w.heap.size + 1 + 1, 2 + i, none⟩ (.bool (borderM c i))) := Mod.setCell _ _ _ rfl
  have e0 := (hb.block _ l0).trans h.x
  have e1 := (hb.block _ l1).trans h.r
  have e2 := (hb.block _ l2).trans h.k
  refine ⟨(hm.block _ (lt_of_block e0) (by omega)).trans e0, (hm.block _ (lt_of_block e1) (by omega)).trans e1, ?_, ?_⟩
  · have := heap_setCell_same w1 (w.heap.size + 1 + 1) (2 + i) _ _ (.bool (borderM c i)) e2
    rw [← kRow_set c i hi]
    simpa using this
  · have b1 := h.bel.trans (hb.mono h.bel.size)
    exact b1.trans (hm.below b1.size (fun k hk => by omega))
theorem Kn.facts {w wr w1 : World} {c : Cal} {i : Nat} (h : Kn w wr c i) (hb : Below wr.heap.size wr w1) : w1.cell? ⟨w.heap.size, 0, none⟩ = some (.int .i64 c.space) ∧ w1.cell? ⟨w.heap.size, 1, none⟩ = some (.string c.name) ∧ (i < 5 → ∃ u, w1.cell? ⟨w.heap.size + 1 + 1, 2 + i, none⟩ = some u) ∧ ∀ j : Nat, w1.frozen? ⟨w.heap.size + 1 + 1, j, none⟩ = false := by
  have e0 := (hb.block _ (lt_of_block h.x)).trans h.x
  have e2 := (hb.block _ (lt_of_block h.k)).trans h.k
  exact ⟨cell_row _ _ 0 _ _ _ e0, cell_row _ _ 1 _ _ _ e0, fun hi => ⟨_, (cell_row _ _ (2 + i) _ _ _ e2).trans (Array.getElem?_eq_getElem (by simp [kRow]; omega))⟩, fun j => by simp [World.frozen?, e2]⟩

theorem eight_block (w : World) (b : Nat) (v0 v1 v2 v3 v4 v5 v6 v7 x0 x1 x2 x3 x4 x5 x6 x7 : Value) (t : TypeId) (h : w.heap[b]? = some (.cells #[x0, x1, x2, x3, x4, x5, x6, x7] t (0, 0))) : ((((((((w.setCell ⟨b, 0, none⟩ v0).setCell ⟨b, 1, none⟩ v1).setCell ⟨b, 2, none⟩ v2).setCell ⟨b, 3, none⟩ v3).setCell ⟨b, 4, none⟩ v4).setCell ⟨b, 5, none⟩ v5).setCell ⟨b, 6, none⟩ v6).setCell ⟨b, 7, none⟩ v7).heap[b]? = some (.cells #[v0, v1, v2, v3, v4, v5, v6, v7] t (0, 0)) ∧ Mod (fun k => k = b) w ((((((((w.setCell ⟨b, 0, none⟩ v0).setCell ⟨b, 1, none⟩ v1).setCell ⟨b, 2, none⟩ v2).setCell ⟨b, 3, none⟩ v3).setCell ⟨b, 4, none⟩ v4).setCell ⟨b, 5, none⟩ v5).setCell ⟨b, 6, none⟩ v6).setCell ⟨b, 7, none⟩ v7) := by
  have h0 := heap_setCell_same _ b 0 _ t v0 h
  have h1 := heap_setCell_same _ b 1 _ t v1 h0
  have h2 := heap_setCell_same _ b 2 _ t v2 h1
  have h3 := heap_setCell_same _ b 3 _ t v3 h2
  have h4 := heap_setCell_same _ b 4 _ t v4 h3
  have h5 := heap_setCell_same _ b 5 _ t v5 h4
  have h6 := heap_setCell_same _ b 6 _ t v6 h5
  have h7 := heap_setCell_same _ b 7 _ t v7 h6
  refine ⟨by simpa using h7, ?_⟩
  exact ((((((((Mod.setCell (F := fun k => k = b) _ ⟨b, 0, none⟩ _ rfl).trans (Mod.setCell (F := fun k => k = b) _ ⟨b, 1, none⟩ _ rfl)).trans (Mod.setCell (F := fun k => k = b) _ ⟨b, 2, none⟩ _ rfl)).trans (Mod.setCell (F := fun k => k = b) _ ⟨b, 3, none⟩ _ rfl)).trans (Mod.setCell (F := fun k => k = b) _ ⟨b, 4, none⟩ _ rfl)).trans (Mod.setCell (F := fun k => k = b) _ ⟨b, 5, none⟩ _ rfl)).trans (Mod.setCell (F := fun k => k = b) _ ⟨b, 6, none⟩ _ rfl)).trans (Mod.setCell (F := fun k => k = b) _ ⟨b, 7, none⟩ _ rfl))

set_option maxHeartbeats 2000000 in
theorem newKnown_any (c : Cal) (w : World) : Calls Try.prog 114 #[c.agg] w fun e w' => e = .returned (kV c) ∧ Below w.heap.size w w' := by
  have HS := hide (Kn.start w c)
  rw [kRow_zero] at HS
  unfold zRow at HS
  obtain ⟨cs, cn⟩ := c
  simp only [Cal.agg] at *
  go_enter Try.func114, Try.ntmps114
  obtain ⟨p0, p1, _, _⟩ := (unhide HS).facts (Below.refl _ _)
  simp only at p0 p1
  go_wp2
  clear p0 p1
  go_loopg [4, 7] 5 (fun g _ s7 wr => ∃ i : Nat, i + g = 5 ∧ s7 = .int .i64 (i : Int) ∧ Kn w wr ⟨cs, cn⟩ i)
  case atStart => exact ⟨0, rfl, rfl, unhide HS⟩
  case round =>
    obtain ⟨i, hig, rfl, hk⟩ := hrel
    have HK := hide hk
    obtain ⟨q0, q1, qk, qf⟩ := hk.facts (Below.refl _ _)
    simp only at q0 q1
    clear HS hk
    by_cases hi : i < 5
    · have hiz : (i : Int) < 5 := by omega
      have hi0 : (0 : Int) ≤ (i : Int) := by omega
      have HI := hide hi
      have HIG := hide hig
      clear qk qf hi hig
      have HB := hide (fun W => isBorder_any ⟨cs, cn⟩ (i : Int) hi0 (by omega) W)
      simp only [Cal.agg] at HB
      go_wp2_with (go_at_call 127; refine ((unhide HB) _).mono ?_; rintro e w1 ⟨rfl, hb⟩; have HN := hide ((unhide HK).next (unhide HI) hb); obtain ⟨_, _, rk, rf⟩ := (unhide HK).facts hb; obtain ⟨u, ru⟩ := rk (unhide HI); have rf := rf (2 + i); clear rk hb)
      go_roundg (gk - 1)
      case measure => have := unhide HIG; omega
      case rel => exact ⟨i + 1, by have := unhide HIG; omega, by go_num, unhide HN⟩
    · obtain rfl : i = 5 := by omega
      clear qk qf hi hig
      have hk := (unhide HK).k
      have hr := (unhide HK).r
      have hbel := (unhide HK).bel
      have hlt := lt_of_block hr
      have hkv : kV ⟨cs, cn⟩ = .agg #[.int .i64 cs, .string cn, .bool (bAt ⟨cs, cn⟩ 5 0), .bool (bAt ⟨cs, cn⟩ 5 1), .bool (bAt ⟨cs, cn⟩ 5 2), .bool (bAt ⟨cs, cn⟩ 5 3), .bool (bAt ⟨cs, cn⟩ 5 4), .bool true] := rfl
      unfold kRow at hk
      unfold zRow at hr
      clear HK
      generalize bAt ⟨cs, cn⟩ 5 0 = e0 at *
      generalize bAt ⟨cs, cn⟩ 5 1 = e1 at *
      generalize bAt ⟨cs, cn⟩ 5 2 = e2 at *
      generalize bAt ⟨cs, cn⟩ 5 3 = e3 at *
      generalize bAt ⟨cs, cn⟩ 5 4 = e4 at *
      have HKV := hide hkv
      clear hkv
      have hall := eight_block wr (w.heap.size + 1) (.int .i64 cs) (.string cn) (.bool e0) (.bool e1) (.bool e2) (.bool e3) (.bool e4) (.bool true) _ _ _ _ _ _ _ _ 103 hr
      have HALL := hide hall
      have HBEL := hide hbel
      have z0 := cell_row _ _ 0 _ _ _ hk
      have z1 := cell_row _ _ 1 _ _ _ hk
      have z2 := cell_row _ _ 2 _ _ _ hk
      have z3 := cell_row _ _ 3 _ _ _ hk
      have z4 := cell_row _ _ 4 _ _ _ hk
      have z5 := cell_row _ _ 5 _ _ _ hk
      have z6 := cell_row _ _ 6 _ _ _ hk
      have z7 := cell_row _ _ 7 _ _ _ hk
      have y0 := cell_row _ _ 0 _ _ _ hr
      have y1 := cell_row _ _ 1 _ _ _ hr
      have y2 := cell_row _ _ 2 _ _ _ hr
      have y3 := cell_row _ _ 3 _ _ _ hr
      have y4 := cell_row _ _ 4 _ _ _ hr
      have y5 := cell_row _ _ 5 _ _ _ hr
      have y6 := cell_row _ _ 6 _ _ _ hr
      have y7 := cell_row _ _ 7 _ _ _ hr
      have yf : ∀ j : Nat, wr.frozen? ⟨w.heap.size + 1, j, none⟩ = false := fun j => by simp [World.frozen?, hr]
      simp only [List.getElem?_toArray, List.getElem?_cons_zero, List.getElem?_cons_succ] at z0 z1 z2 z3 z4 z5 z6 z7 y0 y1 y2 y3 y4 y5 y6 y7
      have yf0 := yf 0
      have yf1 := yf 1
      have yf2 := yf 2
      have yf3 := yf 3
      have yf4 := yf 4
      have yf5 := yf 5
      have yf6 := yf 6
      have yf7 := yf 7
      clear hk hr hbel hlt hall yf
      go_wp2
      rw [unhide HKV]
      exact bodyPost_ret (results_cell_row Try.results114 _ _ (w.heap.size + 1) _ _ _ _ rfl (unhide HALL).1 Try.underlying103 rfl (by kernel_rfl)) rfl ⟨rfl, (unhide HBEL).trans ((unhide HALL).2.below (unhide HBEL).size (fun k hk => by omega))⟩
end Go.Proofs.Ytmllhebmaldgfaa

namespace Go.Proofs.Ytmllhebmaldgfaa
open Go.RowKit

def eCells : Option Cal → List Value
  | none => zRow.toList
  | some c => (kRow c 5).toList
theorem eCells_len (x : Option Cal) : (eCells x).length = 8 := by cases x <;> rfl
def mRow (l : List (Option Cal)) : List Value := l.flatMap eCells
theorem mRow_len (l : List (Option Cal)) : (mRow l).length = l.length * 8 := by
  induction l with
  | nil => rfl
  | cons x l ih => rw [mRow, List.flatMap_cons, List.length_append, eCells_len, ← mRow, ih, List.length_cons]; omega
theorem mRow_get (l : List (Option Cal)) (i j : Nat) (hj : j < 8) {x : Option Cal} (hx : l[i]? = some x) : (mRow l)[i * 8 + j]? = (eCells x)[j]? := by
  induction l generalizing i with
  | nil => simp at hx
  | cons y l ih =>
    cases i with
    | zero =>
      simp at hx; subst hx
      rw [mRow, List.flatMap_cons, List.getElem?_append_left (by rw [eCells_len]; omega)]
      congr 1
      omega
    | succ i =>
      rw [mRow, List.flatMap_cons, List.getElem?_append_right (by rw [eCells_len]; omega), eCells_len]
      have e : (i + 1) * 8 + j - 8 = i * 8 + j := by omega
      rw [e]
      exact ih i (by simpa using hx)

/-- The memo: its header at bM, its row v. -/
structure KnM (w : World) (base bM : Nat) (v : Value) (ms : List (Option Cal)) : Prop where
  box : w.heap[bM]? = some (.cells #[v] 81 (0, 0))
  own : w.ownsRow base 103 8 v ms.length (mRow ms)
  lo : base ≤ bM
def footM (bM : Nat) (v : Value) (k : Nat) : Prop := k = bM ∨ v.ownBlock = some k

section
variable {w w' w1 : World} {base bM : Nat} {v v' : Value} {ms : List (Option Cal)} {F G : Nat → Prop}
theorem KnM.lt (h : KnM w base bM v ms) {k : Nat} (hk : footM bM v k) : base ≤ k ∧ k < w.heap.size := by
  rcases hk with rfl | hk
  · exact ⟨h.lo, lt_of_block h.box⟩
  · exact h.own.lt k hk
theorem KnM.cells (h : KnM w base bM v ms) : w.cell? ⟨bM, 0, none⟩ = some v ∧ w.frozen? ⟨bM, 0, none⟩ = false := by
  have hb := h.box
  exact ⟨by simp [World.cell?, hb], by simp [World.frozen?, hb]⟩
theorem KnM.mod (h : KnM w base bM v ms) (hm : Mod G w w') (hG : ∀ k, footM bM v k → ¬ G k) : KnM w' base bM v ms :=
  ⟨(hm.block bM (lt_of_block h.box) (hG bM (.inl rfl))).trans h.box, ownsRow_kept h.own (fun k hk => hm.block k (h.own.lt k hk).2 (hG k (.inr hk))), h.lo⟩
theorem KnM.below (h : KnM w base bM v ms) (hb : Below w.heap.size w w') : KnM w' base bM v ms := h.mod (Mod.of_below (F := fun _ => False) hb) (fun _ _ e => e)
theorem KnM.val (h : KnM w base bM v ms) : (v = .slice none 0 0 ∧ ms = []) ∨ ∃ g cap, v = .slice (some ⟨g, 0, none⟩) ms.length cap := by
  rcases h.own.2 with ⟨e, h0⟩ | ⟨g, cap, _, e, _⟩
  · exact .inl ⟨e, List.eq_nil_of_length_eq_zero h0⟩
  · exact .inr ⟨g, cap, e⟩
theorem KnM.len (h : KnM w base bM v ms) : ∃ a cap, v = .slice a ms.length cap := by
  rcases h.val with ⟨e, rfl⟩ | ⟨g, cap, e⟩
  · exact ⟨none, 0, e⟩
  · exact ⟨_, cap, e⟩
/-- What is kept at a place. -/
theorem KnM.at (h : KnM w base bM v ms) {i : Nat} {x : Option Cal} (hi : ms[i]? = some x) : ∃ g cap, v = .slice (some ⟨g, 0, none⟩) ms.length cap ∧ ∀ j, j < 8 → w.cell? ⟨g, i * 8 + j, none⟩ = (eCells x)[j]? := by
  have hlt := (List.getElem?_eq_some_iff.1 hi).1
  rcases h.val with ⟨_, h0⟩ | ⟨g, cap, e⟩
  · subst h0; simp at hi
  · subst e
    refine ⟨g, cap, rfl, fun j hj => ?_⟩
    rw [h.own.cellAt (i * 8 + j) (by omega), mRow_get ms i j hj hi]
end
end Go.Proofs.Ytmllhebmaldgfaa

namespace Go.Proofs.Ytmllhebmaldgfaa
open Go.RowKit

theorem own_set {w : World} {base : Nat} {e : TypeId} {size g n cap k : Nat} {xs : List Value} (h : w.ownsRow base e size (.slice (some ⟨g, 0, none⟩) n cap) n xs) (u : Value) : (w.setCell ⟨g, k, none⟩ u).ownsRow base e size (.slice (some ⟨g, 0, none⟩) n cap) n (xs.set k u) := by
  obtain ⟨hlen, h⟩ := h
  refine ⟨by rw [List.length_set]; exact hlen, .inr ?_⟩
  rcases h with ⟨e0, _⟩ | ⟨g2, cap2, cur, e0, hb, hblk, hn, hc, hs, ht⟩
  · cases e0
  · cases e0
    refine ⟨g, cap, cur.setIfInBounds k u, rfl, hb, heap_setCell_same w g k cur _ u hblk, hn, hc, by rw [Array.size_setIfInBounds]; exact hs, ?_⟩
    rw [Array.toList_setIfInBounds, List.take_set, ht]
theorem mRow_cons (y : Option Cal) (l : List (Option Cal)) : mRow (y :: l) = eCells y ++ mRow l := by simp [mRow]
theorem set_behind (y : Option Cal) (r : List Value) (i : Nat) (u : Value) : (eCells y ++ r).set (8 + i) u = eCells y ++ r.set i u := by
  rw [List.set_append_right _ _ (by rw [eCells_len]; omega), eCells_len]
  congr 2
  omega
/-- The eight cells of a place written one behind the other. -/
def set8 (xs : List Value) (o : Nat) (v0 v1 v2 v3 v4 v5 v6 v7 : Value) : List Value := (((((((xs.set o v0).set (o + 1) v1).set (o + 2) v2).set (o + 3) v3).set (o + 4) v4).set (o + 5) v5).set (o + 6) v6).set (o + 7) v7
theorem mRow_set (c : Cal) : ∀ (ms : List (Option Cal)) (i : Nat), i < ms.length → set8 (mRow ms) (i * 8) (.int .i64 c.space) (.string c.name) (.bool (bAt c 5 0)) (.bool (bAt c 5 1)) (.bool (bAt c 5 2)) (.bool (bAt c 5 3)) (.bool (bAt c 5 4)) (.bool true) = mRow (ms.set i (some c))
  | [], i, h => by simp at h
  | y :: l, 0, _ => by
    rw [List.set_cons_zero, mRow_cons, mRow_cons]
    obtain ⟨y0, y1, y2, y3, y4, y5, y6, y7, e⟩ : ∃ y0 y1 y2 y3 y4 y5 y6 y7, eCells y = [y0, y1, y2, y3, y4, y5, y6, y7] := by
      cases y
      · exact ⟨_, _, _, _, _, _, _, _, rfl⟩
      · exact ⟨_, _, _, _, _, _, _, _, rfl⟩
    rw [e]
    rfl
  | y :: l, i + 1, h => by
    have ih := mRow_set c l i (by simpa using h)
    rw [List.set_cons_succ, mRow_cons, mRow_cons, ← ih]
    have e : ∀ j, (i + 1) * 8 + j = 8 + (i * 8 + j) := fun j => by omega
    have e0 : (i + 1) * 8 = 8 + i * 8 := by omega
    unfold set8
    rw [e 1, e 2, e 3, e 4, e 5, e 6, e 7, e0]
    simp only [set_behind]

section
variable {w w1 : World} {base bM : Nat} {v v' : Value} {ms : List (Option Cal)}
/-- A place more. -/
theorem KnM.grow (h : KnM w base bM v ms) (hown : w1.ownsRow base 103 8 v' (ms.length + 1) (mRow ms ++ zRow.toList)) (hgrow : w.grownBy w1 v.ownBlock) (hv : ∀ k, v'.ownBlock = some k → v.ownBlock = some k ∨ w.heap.size ≤ k) :
    KnM (w1.setCell ⟨bM, 0, none⟩ v') base bM v' (ms ++ [none]) ∧ Mod (footM bM v) w (w1.setCell ⟨bM, 0, none⟩ v') ∧ ∀ k, footM bM v' k → footM bM v k ∨ w.heap.size ≤ k := by
  have hlt := lt_of_block h.box
  have hne : ∀ k, v.ownBlock = some k → k ≠ bM := fun k hk e => by
    obtain ⟨cur, hc⟩ := ownsRow_block h.own hk
    rw [e, h.box] at hc
    cases hc
  have hm1 : Mod (fun k => v.ownBlock = some k) w w1 := Mod.grown hgrow (fun k e => e)
  have hb1 := (hm1.block bM hlt (fun e => hne _ e rfl)).trans h.box
  have hne' : ∀ k, v'.ownBlock = some k → k ≠ bM := fun k hk => by
    rcases hv k hk with e | e
    · exact hne k e
    · omega
  refine ⟨⟨?_, ?_, h.lo⟩, (hm1.mono (fun k _ e => .inr e)).trans (Mod.setCell _ _ _ (.inl rfl)), ?_⟩
  · have := heap_setCell_same w1 bM 0 #[v] 81 v' hb1
    simpa using this
  · have e : mRow (ms ++ [none]) = mRow ms ++ zRow.toList := by simp [mRow, eCells]
    rw [List.length_append, e]
    exact ownsRow_setCell_other hown (fun e => hne' _ e rfl) _
  · rintro k (rfl | hk)
    · exact .inl (.inl rfl)
    · exact (hv k hk).imp (fun e => .inr e) id
/-- A place written. -/
theorem KnM.poke {g cap : Nat} (h : KnM w base bM (.slice (some ⟨g, 0, none⟩) ms.length cap) ms) (c : Cal) {i : Nat} (hi : i < ms.length) :
    KnM ((((((((w.setCell ⟨g, i * 8, none⟩ (.int .i64 c.space)).setCell ⟨g, i * 8 + 1, none⟩ (.string c.name)).setCell ⟨g, i * 8 + 2, none⟩ (.bool (bAt c 5 0))).setCell ⟨g, i * 8 + 3, none⟩ (.bool (bAt c 5 1))).setCell ⟨g, i * 8 + 4, none⟩ (.bool (bAt c 5 2))).setCell ⟨g, i * 8 + 5, none⟩ (.bool (bAt c 5 3))).setCell ⟨g, i * 8 + 6, none⟩ (.bool (bAt c 5 4))).setCell ⟨g, i * 8 + 7, none⟩ (.bool true)) base bM (.slice (some ⟨g, 0, none⟩) ms.length cap) (ms.set i (some c)) ∧ Mod (fun k => k = g) w ((((((((w.setCell ⟨g, i * 8, none⟩ (.int .i64 c.space)).setCell ⟨g, i * 8 + 1, none⟩ (.string c.name)).setCell ⟨g, i * 8 + 2, none⟩ (.bool (bAt c 5 0))).setCell ⟨g, i * 8 + 3, none⟩ (.bool (bAt c 5 1))).setCell ⟨g, i * 8 + 4, none⟩ (.bool (bAt c 5 2))).setCell ⟨g, i * 8 + 5, none⟩ (.bool (bAt c 5 3))).setCell ⟨g, i * 8 + 6, none⟩ (.bool (bAt c 5 4))).setCell ⟨g, i * 8 + 7, none⟩ (.bool true)) := by
  have hne : g ≠ bM := fun e => by
    obtain ⟨cur, hc⟩ := ownsRow_block h.own (k := g) rfl
    rw [e, h.box] at hc
    cases hc
  have hm : Mod (fun k => k = g) w ((((((((w.setCell ⟨g, i * 8, none⟩ (.int .i64 c.space)).setCell ⟨g, i * 8 + 1, none⟩ (.string c.name)).setCell ⟨g, i * 8 + 2, none⟩ (.bool (bAt c 5 0))).setCell ⟨g, i * 8 + 3, none⟩ (.bool (bAt c 5 1))).setCell ⟨g, i * 8 + 4, none⟩ (.bool (bAt c 5 2))).setCell ⟨g, i * 8 + 5, none⟩ (.bool (bAt c 5 3))).setCell ⟨g, i * 8 + 6, none⟩ (.bool (bAt c 5 4))).setCell ⟨g, i * 8 + 7, none⟩ (.bool true)) := ((((((((Mod.setCell (F := fun k => k = g) _ ⟨g, i * 8, none⟩ _ rfl).trans (Mod.setCell (F := fun k => k = g) _ ⟨g, i * 8 + 1, none⟩ _ rfl)).trans (Mod.setCell (F := fun k => k = g) _ ⟨g, i * 8 + 2, none⟩ _ rfl)).trans (Mod.setCell (F := fun k => k = g) _ ⟨g, i * 8 + 3, none⟩ _ rfl)).trans (Mod.setCell (F := fun k => k = g) _ ⟨g, i * 8 + 4, none⟩ _ rfl)).trans (Mod.setCell (F := fun k => k = g) _ ⟨g, i * 8 + 5, none⟩ _ rfl)).trans (Mod.setCell (F := fun k => k = g) _ ⟨g, i * 8 + 6, none⟩ _ rfl)).trans (Mod.setCell (F := fun k => k = g) _ ⟨g, i * 8 + 7, none⟩ _ rfl))
  have o0 := own_set (k := i * 8) h.own (.int .i64 c.space)
  have o1 := own_set (k := i * 8 + 1) o0 (.string c.name)
  have o2 := own_set (k := i * 8 + 2) o1 (.bool (bAt c 5 0))
  have o3 := own_set (k := i * 8 + 3) o2 (.bool (bAt c 5 1))
  have o4 := own_set (k := i * 8 + 4) o3 (.bool (bAt c 5 2))
  have o5 := own_set (k := i * 8 + 5) o4 (.bool (bAt c 5 3))
  have o6 := own_set (k := i * 8 + 6) o5 (.bool (bAt c 5 4))
  have o7 := own_set (k := i * 8 + 7) o6 (.bool true)
  have e := mRow_set c ms i hi
  unfold set8 at e
  rw [e] at o7
  refine ⟨⟨(hm.block bM (lt_of_block h.box) (fun e => hne e.symm)).trans h.box, ?_, h.lo⟩, hm⟩
  rw [List.length_set]
  exact o7
end
end Go.Proofs.Ytmllhebmaldgfaa
