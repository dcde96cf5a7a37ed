import Derived.Test.YtmllhebmaldgfaaNd
/-
  Borders of the scopes.
-/
namespace Go.Proofs.Ytmllhebmaldgfaa
open Go.RowKit

def olB : ByteArray := ⟨#[111, 108]⟩
def ulB : ByteArray := ⟨#[117, 108]⟩
def buttonB : ByteArray := ⟨#[98, 117, 116, 116, 111, 110]⟩
def optgroupB : ByteArray := ⟨#[111, 112, 116, 103, 114, 111, 117, 112]⟩
def optionB : ByteArray := ⟨#[111, 112, 116, 105, 111, 110]⟩

def borderM (c : Cal) (k : Int) : Bool :=
  if k = 0 then plainM c
  else if k = 1 then plainM c || namedM c olB || namedM c ulB
  else if k = 2 then plainM c || namedM c buttonB
  else if k = 3 then amongM c 0 tblT
  else !namedM c optgroupB && !namedM c optionB

/-- A box of what an element is called, in whatever world comes of it. -/
theorem box_after {w w1 : World} {cs : Int} {cn : ByteArray} (hb : Below (w.alloc (.cells #[.int .i64 cs, .string cn] 100)).heap.size (w.alloc (.cells #[.int .i64 cs, .string cn] 100)) w1) :
    w1.cell? ⟨w.heap.size, 0, none⟩ = some (.int .i64 cs) ∧ w1.cell? ⟨w.heap.size, 1, none⟩ = some (.string cn) := first_cells w _ _ _ _ hb
theorem below_box {w w1 : World} {o : Obj} (hb : Below (w.alloc o).heap.size (w.alloc o) w1) : Below w.heap.size w w1 := (below_new w o).trans (hb.mono (by simp))
theorem calls_more {f : Nat} {args : Array Value} {W w1 : World} {v : Value} (hb : Below W.heap.size W w1) (h : Calls Try.prog f args w1 fun e w' => e = .returned v ∧ Below w1.heap.size w1 w') : Calls Try.prog f args w1 fun e w' => e = .returned v ∧ Below W.heap.size W w' :=
  h.mono fun _ _ ⟨a, b⟩ => ⟨a, hb.trans (b.mono hb.size)⟩

set_option maxHeartbeats 2000000 in
theorem isBorder_0 (c : Cal) (w : World) : Calls Try.prog 127 #[c.agg, .int .i64 0] w fun e w' => e = .returned (.bool (borderM c 0)) ∧ Below w.heap.size w w' := by
  obtain ⟨cs, cn⟩ := c
  have HP : Hid (∀ w1, Below (w.alloc (.cells #[.int .i64 cs, .string cn] 100)).heap.size (w.alloc (.cells #[.int .i64 cs, .string cn] 100)) w1 → Calls Try.prog 132 #[.agg #[.int .i64 cs, .string cn]] w1 fun e w' => e = .returned (.bool (plainM ⟨cs, cn⟩)) ∧ Below (w.alloc (.cells #[.int .i64 cs, .string cn] 100)).heap.size (w.alloc (.cells #[.int .i64 cs, .string cn] 100)) w') := hide (fun w1 hb => calls_more hb (isPlainBorder_any ⟨cs, cn⟩ w1))
  have HT : Hid (∀ w1, Below (w.alloc (.cells #[.int .i64 cs, .string cn] 100)).heap.size (w.alloc (.cells #[.int .i64 cs, .string cn] 100)) w1 → Calls Try.prog 133 #[.agg #[.int .i64 cs, .string cn]] w1 fun e w' => e = .returned (.bool (amongM ⟨cs, cn⟩ 0 tblT)) ∧ Below (w.alloc (.cells #[.int .i64 cs, .string cn] 100)).heap.size (w.alloc (.cells #[.int .i64 cs, .string cn] 100)) w') := hide (fun w1 hb => calls_more hb (isTableBorder_any ⟨cs, cn⟩ w1))
  have e0 : borderM ⟨cs, cn⟩ 0 = plainM ⟨cs, cn⟩ := rfl
  rw [e0]
  generalize plainM ⟨cs, cn⟩ = r at *
  unfold Cal.agg
  clear HT e0
  go_enter Try.func127, Try.ntmps127
  go_wp2_with (first | (go_at_call 132; refine ((unhide HP) _ (Below.refl _ _)).mono ?_; rintro e w1 ⟨rfl, hb⟩; have HB1 := hide hb; obtain ⟨x1a, x1b⟩ := box_after hb; clear hb))
  go_ret
  exact ⟨rfl, below_box (unhide HB1)⟩

set_option maxHeartbeats 2000000 in
theorem isBorder_3 (c : Cal) (w : World) : Calls Try.prog 127 #[c.agg, .int .i64 3] w fun e w' => e = .returned (.bool (borderM c 3)) ∧ Below w.heap.size w w' := by
  obtain ⟨cs, cn⟩ := c
  have HP : Hid (∀ w1, Below (w.alloc (.cells #[.int .i64 cs, .string cn] 100)).heap.size (w.alloc (.cells #[.int .i64 cs, .string cn] 100)) w1 → Calls Try.prog 132 #[.agg #[.int .i64 cs, .string cn]] w1 fun e w' => e = .returned (.bool (plainM ⟨cs, cn⟩)) ∧ Below (w.alloc (.cells #[.int .i64 cs, .string cn] 100)).heap.size (w.alloc (.cells #[.int .i64 cs, .string cn] 100)) w') := hide (fun w1 hb => calls_more hb (isPlainBorder_any ⟨cs, cn⟩ w1))
  have HT : Hid (∀ w1, Below (w.alloc (.cells #[.int .i64 cs, .string cn] 100)).heap.size (w.alloc (.cells #[.int .i64 cs, .string cn] 100)) w1 → Calls Try.prog 133 #[.agg #[.int .i64 cs, .string cn]] w1 fun e w' => e = .returned (.bool (amongM ⟨cs, cn⟩ 0 tblT)) ∧ Below (w.alloc (.cells #[.int .i64 cs, .string cn] 100)).heap.size (w.alloc (.cells #[.int .i64 cs, .string cn] 100)) w') := hide (fun w1 hb => calls_more hb (isTableBorder_any ⟨cs, cn⟩ w1))
  have e0 : borderM ⟨cs, cn⟩ 3 = amongM ⟨cs, cn⟩ 0 tblT := rfl
  rw [e0]
  generalize amongM ⟨cs, cn⟩ 0 tblT = r at *
  unfold Cal.agg
  clear HP e0
  go_enter Try.func127, Try.ntmps127
  go_wp2_with (first | (go_at_call 133; refine ((unhide HT) _ (Below.refl _ _)).mono ?_; rintro e w1 ⟨rfl, hb⟩; have HB1 := hide hb; obtain ⟨x1a, x1b⟩ := box_after hb; clear hb))
  go_ret
  exact ⟨rfl, below_box (unhide HB1)⟩

set_option maxHeartbeats 2000000 in
theorem isBorder_2 (c : Cal) (w : World) : Calls Try.prog 127 #[c.agg, .int .i64 2] w fun e w' => e = .returned (.bool (borderM c 2)) ∧ Below w.heap.size w w' := by
  obtain ⟨cs, cn⟩ := c
  have HP : Hid (∀ w1, Below (w.alloc (.cells #[.int .i64 cs, .string cn] 100)).heap.size (w.alloc (.cells #[.int .i64 cs, .string cn] 100)) w1 → Calls Try.prog 132 #[.agg #[.int .i64 cs, .string cn]] w1 fun e w' => e = .returned (.bool (plainM ⟨cs, cn⟩)) ∧ Below (w.alloc (.cells #[.int .i64 cs, .string cn] 100)).heap.size (w.alloc (.cells #[.int .i64 cs, .string cn] 100)) w') := hide (fun w1 hb => calls_more hb (isPlainBorder_any ⟨cs, cn⟩ w1))
  have HT : Hid (∀ w1, Below (w.alloc (.cells #[.int .i64 cs, .string cn] 100)).heap.size (w.alloc (.cells #[.int .i64 cs, .string cn] 100)) w1 → Calls Try.prog 133 #[.agg #[.int .i64 cs, .string cn]] w1 fun e w' => e = .returned (.bool (amongM ⟨cs, cn⟩ 0 tblT)) ∧ Below (w.alloc (.cells #[.int .i64 cs, .string cn] 100)).heap.size (w.alloc (.cells #[.int .i64 cs, .string cn] 100)) w') := hide (fun w1 hb => calls_more hb (isTableBorder_any ⟨cs, cn⟩ w1))
  have HN_button : Hid (∀ w1, Below (w.alloc (.cells #[.int .i64 cs, .string cn] 100)).heap.size (w.alloc (.cells #[.int .i64 cs, .string cn] 100)) w1 → Calls Try.prog 67 #[.agg #[.int .i64 cs, .string cn], .string ⟨#[98, 117, 116, 116, 111, 110]⟩] w1 fun e w' => e = .returned (.bool (namedM ⟨cs, cn⟩ buttonB)) ∧ Below (w.alloc (.cells #[.int .i64 cs, .string cn] 100)).heap.size (w.alloc (.cells #[.int .i64 cs, .string cn] 100)) w') := hide (fun w1 hb => calls_more hb (isNamed_any ⟨cs, cn⟩ buttonB w1))
  have e0 : borderM ⟨cs, cn⟩ 2 = (plainM ⟨cs, cn⟩ || namedM ⟨cs, cn⟩ buttonB) := rfl
  rw [e0]
  generalize plainM ⟨cs, cn⟩ = r at *
  generalize namedM ⟨cs, cn⟩ buttonB = r1 at *
  unfold Cal.agg
  clear HT e0
  cases r with
  | true =>
    go_enter Try.func127, Try.ntmps127
    go_wp2_with (first | (go_at_call 132; refine ((unhide HP) _ (Below.refl _ _)).mono ?_; rintro e w1 ⟨rfl, hb⟩; have HB1 := hide hb; obtain ⟨x1a, x1b⟩ := box_after hb; clear hb))
    go_ret
    exact ⟨rfl, below_box (unhide HB1)⟩
  | false =>
    go_enter Try.func127, Try.ntmps127
    go_wp2_with (first | (have _x := unhide HB1; clear _x; go_at_call 67; refine ((unhide HN_button) _ (unhide HB1)).mono ?_; rintro e w2 ⟨rfl, hb⟩; have HB2 := hide hb; obtain ⟨x2a, x2b⟩ := box_after hb; clear hb) | (go_at_call 132; refine ((unhide HP) _ (Below.refl _ _)).mono ?_; rintro e w1 ⟨rfl, hb⟩; have HB1 := hide hb; obtain ⟨x1a, x1b⟩ := box_after hb; clear hb))
    go_ret
    exact ⟨rfl, below_box (unhide HB2)⟩

set_option maxHeartbeats 2000000 in
theorem isBorder_1 (c : Cal) (w : World) : Calls Try.prog 127 #[c.agg, .int .i64 1] w fun e w' => e = .returned (.bool (borderM c 1)) ∧ Below w.heap.size w w' := by
  obtain ⟨cs, cn⟩ := c
  have HP : Hid (∀ w1, Below (w.alloc (.cells #[.int .i64 cs, .string cn] 100)).heap.size (w.alloc (.cells #[.int .i64 cs, .string cn] 100)) w1 → Calls Try.prog 132 #[.agg #[.int .i64 cs, .string cn]] w1 fun e w' => e = .returned (.bool (plainM ⟨cs, cn⟩)) ∧ Below (w.alloc (.cells #[.int .i64 cs, .string cn] 100)).heap.size (w.alloc (.cells #[.int .i64 cs, .string cn] 100)) w') := hide (fun w1 hb => calls_more hb (isPlainBorder_any ⟨cs, cn⟩ w1))
  have HT : Hid (∀ w1, Below (w.alloc (.cells #[.int .i64 cs, .string cn] 100)).heap.size (w.alloc (.cells #[.int .i64 cs, .string cn] 100)) w1 → Calls Try.prog 133 #[.agg #[.int .i64 cs, .string cn]] w1 fun e w' => e = .returned (.bool (amongM ⟨cs, cn⟩ 0 tblT)) ∧ Below (w.alloc (.cells #[.int .i64 cs, .string cn] 100)).heap.size (w.alloc (.cells #[.int .i64 cs, .string cn] 100)) w') := hide (fun w1 hb => calls_more hb (isTableBorder_any ⟨cs, cn⟩ w1))
  have HN_ol : Hid (∀ w1, Below (w.alloc (.cells #[.int .i64 cs, .string cn] 100)).heap.size (w.alloc (.cells #[.int .i64 cs, .string cn] 100)) w1 → Calls Try.prog 67 #[.agg #[.int .i64 cs, .string cn], .string ⟨#[111, 108]⟩] w1 fun e w' => e = .returned (.bool (namedM ⟨cs, cn⟩ olB)) ∧ Below (w.alloc (.cells #[.int .i64 cs, .string cn] 100)).heap.size (w.alloc (.cells #[.int .i64 cs, .string cn] 100)) w') := hide (fun w1 hb => calls_more hb (isNamed_any ⟨cs, cn⟩ olB w1))
  have HN_ul : Hid (∀ w1, Below (w.alloc (.cells #[.int .i64 cs, .string cn] 100)).heap.size (w.alloc (.cells #[.int .i64 cs, .string cn] 100)) w1 → Calls Try.prog 67 #[.agg #[.int .i64 cs, .string cn], .string ⟨#[117, 108]⟩] w1 fun e w' => e = .returned (.bool (namedM ⟨cs, cn⟩ ulB)) ∧ Below (w.alloc (.cells #[.int .i64 cs, .string cn] 100)).heap.size (w.alloc (.cells #[.int .i64 cs, .string cn] 100)) w') := hide (fun w1 hb => calls_more hb (isNamed_any ⟨cs, cn⟩ ulB w1))
  have e0 : borderM ⟨cs, cn⟩ 1 = (plainM ⟨cs, cn⟩ || namedM ⟨cs, cn⟩ olB || namedM ⟨cs, cn⟩ ulB) := rfl
  rw [e0]
  generalize plainM ⟨cs, cn⟩ = r at *
  generalize namedM ⟨cs, cn⟩ olB = r1 at *
  generalize namedM ⟨cs, cn⟩ ulB = r2 at *
  unfold Cal.agg
  clear HT e0
  cases r with
  | true =>
    go_enter Try.func127, Try.ntmps127
    go_wp2_with (first | (go_at_call 132; refine ((unhide HP) _ (Below.refl _ _)).mono ?_; rintro e w1 ⟨rfl, hb⟩; have HB1 := hide hb; obtain ⟨x1a, x1b⟩ := box_after hb; clear hb))
    go_ret
    exact ⟨rfl, below_box (unhide HB1)⟩
  | false =>
    cases r1 with
    | true =>
      go_enter Try.func127, Try.ntmps127
      go_wp2_with (first | (have _x := unhide HB1; clear _x; go_at_call 67; refine ((unhide HN_ol) _ (unhide HB1)).mono ?_; rintro e w2 ⟨rfl, hb⟩; have HB2 := hide hb; obtain ⟨x2a, x2b⟩ := box_after hb; clear hb) | (go_at_call 132; refine ((unhide HP) _ (Below.refl _ _)).mono ?_; rintro e w1 ⟨rfl, hb⟩; have HB1 := hide hb; obtain ⟨x1a, x1b⟩ := box_after hb; clear hb))
      go_ret
      exact ⟨rfl, below_box (unhide HB2)⟩
    | false =>
      go_enter Try.func127, Try.ntmps127
      go_wp2_with (first | (have _x := unhide HB2; clear _x; go_at_call 67; refine ((unhide HN_ul) _ (unhide HB2)).mono ?_; rintro e w3 ⟨rfl, hb⟩; have HB3 := hide hb; obtain ⟨x3a, x3b⟩ := box_after hb; clear hb) | (have _x := unhide HB1; clear _x; go_at_call 67; refine ((unhide HN_ol) _ (unhide HB1)).mono ?_; rintro e w2 ⟨rfl, hb⟩; have HB2 := hide hb; obtain ⟨x2a, x2b⟩ := box_after hb; clear hb) | (go_at_call 132; refine ((unhide HP) _ (Below.refl _ _)).mono ?_; rintro e w1 ⟨rfl, hb⟩; have HB1 := hide hb; obtain ⟨x1a, x1b⟩ := box_after hb; clear hb))
      go_ret
      exact ⟨rfl, below_box (unhide HB3)⟩

set_option maxHeartbeats 2000000 in
theorem isBorder_4 (c : Cal) (w : World) : Calls Try.prog 127 #[c.agg, .int .i64 4] w fun e w' => e = .returned (.bool (borderM c 4)) ∧ Below w.heap.size w w' := by
  obtain ⟨cs, cn⟩ := c
  have HN_optgroup : Hid (∀ w1, Below (w.alloc (.cells #[.int .i64 cs, .string cn] 100)).heap.size (w.alloc (.cells #[.int .i64 cs, .string cn] 100)) w1 → Calls Try.prog 67 #[.agg #[.int .i64 cs, .string cn], .string ⟨#[111, 112, 116, 103, 114, 111, 117, 112]⟩] w1 fun e w' => e = .returned (.bool (namedM ⟨cs, cn⟩ optgroupB)) ∧ Below (w.alloc (.cells #[.int .i64 cs, .string cn] 100)).heap.size (w.alloc (.cells #[.int .i64 cs, .string cn] 100)) w') := hide (fun w1 hb => calls_more hb (isNamed_any ⟨cs, cn⟩ optgroupB w1))
  have HN_option : Hid (∀ w1, Below (w.alloc (.cells #[.int .i64 cs, .string cn] 100)).heap.size (w.alloc (.cells #[.int .i64 cs, .string cn] 100)) w1 → Calls Try.prog 67 #[.agg #[.int .i64 cs, .string cn], .string ⟨#[111, 112, 116, 105, 111, 110]⟩] w1 fun e w' => e = .returned (.bool (namedM ⟨cs, cn⟩ optionB)) ∧ Below (w.alloc (.cells #[.int .i64 cs, .string cn] 100)).heap.size (w.alloc (.cells #[.int .i64 cs, .string cn] 100)) w') := hide (fun w1 hb => calls_more hb (isNamed_any ⟨cs, cn⟩ optionB w1))
  have e0 : borderM ⟨cs, cn⟩ 4 = (!namedM ⟨cs, cn⟩ optgroupB && !namedM ⟨cs, cn⟩ optionB) := rfl
  rw [e0]
  generalize namedM ⟨cs, cn⟩ optgroupB = r1 at *
  generalize namedM ⟨cs, cn⟩ optionB = r2 at *
  unfold Cal.agg
  clear e0
  cases r1 with
  | true =>
    go_enter Try.func127, Try.ntmps127
    go_wp2_with (first | (go_at_call 67; refine ((unhide HN_optgroup) _ (Below.refl _ _)).mono ?_; rintro e w1 ⟨rfl, hb⟩; have HB1 := hide hb; obtain ⟨x1a, x1b⟩ := box_after hb; clear hb))
    go_ret
    exact ⟨rfl, below_box (unhide HB1)⟩
  | false =>
    go_enter Try.func127, Try.ntmps127
    go_wp2_with (first | (have _x := unhide HB1; clear _x; go_at_call 67; refine ((unhide HN_option) _ (unhide HB1)).mono ?_; rintro e w2 ⟨rfl, hb⟩; have HB2 := hide hb; obtain ⟨x2a, x2b⟩ := box_after hb; clear hb) | (go_at_call 67; refine ((unhide HN_optgroup) _ (Below.refl _ _)).mono ?_; rintro e w1 ⟨rfl, hb⟩; have HB1 := hide hb; obtain ⟨x1a, x1b⟩ := box_after hb; clear hb))
    go_ret
    exact ⟨rfl, below_box (unhide HB2)⟩

theorem isBorder_any (c : Cal) (k : Int) (h0 : 0 ≤ k) (h4 : k ≤ 4) (w : World) : Calls Try.prog 127 #[c.agg, .int .i64 k] w fun e w' => e = .returned (.bool (borderM c k)) ∧ Below w.heap.size w w' := by
  have : k = 0 ∨ k = 1 ∨ k = 2 ∨ k = 3 ∨ k = 4 := by omega
  rcases this with rfl | rfl | rfl | rfl | rfl
  · exact isBorder_0 c w
  · exact isBorder_1 c w
  · exact isBorder_2 c w
  · exact isBorder_3 c w
  · exact isBorder_4 c w
end Go.Proofs.Ytmllhebmaldgfaa
