/-
   
-/
import Derived.Test.YtmkdnmkckipnaaaGreatSBao
import Derived.Great.CaseRows
namespace Go.Proofs.YtmkdnmkckipnaaaGreat
open Go.RowKit

def olB : ByteArray := ⟨#[111, 108]⟩
def ulB : ByteArray := ⟨#[117, 108]⟩
def buttonB : ByteArray := ⟨#[98, 117, 116, 116, 111, 110]⟩
def optgroupB : ByteArray := ⟨#[111, 112, 116, 103, 114, 111, 117, 112]⟩
def optionB : ByteArray := ⟨#[111, 112, 116, 105, 111, 110]⟩

def borderM (c : Cal) (k : Int) : Bool :=
  if k = 0 then plainM c
  else if k = 1 then plainM c || namedM c olB || namedM c ulB
  else if k = 2 then plainM c || namedM c buttonB
  else if k = 3 then amongM c 0 tblT
  else !namedM c optgroupB && !namedM c optionB

/-- A box of what an element is called, in whatever world comes of it. -/
theorem box_after {w w1 : World} {cs : Int} {cn : ByteArray} (hb : Below (w.alloc (.cells #[.int .i64 cs, .string cn] 183)).heap.size (w.alloc (.cells #[.int .i64 cs, .string cn] 183)) w1) :
    w1.cell? ⟨w.heap.size, 0, none⟩ = some (.int .i64 cs) ∧ w1.cell? ⟨w.heap.size, 1, none⟩ = some (.string cn) := first_cells w _ _ _ _ hb
theorem below_box {w w1 : World} {o : Obj} (hb : Below (w.alloc o).heap.size (w.alloc o) w1) : Below w.heap.size w w1 := (below_new w o).trans (hb.mono (by simp))
theorem calls_more {f : Nat} {args : Array Value} {W w1 : World} {v : Value} (hb : Below W.heap.size W w1) (h : Calls Tryz.prog f args w1 fun e w' => e = .returned v ∧ Below w1.heap.size w1 w') : Calls Tryz.prog f args w1 fun e w' => e = .returned v ∧ Below W.heap.size W w' :=
  h.mono fun _ _ ⟨a, b⟩ => ⟨a, hb.trans (b.mono hb.size)⟩

set_option maxHeartbeats 2000000 in
theorem isBorder_0 (c : Cal) (w : World) : Calls Tryz.prog 156 #[c.agg, .int .i64 0] w fun e w' => e = .returned (.bool (borderM c 0)) ∧ Below w.heap.size w w' := by
  obtain ⟨cs, cn⟩ := c
  have HP : Hid (∀ w1, Below (w.alloc (.cells #[.int .i64 cs, .string cn] 183)).heap.size (w.alloc (.cells #[.int .i64 cs, .string cn] 183)) w1 → Calls Tryz.prog 186 #[.agg #[.int .i64 cs, .string cn]] w1 fun e w' => e = .returned (.bool (plainM ⟨cs, cn⟩)) ∧ Below (w.alloc (.cells #[.int .i64 cs, .string cn] 183)).heap.size (w.alloc (.cells #[.int .i64 cs, .string cn] 183)) w') := hide (fun w1 hb => calls_more hb (isPlainBorder_any ⟨cs, cn⟩ w1))
  have HT : Hid (∀ w1, Below (w.alloc (.cells #[.int .i64 cs, .string cn] 183)).heap.size (w.alloc (.cells #[.int .i64 cs, .string cn] 183)) w1 → Calls Tryz.prog 188 #[.agg #[.int .i64 cs, .string cn]] w1 fun e w' => e = .returned (.bool (amongM ⟨cs, cn⟩ 0 tblT)) ∧ Below (w.alloc (.cells #[.int .i64 cs, .string cn] 183)).heap.size (w.alloc (.cells #[.int .i64 cs, .string cn] 183)) w') := hide (fun w1 hb => calls_more hb (isTableBorder_any ⟨cs, cn⟩ w1))
  have e0 : borderM ⟨cs, cn⟩ 0 = plainM ⟨cs, cn⟩ := rfl
  rw [e0]
  generalize plainM ⟨cs, cn⟩ = r at *
  unfold Cal.agg
  clear HT e0
  go_enter Tryz.func156, Tryz.ntmps156
  go_wp2_with (first | (go_at_call 186; refine ((unhide HP) _ (Below.refl _ _)).mono ?_; rintro e w1 ⟨rfl, hb⟩; have HB1 := hide hb; obtain ⟨x1a, x1b⟩ := box_after hb; clear hb))
  go_ret
  exact ⟨rfl, below_box (unhide HB1)⟩

set_option maxHeartbeats 2000000 in
theorem isBorder_3 (c : Cal) (w : World) : Calls Tryz.prog 156 #[c.agg, .int .i64 3] w fun e w' => e = .returned (.bool (borderM c 3)) ∧ Below w.heap.size w w' := by
  obtain ⟨cs, cn⟩ := c
  have HP : Hid (∀ w1, Below (w.alloc (.cells #[.int .i64 cs, .string cn] 183)).heap.size (w.alloc (.cells #[.int .i64 cs, .string cn] 183)) w1 → Calls Tryz.prog 186 #[.agg #[.int .i64 cs, .string cn]] w1 fun e w' => e = .returned (.bool (plainM ⟨cs, cn⟩)) ∧ Below (w.alloc (.cells #[.int .i64 cs, .string cn] 183)).heap.size (w.alloc (.cells #[.int .i64 cs, .string cn] 183)) w') := hide (fun w1 hb => calls_more hb (isPlainBorder_any ⟨cs, cn⟩ w1))
  have HT : Hid (∀ w1, Below (w.alloc (.cells #[.int .i64 cs, .string cn] 183)).heap.size (w.alloc (.cells #[.int .i64 cs, .string cn] 183)) w1 → Calls Tryz.prog 188 #[.agg #[.int .i64 cs, .string cn]] w1 fun e w' => e = .returned (.bool (amongM ⟨cs, cn⟩ 0 tblT)) ∧ Below (w.alloc (.cells #[.int .i64 cs, .string cn] 183)).heap.size (w.alloc (.cells #[.int .i64 cs, .string cn] 183)) w') := hide (fun w1 hb => calls_more hb (isTableBorder_any ⟨cs, cn⟩ w1))
  have e0 : borderM ⟨cs, cn⟩ 3 = amongM ⟨cs, cn⟩ 0 tblT := rfl
  rw [e0]
  generalize amongM ⟨cs, cn⟩ 0 tblT = r at *
  unfold Cal.agg
  clear HP e0
  go_enter Tryz.func156, Tryz.ntmps156
  go_wp2_with (first | (go_at_call 188; refine ((unhide HT) _ (Below.refl _ _)).mono ?_; rintro e w1 ⟨rfl, hb⟩; have HB1 := hide hb; obtain ⟨x1a, x1b⟩ := box_after hb; clear hb))
  go_ret
  exact ⟨rfl, below_box (unhide HB1)⟩

set_option maxHeartbeats 2000000 in
theorem isBorder_2 (c : Cal) (w : World) : Calls Tryz.prog 156 #[c.agg, .int .i64 2] w fun e w' => e = .returned (.bool (borderM c 2)) ∧ Below w.heap.size w w' := by
  obtain ⟨cs, cn⟩ := c
  have HP : Hid (∀ w1, Below (w.alloc (.cells #[.int .i64 cs, .string cn] 183)).heap.size (w.alloc (.cells #[.int .i64 cs, .string cn] 183)) w1 → Calls Tryz.prog 186 #[.agg #[.int .i64 cs, .string cn]] w1 fun e w' => e = .returned (.bool (plainM ⟨cs, cn⟩)) ∧ Below (w.alloc (.cells #[.int .i64 cs, .string cn] 183)).heap.size (w.alloc (.cells #[.int .i64 cs, .string cn] 183)) w') := hide (fun w1 hb => calls_more hb (isPlainBorder_any ⟨cs, cn⟩ w1))
  have HT : Hid (∀ w1, Below (w.alloc (.cells #[.int .i64 cs, .string cn] 183)).heap.size (w.alloc (.cells #[.int .i64 cs, .string cn] 183)) w1 → Calls Tryz.prog 188 #[.agg #[.int .i64 cs, .string cn]] w1 fun e w' => e = .returned (.bool (amongM ⟨cs, cn⟩ 0 tblT)) ∧ Below (w.alloc (.cells #[.int .i64 cs, .string cn] 183)).heap.size (w.alloc (.cells #[.int .i64 cs, .string cn] 183)) w') := hide (fun w1 hb => calls_more hb (isTableBorder_any ⟨cs, cn⟩ w1))
  have HN_button : Hid (∀ w1, Below (w.alloc (.cells #[.int .i64 cs, .string cn] 183)).heap.size (w.alloc (.cells #[.int .i64 cs, .string cn] 183)) w1 → Calls Tryz.prog 187 #[.agg #[.int .i64 cs, .string cn], .string ⟨#[98, 117, 116, 116, 111, 110]⟩] w1 fun e w' => e = .returned (.bool (namedM ⟨cs, cn⟩ buttonB)) ∧ Below (w.alloc (.cells #[.int .i64 cs, .string cn] 183)).heap.size (w.alloc (.cells #[.int .i64 cs, .string cn] 183)) w') := hide (fun w1 hb => calls_more hb (isNamed_any ⟨cs, cn⟩ buttonB w1))
  have e0 : borderM ⟨cs, cn⟩ 2 = (plainM ⟨cs, cn⟩ || namedM ⟨cs, cn⟩ buttonB) := rfl
  rw [e0]
  generalize plainM ⟨cs, cn⟩ = r at *
  generalize namedM ⟨cs, cn⟩ buttonB = r1 at *
  unfold Cal.agg
  clear HT e0
  cases r with
  | true =>
    go_enter Tryz.func156, Tryz.ntmps156
    go_wp2_with (first | (go_at_call 186; refine ((unhide HP) _ (Below.refl _ _)).mono ?_; rintro e w1 ⟨rfl, hb⟩; have HB1 := hide hb; obtain ⟨x1a, x1b⟩ := box_after hb; clear hb))
    go_ret
    exact ⟨rfl, below_box (unhide HB1)⟩
  | false =>
    go_enter Tryz.func156, Tryz.ntmps156
    go_wp2_with (first | (have _x := unhide HB1; clear _x; go_at_call 187; refine ((unhide HN_button) _ (unhide HB1)).mono ?_; rintro e w2 ⟨rfl, hb⟩; have HB2 := hide hb; obtain ⟨x2a, x2b⟩ := box_after hb; clear hb) | (go_at_call 186; refine ((unhide HP) _ (Below.refl _ _)).mono ?_; rintro e w1 ⟨rfl, hb⟩; have HB1 := hide hb; obtain ⟨x1a, x1b⟩ := box_after hb; clear hb))
    go_ret
    exact ⟨rfl, below_box (unhide HB2)⟩

set_option maxHeartbeats 2000000 in
theorem isBorder_1 (c : Cal) (w : World) : Calls Tryz.prog 156 #[c.agg, .int .i64 1] w fun e w' => e = .returned (.bool (borderM c 1)) ∧ Below w.heap.size w w' := by
  obtain ⟨cs, cn⟩ := c
  have HP : Hid (∀ w1, Below (w.alloc (.cells #[.int .i64 cs, .string cn] 183)).heap.size (w.alloc (.cells #[.int .i64 cs, .string cn] 183)) w1 → Calls Tryz.prog 186 #[.agg #[.int .i64 cs, .string cn]] w1 fun e w' => e = .returned (.bool (plainM ⟨cs, cn⟩)) ∧ Below (w.alloc (.cells #[.int .i64 cs, .string cn] 183)).heap.size (w.alloc (.cells #[.int .i64 cs, .string cn] 183)) w') := hide (fun w1 hb => calls_more hb (isPlainBorder_any ⟨cs, cn⟩ w1))
  have HT : Hid (∀ w1, Below (w.alloc (.cells #[.int .i64 cs, .string cn] 183)).heap.size (w.alloc (.cells #[.int .i64 cs, .string cn] 183)) w1 → Calls Tryz.prog 188 #[.agg #[.int .i64 cs, .string cn]] w1 fun e w' => e = .returned (.bool (amongM ⟨cs, cn⟩ 0 tblT)) ∧ Below (w.alloc (.cells #[.int .i64 cs, .string cn] 183)).heap.size (w.alloc (.cells #[.int .i64 cs, .string cn] 183)) w') := hide (fun w1 hb => calls_more hb (isTableBorder_any ⟨cs, cn⟩ w1))
  have HN_ol : Hid (∀ w1, Below (w.alloc (.cells #[.int .i64 cs, .string cn] 183)).heap.size (w.alloc (.cells #[.int .i64 cs, .string cn] 183)) w1 → Calls Tryz.prog 187 #[.agg #[.int .i64 cs, .string cn], .string ⟨#[111, 108]⟩] w1 fun e w' => e = .returned (.bool (namedM ⟨cs, cn⟩ olB)) ∧ Below (w.alloc (.cells #[.int .i64 cs, .string cn] 183)).heap.size (w.alloc (.cells #[.int .i64 cs, .string cn] 183)) w') := hide (fun w1 hb => calls_more hb (isNamed_any ⟨cs, cn⟩ olB w1))
  have HN_ul : Hid (∀ w1, Below (w.alloc (.cells #[.int .i64 cs, .string cn] 183)).heap.size (w.alloc (.cells #[.int .i64 cs, .string cn] 183)) w1 → Calls Tryz.prog 187 #[.agg #[.int .i64 cs, .string cn], .string ⟨#[117, 108]⟩] w1 fun e w' => e = .returned (.bool (namedM ⟨cs, cn⟩ ulB)) ∧ Below (w.alloc (.cells #[.int .i64 cs, .string cn] 183)).heap.size (w.alloc (.cells #[.int .i64 cs, .string cn] 183)) w') := hide (fun w1 hb => calls_more hb (isNamed_any ⟨cs, cn⟩ ulB w1))
  have e0 : borderM ⟨cs, cn⟩ 1 = (plainM ⟨cs, cn⟩ || namedM ⟨cs, cn⟩ olB || namedM ⟨cs, cn⟩ ulB) := rfl
  rw [e0]
  generalize plainM ⟨cs, cn⟩ = r at *
  generalize namedM ⟨cs, cn⟩ olB = r1 at *
  generalize namedM ⟨cs, cn⟩ ulB = r2 at *
  unfold Cal.agg
  clear HT e0
  cases r with
  | true =>
    go_enter Tryz.func156, Tryz.ntmps156
    go_wp2_with (first | (go_at_call 186; refine ((unhide HP) _ (Below.refl _ _)).mono ?_; rintro e w1 ⟨rfl, hb⟩; have HB1 := hide hb; obtain ⟨x1a, x1b⟩ := box_after hb; clear hb))
    go_ret
    exact ⟨rfl, below_box (unhide HB1)⟩
  | false =>
    cases r1 with
    | true =>
      go_enter Tryz.func156, Tryz.ntmps156
      go_wp2_with (first | (have _x := unhide HB1; clear _x; go_at_call 187; refine ((unhide HN_ol) _ (unhide HB1)).mono ?_; rintro e w2 ⟨rfl, hb⟩; have HB2 := hide hb; obtain ⟨x2a, x2b⟩ := box_after hb; clear hb) | (go_at_call 186; refine ((unhide HP) _ (Below.refl _ _)).mono ?_; rintro e w1 ⟨rfl, hb⟩; have HB1 := hide hb; obtain ⟨x1a, x1b⟩ := box_after hb; clear hb))
      go_ret
      exact ⟨rfl, below_box (unhide HB2)⟩
    | false =>
      go_enter Tryz.func156, Tryz.ntmps156
      go_wp2_with (first | (have _x := unhide HB2; clear _x; go_at_call 187; refine ((unhide HN_ul) _ (unhide HB2)).mono ?_; rintro e w3 ⟨rfl, hb⟩; have HB3 := hide hb; obtain ⟨x3a, x3b⟩ := box_after hb; clear hb) | (have _x := unhide HB1; clear _x; go_at_call 187; refine ((unhide HN_ol) _ (unhide HB1)).mono ?_; rintro e w2 ⟨rfl, hb⟩; have HB2 := hide hb; obtain ⟨x2a, x2b⟩ := box_after hb; clear hb) | (go_at_call 186; refine ((unhide HP) _ (Below.refl _ _)).mono ?_; rintro e w1 ⟨rfl, hb⟩; have HB1 := hide hb; obtain ⟨x1a, x1b⟩ := box_after hb; clear hb))
      go_ret
      exact ⟨rfl, below_box (unhide HB3)⟩

set_option maxHeartbeats 2000000 in
theorem isBorder_4 (c : Cal) (w : World) : Calls Tryz.prog 156 #[c.agg, .int .i64 4] w fun e w' => e = .returned (.bool (borderM c 4)) ∧ Below w.heap.size w w' := by
  obtain ⟨cs, cn⟩ := c
  have HN_optgroup : Hid (∀ w1, Below (w.alloc (.cells #[.int .i64 cs, .string cn] 183)).heap.size (w.alloc (.cells #[.int .i64 cs, .string cn] 183)) w1 → Calls Tryz.prog 187 #[.agg #[.int .i64 cs, .string cn], .string ⟨#[111, 112, 116, 103, 114, 111, 117, 112]⟩] w1 fun e w' => e = .returned (.bool (namedM ⟨cs, cn⟩ optgroupB)) ∧ Below (w.alloc (.cells #[.int .i64 cs, .string cn] 183)).heap.size (w.alloc (.cells #[.int .i64 cs, .string cn] 183)) w') := hide (fun w1 hb => calls_more hb (isNamed_any ⟨cs, cn⟩ optgroupB w1))
  have HN_option : Hid (∀ w1, Below (w.alloc (.cells #[.int .i64 cs, .string cn] 183)).heap.size (w.alloc (.cells #[.int .i64 cs, .string cn] 183)) w1 → Calls Tryz.prog 187 #[.agg #[.int .i64 cs, .string cn], .string ⟨#[111, 112, 116, 105, 111, 110]⟩] w1 fun e w' => e = .returned (.bool (namedM ⟨cs, cn⟩ optionB)) ∧ Below (w.alloc (.cells #[.int .i64 cs, .string cn] 183)).heap.size (w.alloc (.cells #[.int .i64 cs, .string cn] 183)) w') := hide (fun w1 hb => calls_more hb (isNamed_any ⟨cs, cn⟩ optionB w1))
  have e0 : borderM ⟨cs, cn⟩ 4 = (!namedM ⟨cs, cn⟩ optgroupB && !namedM ⟨cs, cn⟩ optionB) := rfl
  rw [e0]
  generalize namedM ⟨cs, cn⟩ optgroupB = r1 at *
  generalize namedM ⟨cs, cn⟩ optionB = r2 at *
  unfold Cal.agg
  clear e0
  cases r1 with
  | true =>
    go_enter Tryz.func156, Tryz.ntmps156
    go_wp2_with (first | (go_at_call 187; refine ((unhide HN_optgroup) _ (Below.refl _ _)).mono ?_; rintro e w1 ⟨rfl, hb⟩; have HB1 := hide hb; obtain ⟨x1a, x1b⟩ := box_after hb; clear hb))
    go_ret
    exact ⟨rfl, below_box (unhide HB1)⟩
  | false =>
    go_enter Tryz.func156, Tryz.ntmps156
    go_wp2_with (first | (have _x := unhide HB1; clear _x; go_at_call 187; refine ((unhide HN_option) _ (unhide HB1)).mono ?_; rintro e w2 ⟨rfl, hb⟩; have HB2 := hide hb; obtain ⟨x2a, x2b⟩ := box_after hb; clear hb) | (go_at_call 187; refine ((unhide HN_optgroup) _ (Below.refl _ _)).mono ?_; rintro e w1 ⟨rfl, hb⟩; have HB1 := hide hb; obtain ⟨x1a, x1b⟩ := box_after hb; clear hb))
    go_ret
    exact ⟨rfl, below_box (unhide HB2)⟩

theorem isBorder_any (c : Cal) (k : Int) (h0 : 0 ≤ k) (h4 : k ≤ 4) (w : World) : Calls Tryz.prog 156 #[c.agg, .int .i64 k] w fun e w' => e = .returned (.bool (borderM c k)) ∧ Below w.heap.size w w' := by
  have : k = 0 ∨ k = 1 ∨ k = 2 ∨ k = 3 ∨ k = 4 := by omega
  rcases this with rfl | rfl | rfl | rfl | rfl
  · exact isBorder_0 c w
  · exact isBorder_1 c w
  · exact isBorder_2 c w
  · exact isBorder_3 c w
  · exact isBorder_4 c w
end Go.Proofs.YtmkdnmkckipnaaaGreat

namespace Go.Proofs.YtmkdnmkckipnaaaGreat
open Go.RowKit Go.Great

theorem setRow_new (w : World) (a b : Array Value) (t : TypeId) : (w.alloc (.cells a t)).setRow w.heap.size b = w.alloc (.cells b t) := by
  unfold World.setRow World.alloc
  simp only
  congr 1
  apply Array.ext_getElem?
  intro i
  rw [Array.getElem?_modify]
  by_cases h : w.heap.size = i
  · subst h
    simp
  · rw [if_neg h]
    rw [Array.getElem?_push, Array.getElem?_push, if_neg (fun e => h e.symm), if_neg (fun e => h e.symm)]

set_option maxHeartbeats 4000000 in
theorem isSpecial_any (c : Cal) (w : World) : Calls Tryz.prog 157 #[c.agg] w fun e w' => e = .returned (.bool (specialM c)) ∧ Below w.heap.size w w' := by
  have h1 : TabAt ((w.alloc (.cells #[.int .i64 c.space, .string c.name] 183)).alloc (.cells (sRow specT) 225)) (w.heap.size + 1) specT := by
    have h := tab_new (w.alloc (.cells #[.int .i64 c.space, .string c.name] 183)) specT 225
    rw [World.size_alloc] at h
    exact h
  have hb3 : Below w.heap.size w ((w.alloc (.cells #[.int .i64 c.space, .string c.name] 183)).alloc (.cells (sRow specT) 225)) := below2 _ _ _
  have hbx : ((w.alloc (.cells #[.int .i64 c.space, .string c.name] 183)).alloc (.cells (sRow specT) 225)).cell? ⟨w.heap.size, 0, none⟩ = some (.int .i64 c.space) ∧ ((w.alloc (.cells #[.int .i64 c.space, .string c.name] 183)).alloc (.cells (sRow specT) 225)).cell? ⟨w.heap.size, 1, none⟩ = some (.string c.name) := first_cells w _ _ _ _ (below_new _ _)
  have hsz : ((w.alloc (.cells #[.int .i64 c.space, .string c.name] 183)).alloc (.cells (sRow specT) 225)).heap.size = w.heap.size + 2 := by simp
  unfold specialM
  generalize hW : ((w.alloc (.cells #[.int .i64 c.space, .string c.name] 183)).alloc (.cells (sRow specT) 225)) = W at *
  have HA1 : Hid (∀ w1, Below W.heap.size W w1 → Calls Tryz.prog 189 #[c.agg, .int .i64 0, .slice (some ⟨w.heap.size + 1, 0, none⟩) 83 83] w1 fun e w' => e = .returned (.bool (amongM c 0 specT)) ∧ Below W.heap.size W w') := hide (fun w1 hb => by
    refine (isAmong_any c 0 specT (by decide) (w.heap.size + 1) w1 (h1.below hb)).mono ?_
    rintro e w' ⟨rfl, hb2⟩
    exact ⟨rfl, hb.trans (hb2.mono hb.size)⟩)
  have HA2 : Hid (∀ w1, Below W.heap.size W w1 → Calls Tryz.prog 190 #[c.agg] w1 fun e w' => e = .returned (.bool (foreignM c)) ∧ Below W.heap.size W w') := hide (fun w1 hb => by
    refine (isForeign_any c w1).mono ?_
    rintro e w' ⟨rfl, hb2⟩
    exact ⟨rfl, hb.trans (hb2.mono hb.size)⟩)
  have HBX : Hid (∀ w1, Below W.heap.size W w1 → w1.cell? ⟨w.heap.size, 0, none⟩ = some (.int .i64 c.space) ∧ w1.cell? ⟨w.heap.size, 1, none⟩ = some (.string c.name)) := hide (fun w1 hb => ⟨(hb.cell (p := ⟨w.heap.size, 0, none⟩) (show w.heap.size < W.heap.size by omega)).trans hbx.1, (hb.cell (p := ⟨w.heap.size, 1, none⟩) (show w.heap.size < W.heap.size by omega)).trans hbx.2⟩)
  have HWW := hide hW
  have HB3 := hide hb3
  generalize amongM c 0 specT = r1 at *
  generalize foreignM c = r2 at *
  obtain ⟨cs, cn⟩ := c
  simp only [Cal.agg] at *
  obtain ⟨hx0, hx1⟩ := hbx
  clear h1 hb3 hsz hW
  have hund : undef = Value.tuple #[] := rfl
  cases r1 with
  | true =>
    go_enter Tryz.func157, Tryz.ntmps157
    apply wp_seq_k; intro K0 hK0
    have HK0 := hide hK0
    clear hK0
    go_wp2
    refine (unhide HK0) _ _ ?_
    apply wp_seq_k; intro K1 hK1
    apply wp_region_lit
    have hsz : (w.alloc (.cells #[.int .i64 cs, .string cn] 183)).heap.size = w.heap.size + 1 := by simp
    have hnew := heap_alloc_new (w.alloc (.cells #[.int .i64 cs, .string cn] 183)) (.cells Tryz.zeroCells225 225)
    rw [hsz] at hnew
    have hrow := setRow_new (w.alloc (.cells #[.int .i64 cs, .string cn] 183)) Tryz.zeroCells225 (sRow specT) 225
    rw [hsz] at hrow
    refine wpList_buildTo rfl 225 _ rfl (some 4) rfl (sRow specT) (by kernel_rfl) ?_
    refine wpList_allocTo rfl (some 3) rfl (.pointer (some ⟨w.heap.size + 1, 0, none⟩)) (.cells Tryz.zeroCells225 225) ?_ ?_
    · unfold execOp
      simp [go_sem, hsz]
    refine wpList_store_rowTo rfl 225 _ _ rfl rfl (w.heap.size + 1) (sRow specT) rfl rfl 225 Tryz.zeroCells225 hnew (by kernel_rfl) (by kernel_rfl) (by kernel_rfl) ?_
    rw [hrow]
    apply wpList_nil
    refine hK1 _ _ ?_
    clear hsz hnew hrow
    apply wp_seq_k; intro K2 hK2
    refine (show Code.wp Tryz.prog _ _ _ ((w.alloc (.cells #[.int .i64 cs, .string cn] 183)).alloc (.cells (sRow specT) 225)) from ?_)
    rw [unhide HWW]
    first | go_region_with (go_at_call 189; refine ((unhide HA1) _ (by first | exact Below.refl _ _ | exact (Below.refl _ _).drew | exact below_dn (Below.refl _ _) _ | exact (Below.refl _ _).drew.drew)).mono ?_; rintro e w2 ⟨rfl, hb⟩; have HB := hide hb; obtain ⟨hy0, hy1⟩ := (unhide HBX) _ hb; clear hb) | fail
    all_goals go_wp2
    all_goals go_ret
    all_goals exact ⟨rfl, (unhide HB3).trans ((unhide HB).mono (unhide HB3).size)⟩
  | false =>
    go_enter Tryz.func157, Tryz.ntmps157
    apply wp_seq_k; intro K0 hK0
    have HK0 := hide hK0
    clear hK0
    go_wp2
    refine (unhide HK0) _ _ ?_
    apply wp_seq_k; intro K1 hK1
    apply wp_region_lit
    have hsz : (w.alloc (.cells #[.int .i64 cs, .string cn] 183)).heap.size = w.heap.size + 1 := by simp
    have hnew := heap_alloc_new (w.alloc (.cells #[.int .i64 cs, .string cn] 183)) (.cells Tryz.zeroCells225 225)
    rw [hsz] at hnew
    have hrow := setRow_new (w.alloc (.cells #[.int .i64 cs, .string cn] 183)) Tryz.zeroCells225 (sRow specT) 225
    rw [hsz] at hrow
    refine wpList_buildTo rfl 225 _ rfl (some 4) rfl (sRow specT) (by kernel_rfl) ?_
    refine wpList_allocTo rfl (some 3) rfl (.pointer (some ⟨w.heap.size + 1, 0, none⟩)) (.cells Tryz.zeroCells225 225) ?_ ?_
    · unfold execOp
      simp [go_sem, hsz]
    refine wpList_store_rowTo rfl 225 _ _ rfl rfl (w.heap.size + 1) (sRow specT) rfl rfl 225 Tryz.zeroCells225 hnew (by kernel_rfl) (by kernel_rfl) (by kernel_rfl) ?_
    rw [hrow]
    apply wpList_nil
    refine hK1 _ _ ?_
    clear hsz hnew hrow
    apply wp_seq_k; intro K2 hK2
    refine (show Code.wp Tryz.prog _ _ _ ((w.alloc (.cells #[.int .i64 cs, .string cn] 183)).alloc (.cells (sRow specT) 225)) from ?_)
    rw [unhide HWW]
    first | go_region_with (first | (go_at_call 190; refine ((unhide HA2) _ (by first | exact unhide HB | exact (unhide HB).drew | exact below_dn (unhide HB) _ | exact (unhide HB).drew.drew)).mono ?_; rintro e w3 ⟨rfl, hb⟩; have HB2 := hide hb; clear hb) | (go_at_call 189; refine ((unhide HA1) _ (by first | exact Below.refl _ _ | exact (Below.refl _ _).drew | exact below_dn (Below.refl _ _) _ | exact (Below.refl _ _).drew.drew)).mono ?_; rintro e w2 ⟨rfl, hb⟩; have HB := hide hb; obtain ⟨hy0, hy1⟩ := (unhide HBX) _ hb; clear hb)) | fail
    all_goals go_wp2
    all_goals go_ret
    all_goals exact ⟨rfl, (unhide HB3).trans ((unhide HB2).mono (unhide HB3).size)⟩
end Go.Proofs.YtmkdnmkckipnaaaGreat
