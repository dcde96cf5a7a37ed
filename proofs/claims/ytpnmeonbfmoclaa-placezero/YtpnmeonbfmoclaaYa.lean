/-
  PlaceZero: without an arena or a stack nothing is put.
-/
import Derived.Test.YtpnmeonbfmoclaaNode
namespace Go.Proofs.Ytpnmeonbfmoclaa
open Go.RowKit

def spotV (p b : Int) : Value := .agg #[.int .i64 p, .int .i64 b]

/-- A place in a block of its own. -/
def Box2 (W : World) (b : Nat) (p q : Int) : Prop := W.heap[b]? = some (.cells #[.int .i64 p, .int .i64 q] 25 (0, 0))
theorem Box2.cells {W : World} {b : Nat} {p q : Int} (h : Box2 W b p q) : W.cell? ⟨b, 0, none⟩ = some (.int .i64 p) ∧ W.cell? ⟨b, 1, none⟩ = some (.int .i64 q) ∧ W.frozen? ⟨b, 0, none⟩ = false ∧ W.frozen? ⟨b, 1, none⟩ = false := by
  unfold Box2 at h
  refine ⟨by simp [World.cell?, h], by simp [World.cell?, h], by simp [World.frozen?, h], by simp [World.frozen?, h]⟩
theorem Box2.new (w : World) (p q : Int) : Box2 (w.alloc (.cells #[.int .i64 p, .int .i64 q] 25)) w.heap.size p q := heap_alloc_new w _
theorem Box2.below {w w' : World} {b : Nat} {p q : Int} (h : Box2 w b p q) (hb : Below w.heap.size w w') : Box2 w' b p q := (hb.block _ (lt_of_block h)).trans h
theorem Box2.alloc {w : World} {b : Nat} {p q : Int} (h : Box2 w b p q) (o : Obj) : Box2 (w.alloc o) b p q := h.below ((Below.refl _ _).alloc (Nat.le_refl _) _)
theorem spot_ret {f : Func} {p u : Tmp} (hr : f.results = #[.cell p 25, .tmp u]) {W : World} {b : Nat} {x y : Int} (h : Box2 W b x y) (tmps : Array Value) (v : Value) (hp : tmps.getD p undef = .pointer (some ⟨b, 0, none⟩)) (hu : tmps.getD u undef = v) :
    (results f tmps).run Try.prog W = .ok (.tuple #[spotV x y, v]) W := by
  obtain ⟨c0, c1, _⟩ := h.cells
  rw [results_cell_tmp hr tmps Try.prog W, hp, hu]
  simp [go_sem, c0, c1, spotV]

section
variable {w : World}
theorem len_nil (w : World) : Calls Try.prog 25 #[.pointer none] w fun e w' => e = .returned (.int .i64 0) ∧ w = w' := by
  go_enter Try.func25, Try.ntmps25
  go_wp2
  go_ret
  exact ⟨rfl, rfl⟩
theorem madeA_nil (w : World) : Calls Try.prog 8 #[.pointer none] w fun e w' => e = .returned (.bool false) ∧ w = w' := by
  have HL := hide (len_nil w)
  go_enter Try.func8, Try.ntmps8
  go_wp2_with (go_at_call 25; refine (unhide HL).mono ?_; rintro e w' ⟨rfl, rfl⟩)
  go_ret
  exact ⟨rfl, rfl⟩
theorem remove_nil (w : World) (id : Int) : Calls Try.prog 26 #[.pointer none, .int .i64 id] w fun e w' => e = .returned (.int .i64 7) ∧ w = w' := by
  go_enter Try.func26, Try.ntmps26
  go_wp2
  go_ret
  exact ⟨rfl, rfl⟩
theorem madeS_nil (w : World) : Calls Try.prog 9 #[.pointer none] w fun e w' => e = .returned (.bool false) ∧ w = w' := by
  have HL := hide (remove_nil w (-1))
  go_enter Try.func9, Try.ntmps9
  go_wp2_with (go_at_call 26; refine (unhide HL).mono ?_; rintro e w' ⟨rfl, rfl⟩)
  go_ret
  exact ⟨rfl, rfl⟩
theorem spot_nil (w : World) (v : Value) (id : Int) (b : Bool) : Calls Try.prog 4 #[.pointer none, v, .int .i64 id, .bool b] w fun e w' => e = .returned (.tuple #[spotV 0 0, .int .i64 7]) ∧ Below w.heap.size w w' := by
  have HL := hide (fun w => madeA_nil w)
  go_enter Try.func4, Try.ntmps4
  go_wp2_with (go_at_call 8; refine ((unhide HL) _).mono ?_; rintro e w' ⟨rfl, rfl⟩)
  exact bodyPost_ret (spot_ret (p := 8) (u := 9) Try.results4 (b := w.heap.size) (Box2.new w 0 0) _ _ rfl rfl) rfl ⟨rfl, (Below.refl _ _).alloc (Nat.le_refl _) _⟩
theorem put_nil (w : World) (p q id : Int) : Calls Try.prog 6 #[.pointer none, spotV p q, .int .i64 id] w fun e w' => e = .returned (.int .i64 7) ∧ Below w.heap.size w w' := by
  have HL := hide (fun w => madeA_nil w)
  unfold spotV
  go_enter Try.func6, Try.ntmps6
  go_wp2_with (go_at_call 8; refine ((unhide HL) _).mono ?_; rintro e w' ⟨rfl, rfl⟩)
  go_ret
  exact ⟨rfl, (Below.refl _ _).alloc (Nat.le_refl _) _⟩
theorem chars_nil (w : World) (p q : Int) (a : Option Addr) (n c : Nat) : Calls Try.prog 7 #[.pointer none, spotV p q, .slice a n c] w fun e w' => e = .returned (.int .i64 7) ∧ Below w.heap.size w w' := by
  have HL := hide (fun w => madeA_nil w)
  unfold spotV
  go_enter Try.func7, Try.ntmps7
  go_wp2_with (go_at_call 8; refine ((unhide HL) _).mono ?_; rintro e w' ⟨rfl, rfl⟩)
  go_ret
  exact ⟨rfl, (Below.refl _ _).alloc (Nat.le_refl _) _⟩
theorem madeA_any {base bA : Nat} {ns : List NodeM} {F : Nat → Prop} (h : ArS w base bA ns F) (hn : 0 < ns.length) : Calls Try.prog 8 #[.pointer (some ⟨bA, 0, none⟩)] w fun e w' => e = .returned (.bool true) ∧ w = w' := by
  obtain ⟨bS, g, cap, h, _⟩ := h
  have HL := hide (len_any h)
  have h1 : ((ns.length : Int) != 0) = true := by rw [bne_iff_ne]; omega
  have h2 : ¬ ((ns.length : Int) = 0) := by omega
  clear h
  go_enter Try.func8, Try.ntmps8
  go_wp2_with (go_at_call 25; refine (unhide HL).mono ?_; rintro e w' ⟨rfl, rfl⟩)
  go_ret
  exact ⟨rfl, rfl⟩
theorem spot_nos {base bA : Nat} {ns : List NodeM} {F : Nat → Prop} (h : ArS w base bA ns F) (hn : 0 < ns.length) (id : Int) (b : Bool) : Calls Try.prog 4 #[.pointer (some ⟨bA, 0, none⟩), .pointer none, .int .i64 id, .bool b] w fun e w' => e = .returned (.tuple #[spotV 0 0, .int .i64 7]) ∧ Below w.heap.size w w' := by
  have HA := hide (madeA_any (h.below ((Below.refl _ w).alloc (Nat.le_refl _) (.cells #[.int .i64 0, .int .i64 0] 25))) hn)
  have HL := hide (fun w => madeS_nil w)
  clear h hn
  go_enter Try.func4, Try.ntmps4
  go_wp2_with (first | (go_at_call 8; refine (unhide HA).mono ?_; rintro e w' ⟨rfl, rfl⟩) | (go_at_call 9; refine ((unhide HL) _).mono ?_; rintro e w' ⟨rfl, rfl⟩))
  exact bodyPost_ret (spot_ret (p := 8) (u := 9) Try.results4 (b := w.heap.size) (Box2.new w 0 0) _ _ rfl rfl) rfl ⟨rfl, (Below.refl _ _).alloc (Nat.le_refl _) _⟩

theorem newE_any (w : World) : Calls Try.prog 5 #[] w fun e w' => ∃ bA F, e = .returned (.pointer (some ⟨bA, 0, none⟩)) ∧ ArS w' w.heap.size bA [blankM 0] F ∧ Below w.heap.size w w' := by
  refine (new_any w w.heap.size (Nat.le_refl _)).mono ?_
  rintro e w' ⟨F, rfl, h1, h2, h3⟩
  exact ⟨_, F, rfl, h1, h2⟩

set_option maxHeartbeats 4000000 in
set_option maxRecDepth 100000 in
theorem pzero_walk (id : Int) (w : World) : Calls Try.prog 3 #[.int .i64 id] w fun e w' => e = .returned (.bool true) ∧ Below w.heap.size w w' := by
  have HS := hide (fun w v id b => spot_nil w v id b)
  have HP := hide (fun w p q id => put_nil w p q id)
  have HC := hide (fun w p q a n c => chars_nil w p q a n c)
  have HN := hide (fun w => newE_any w)
  have HO := hide (fun (w : World) (base bA : Nat) (ns : List NodeM) (F : Nat → Prop) (h : ArS w base bA ns F) (hn : 0 < ns.length) => spot_nos h hn 0 true)
  unfold spotV at HS HP HC HO
  go_enter Try.func3, Try.ntmps3
  go_wp2_with (first
    | (go_at_call 4; have _x := unhide HB2; refine ((unhide HO) _ _ _ _ _ (unhide HAR) (Nat.succ_pos 0)).mono ?_; rintro e w3 ⟨rfl, hb3⟩; have HB3 := hide hb3; clear hb3)
    | (go_at_call 4; refine ((unhide HS) _ _ _ _).mono ?_; rintro e w1 ⟨rfl, hb1⟩; have HB1 := hide hb1; clear hb1)
    | (go_at_call 5; refine ((unhide HN) _).mono ?_; rintro e w2 ⟨bA, F, rfl, har, hb2⟩; have HB2 := hide hb2; have HAR := hide har; clear hb2 har)
    | (go_at_call 6; refine ((unhide HP) _ _ _ _).mono ?_; rintro e w4 ⟨rfl, hb4⟩; have HB4 := hide hb4; clear hb4)
    | (go_at_call 7; refine ((unhide HC) _ _ _ _ _ _).mono ?_; rintro e w5 ⟨rfl, hb5⟩; have HB5 := hide hb5; clear hb5))
  go_ret
  refine ⟨rfl, ?_⟩
  have k1 := unhide HB1
  have k2 := unhide HB2
  have k3 := unhide HB3
  have k4 := unhide HB4
  have k5 := unhide HB5
  have box : ∀ {a b c : World} {o : Obj}, Below a.heap.size a b → Below (b.alloc o).heap.size (b.alloc o) c → Below a.heap.size a c := fun {a b c o} h1 h2 => (h1.alloc h1.size o).trans (h2.mono (Nat.le_trans h1.size (by simp)))
  exact box (box ((box k1 k2).trans (k3.mono (box k1 k2).size)) k4) k5
end
end Go.Proofs.Ytpnmeonbfmoclaa
