/-
  PlaceZero: without an arena or a stack nothing is put.
-/
import Derived.Test.YtgmlngmfocdmhaaNode
namespace Go.Proofs.Ytgmlngmfocdmhaa
open Go.RowKit

def spotV (p b : Int) : Value := .agg #[.int .i64 p, .int .i64 b]

/-- A place in a block of its own. -/
def Box2 (W : World) (b : Nat) (p q : Int) : Prop := W.heap[b]? = some (.cells #[.int .i64 p, .int .i64 q] 29 (0, 0))
theorem Box2.cells {W : World} {b : Nat} {p q : Int} (h : Box2 W b p q) : W.cell? ⟨b, 0, none⟩ = some (.int .i64 p) ∧ W.cell? ⟨b, 1, none⟩ = some (.int .i64 q) ∧ W.frozen? ⟨b, 0, none⟩ = false ∧ W.frozen? ⟨b, 1, none⟩ = false := by
  unfold Box2 at h
  refine ⟨by simp [World.cell?, h], by simp [World.cell?, h], by simp [World.frozen?, h], by simp [World.frozen?, h]⟩
theorem Box2.new (w : World) (p q : Int) : Box2 (w.alloc (.cells #[.int .i64 p, .int .i64 q] 29)) w.heap.size p q := heap_alloc_new w _
theorem Box2.below {w w' : World} {b : Nat} {p q : Int} (h : Box2 w b p q) (hb : Below w.heap.size w w') : Box2 w' b p q := (hb.block _ (lt_of_block h)).trans h
theorem Box2.alloc {w : World} {b : Nat} {p q : Int} (h : Box2 w b p q) (o : Obj) : Box2 (w.alloc o) b p q := h.below ((Below.refl _ _).alloc (Nat.le_refl _) _)
theorem spot_ret {f : Func} {p u : Tmp} (hr : f.results = #[.cell p 29, .tmp u]) {W : World} {b : Nat} {x y : Int} (h : Box2 W b x y) (tmps : Array Value) (v : Value) (hp : tmps.getD p undef = .pointer (some ⟨b, 0, none⟩)) (hu : tmps.getD u undef = v) :
    (results f tmps).run Try.prog W = .ok (.tuple #[spotV x y, v]) W := by
  obtain ⟨c0, c1, _⟩ := h.cells
  rw [results_cell_tmp hr tmps Try.prog W, hp, hu]
  simp [go_sem, c0, c1, spotV]

section
variable {w : World}
theorem len_nil (w : World) : Calls Try.prog 8 #[.pointer none] w fun e w' => e = .returned (.int .i64 0) ∧ w = w' := by
  go_enter Try.func8, Try.ntmps8
  go_wp2
  go_ret
  exact ⟨rfl, rfl⟩
theorem madeA_nil (w : World) : Calls Try.prog 16 #[.pointer none] w fun e w' => e = .returned (.bool false) ∧ w = w' := by
  have HL := hide (len_nil w)
  go_enter Try.func16, Try.ntmps16
  go_wp2_with (go_at_call 8; refine (unhide HL).mono ?_; rintro e w' ⟨rfl, rfl⟩)
  go_ret
  exact ⟨rfl, rfl⟩
theorem put_nil (w : World) (p q id : Int) : Calls Try.prog 32 #[.pointer none, spotV p q, .int .i64 id] w fun e w' => e = .returned (.int .i64 7) ∧ Below w.heap.size w w' := by
  have HL := hide (fun w => madeA_nil w)
  unfold spotV
  go_enter Try.func32, Try.ntmps32
  go_wp2_with (go_at_call 16; refine ((unhide HL) _).mono ?_; rintro e w' ⟨rfl, rfl⟩)
  go_ret
  exact ⟨rfl, (Below.refl _ _).alloc (Nat.le_refl _) _⟩
theorem chars_nil (w : World) (p q : Int) (a : Option Addr) (n c : Nat) : Calls Try.prog 6 #[.pointer none, spotV p q, .slice a n c] w fun e w' => e = .returned (.int .i64 7) ∧ Below w.heap.size w w' := by
  have HL := hide (fun w => madeA_nil w)
  unfold spotV
  go_enter Try.func6, Try.ntmps6
  go_wp2_with (go_at_call 16; refine ((unhide HL) _).mono ?_; rintro e w' ⟨rfl, rfl⟩)
  go_ret
  exact ⟨rfl, (Below.refl _ _).alloc (Nat.le_refl _) _⟩
theorem madeA_any {base bA : Nat} {ns : List NodeM} {F : Nat → Prop} (h : ArS w base bA ns F) (hn : 0 < ns.length) : Calls Try.prog 16 #[.pointer (some ⟨bA, 0, none⟩)] w fun e w' => e = .returned (.bool true) ∧ w = w' := by
  obtain ⟨bS, g, cap, h, _⟩ := h
  have HL := hide (len_any h)
  have h1 : ((ns.length : Int) != 0) = true := by rw [bne_iff_ne]; omega
  have h2 : ¬ ((ns.length : Int) = 0) := by omega
  clear h
  go_enter Try.func16, Try.ntmps16
  go_wp2_with (go_at_call 8; refine (unhide HL).mono ?_; rintro e w' ⟨rfl, rfl⟩)
  go_ret
  exact ⟨rfl, rfl⟩
theorem newE_any (w : World) : Calls Try.prog 4 #[] w fun e w' => ∃ bA F, e = .returned (.pointer (some ⟨bA, 0, none⟩)) ∧ ArS w' w.heap.size bA [blankM 0] F ∧ Below w.heap.size w w' := by
  refine (new_any w w.heap.size (Nat.le_refl _)).mono ?_
  rintro e w' ⟨F, rfl, h1, h2, h3⟩
  exact ⟨_, F, rfl, h1, h2⟩

end
end Go.Proofs.Ytgmlngmfocdmhaa
