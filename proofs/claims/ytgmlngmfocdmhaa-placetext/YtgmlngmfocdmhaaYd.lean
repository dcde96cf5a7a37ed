import Derived.Test.YtgmlngmfocdmhaaYb
import Derived.Test.YtgmlngmfocdmhaaYc
import Derived.Deep.QuietTactic
import Derived.BigQuiet
/-
  Package place: what it asks of an arena and a stack; Spot without foster parents.
-/
namespace Go.Proofs.Ytgmlngmfocdmhaa
open Go.RowKit

structure NodeIs (o : OneM) (n : NodeM) : Prop where
  same : Same n o
  last : n.last = lastK o.kids
def tmplB : ByteArray := ⟨#[116, 101, 109, 112, 108, 97, 116, 101]⟩
def isOfO (o : OneM) (l : List ByteArray) : Bool := o.kind == 1 && o.space == 0 && hasT l o.name
theorem NodeIs.of {o : OneM} {n : NodeM} (h : NodeIs o n) (l : List ByteArray) : isOfM n l = isOfO o l := by
  unfold isOfM isOfO
  rw [h.same.kind, h.same.space, h.same.name]

section
variable {w wx : World} {obs : List (Ob w.heap.size)} {i j bA bR bK bW : Nat} {os : List OneM} {L : List Int}
theorem anode_in (h : Env w wx obs) (hi : obs[i]? = some (aO _ bA os)) {k : Nat} {o : OneM} (ho : os[k]? = some o) :
    Calls Try.prog 9 #[.pointer (some ⟨bA, 0, none⟩), .int .i64 k] wx fun e w' => ∃ (n : NodeM) (ao : Option Addr) (m c : Nat), e = .returned (.tuple #[nodeV n (.slice ao m c), .int .i64 0]) ∧ NodeIs o n ∧ Below wx.heap.size wx w' := by
  obtain ⟨ns, F, h1, hs, _⟩ := h.a hi
  obtain ⟨n, hn, sm⟩ := hs.get ho
  refine (node_in h1 k n hn).mono ?_
  rintro e w' ⟨ao, cp, rfl, _, hb, _⟩
  exact ⟨n, ao, _, cp, rfl, ⟨sm, (hs.first_nil hn ho).2⟩, hb⟩
theorem anode_no (h : Env w wx obs) (hi : obs[i]? = some (aO _ bA os)) {k : Int} (hk : hasO os k = false) :
    Calls Try.prog 9 #[.pointer (some ⟨bA, 0, none⟩), .int .i64 k] wx fun e w' => e = .returned (.tuple #[nodeZ, .int .i64 6]) ∧ Below wx.heap.size wx w' := by
  obtain ⟨ns, F, h1, hs, _⟩ := h.a hi
  exact node_no h1 k (by rw [hs.hasM]; exact hk)
theorem amadeA (h : Env w wx obs) (hi : obs[i]? = some (aO _ bA os)) : Calls Try.prog 16 #[.pointer (some ⟨bA, 0, none⟩)] wx fun e w' => e = .returned (.bool true) ∧ wx = w' := by
  have hm := (h.mostA hi).2
  obtain ⟨ns, F, h1, hs, _⟩ := h.a hi
  exact madeA_any h1 (by rw [hs.len]; exact hm)
theorem athere (h : Env w wx obs) (hi : obs[i]? = some (aO _ bA os)) (l : List Int) (hl : l.length ≤ 1000) (b : Nat) (ht : NumsAt wx b l) :
    Calls Try.prog 27 #[.pointer (some ⟨bA, 0, none⟩), .slice (some ⟨b, 0, none⟩) l.length l.length] wx fun e w' => e = .returned (.bool (l.all fun k => hasO os k)) ∧ wx = w' := by
  obtain ⟨ns, F, h1, hs, _⟩ := h.a hi
  have := there_any h1 l hl b ht
  simp only [hs.hasM] at this
  exact this
theorem nums1 (W : World) (x : Int) : NumsAt (W.alloc (.cells #[.int .i64 x] 3)) W.heap.size [x] := by
  intro j y hj
  match j, hj with
  | 0, hj => simp at hj; subst hj; simp
theorem nums2 (W : World) (x y : Int) : NumsAt (W.alloc (.cells #[.int .i64 x, .int .i64 y] 3)) W.heap.size [x, y] := by
  intro j z hj
  match j, hj with
  | 0, hj => simp at hj; subst hj; simp
  | 1, hj => simp at hj; subst hj; simp
theorem athere1 (h : Env w wx obs) (hi : obs[i]? = some (aO _ bA os)) (x : Int) :
    Calls Try.prog 27 #[.pointer (some ⟨bA, 0, none⟩), .slice (some ⟨wx.heap.size, 0, none⟩) 1 1] (wx.alloc (.cells #[.int .i64 x] 3)) fun e w' => e = .returned (.bool (hasO os x)) ∧ wx.alloc (.cells #[.int .i64 x] 3) = w' := by
  have := athere (h.more (below_new wx (.cells #[.int .i64 x] 3))) hi [x] (by simp) wx.heap.size (nums1 wx x)
  simp only [List.all_cons, List.all_nil, Bool.and_true, List.length_cons, List.length_nil] at this
  exact this
theorem athere1b (h : Env w wx obs) (hi : obs[i]? = some (aO _ bA os)) (ob : Obj) (x : Int) :
    Calls Try.prog 27 #[.pointer (some ⟨bA, 0, none⟩), .slice (some ⟨wx.heap.size + 1, 0, none⟩) 1 1] ((wx.alloc ob).alloc (.cells #[.int .i64 x] 3)) fun e w' => e = .returned (.bool (hasO os x)) ∧ (wx.alloc ob).alloc (.cells #[.int .i64 x] 3) = w' := by
  have := athere1 (h.more (below_new wx ob)) hi x
  rw [show (wx.alloc ob).heap.size = wx.heap.size + 1 by simp] at this
  exact this
theorem athere2 (h : Env w wx obs) (hi : obs[i]? = some (aO _ bA os)) (x y : Int) :
    Calls Try.prog 27 #[.pointer (some ⟨bA, 0, none⟩), .slice (some ⟨wx.heap.size, 0, none⟩) 2 2] (wx.alloc (.cells #[.int .i64 x, .int .i64 y] 3)) fun e w' => e = .returned (.bool (hasO os x && hasO os y)) ∧ wx.alloc (.cells #[.int .i64 x, .int .i64 y] 3) = w' := by
  have := athere (h.more (below_new wx (.cells #[.int .i64 x, .int .i64 y] 3))) hi [x, y] (by simp) wx.heap.size (nums2 wx x y)
  simp only [List.all_cons, List.all_nil, Bool.and_true, List.length_cons, List.length_nil] at this
  exact this
def nodeA (nk nsp : Int) (nm : ByteArray) (v : Value) (da sy : ByteArray) (pa fi la pr ne inn : Int) : Array Value := #[.int .i64 nk, .int .i64 nsp, .string nm, v, .string da, .string sy, .int .i64 pa, .int .i64 fi, .int .i64 la, .int .i64 pr, .int .i64 ne, .int .i64 inn]
/-- A node in a block of its own, and what came behind it. -/
theorem node_box {w4 w5 : World} {cs : Array Value} {t : TypeId} (hb : Below (w4.alloc (.cells cs t)).heap.size (w4.alloc (.cells cs t)) w5) (j : Nat) (v : Value) (hv : cs[j]? = some v) : w5.cell? ⟨w4.heap.size, j, none⟩ = some v := by
  have h1 : w5.heap[w4.heap.size]? = some (.cells cs t (0, 0)) := (hb.block _ (by simp)).trans (heap_alloc_new w4 _)
  rw [cell_row _ _ _ _ _ _ h1, hv]
theorem spot_fin {w w5 : World} {b : Nat} {x y : Int} (hb : Below w.heap.size w w5) (hlt : w.heap.size ≤ b) (h : Box2 w5 b x y) (p q : Int) :
    Box2 ((w5.setCell ⟨b, 0, none⟩ (.int .i64 p)).setCell ⟨b, 1, none⟩ (.int .i64 q)) b p q ∧ Below w.heap.size w ((w5.setCell ⟨b, 0, none⟩ (.int .i64 p)).setCell ⟨b, 1, none⟩ (.int .i64 q)) :=
  ⟨two_block _ _ _ _ _ _ _ h, hb.trans (((Mod.setCell (F := fun k => k = b) w5 ⟨b, 0, none⟩ _ rfl).trans (Mod.setCell _ ⟨b, 1, none⟩ _ rfl)).below hb.size (fun k hk => by omega))⟩
/-- Two places in blocks of their own, and what came behind them. -/
theorem two_boxes {w w4 : World} {k q x y : Int} (hb : Below ((w.alloc (.cells #[.int .i64 k, .int .i64 q] 29)).alloc (.cells #[.int .i64 x, .int .i64 y] 29)).heap.size ((w.alloc (.cells #[.int .i64 k, .int .i64 q] 29)).alloc (.cells #[.int .i64 x, .int .i64 y] 29)) w4) :
    Box2 w4 w.heap.size k q ∧ Box2 w4 (w.heap.size + 1) x y ∧ Below w.heap.size w w4 := by
  have h1 : Box2 ((w.alloc (.cells #[.int .i64 k, .int .i64 q] 29)).alloc (.cells #[.int .i64 x, .int .i64 y] 29)) w.heap.size k q := (Box2.new w k q).alloc _
  have h2 : Box2 ((w.alloc (.cells #[.int .i64 k, .int .i64 q] 29)).alloc (.cells #[.int .i64 x, .int .i64 y] 29)) (w.heap.size + 1) x y := by
    have := Box2.new (w.alloc (.cells #[.int .i64 k, .int .i64 q] 29)) x y
    simpa using this
  refine ⟨h1.below hb, h2.below hb, ((below_new w _).alloc (by simp) _).trans (hb.mono (by simp; omega))⟩
/-- A place in a block of its own, made behind w. -/
structure Sp (w W : World) (b : Nat) (p q : Int) : Prop where
  bel : Below w.heap.size w W
  le : w.heap.size ≤ b
  box : Box2 W b p q
theorem Sp.new (w : World) (p q : Int) : Sp w (w.alloc (.cells #[.int .i64 p, .int .i64 q] 29)) w.heap.size p q := ⟨below_new w _, Nat.le_refl _, Box2.new w p q⟩
theorem Sp.more {w W W' : World} {b : Nat} {p q : Int} (h : Sp w W b p q) (hb : Below W.heap.size W W') : Sp w W' b p q := ⟨h.bel.trans (hb.mono h.bel.size), h.le, h.box.below hb⟩
theorem Sp.alloc {w W : World} {b : Nat} {p q : Int} (h : Sp w W b p q) (o : Obj) : Sp w (W.alloc o) b p q := h.more (below_new W o)
theorem Sp.put {w W : World} {b : Nat} {p q : Int} (h : Sp w W b p q) (x y : Int) : Sp w ((W.setCell ⟨b, 0, none⟩ (.int .i64 x)).setCell ⟨b, 1, none⟩ (.int .i64 y)) b x y :=
  have := spot_fin h.bel h.le h.box x y
  ⟨this.2, h.le, this.1⟩
theorem Sp.cells {w W : World} {b : Nat} {p q : Int} (h : Sp w W b p q) : W.cell? ⟨b, 0, none⟩ = some (.int .i64 p) ∧ W.cell? ⟨b, 1, none⟩ = some (.int .i64 q) ∧ W.frozen? ⟨b, 0, none⟩ = false ∧ W.frozen? ⟨b, 1, none⟩ = false := h.box.cells
end
end Go.Proofs.Ytgmlngmfocdmhaa
