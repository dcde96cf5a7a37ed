/-
  A doctype that came in, as the walks read it.
-/
import Derived.Test.YtnnegdcoihcanaaQg
import Derived.Test.YtnnegdcoihcanaaQh
import Derived.ProofKit
import Derived.OpenShut
import Derived.ShutString
import Derived.ChangeOld
import Derived.Deep.Slices
import Derived.SizedLaws
namespace Go.Proofs.Ytnnegdcoihcanaa
open Go.ChangeShapes Go.WideShapes Go.ChangeAt Go.RowKit

theorem laidOut : laidOutB Try.prog = true := by kernel_rfl
theorem list9 {α : Type} (l : List α) (h : l.length = 9) : ∃ a b c d e f g i j, l = [a, b, c, d, e, f, g, i, j] := by
  match l, h with
  | [a, b, c, d, e, f, g, i, j], _ => exact ⟨a, b, c, d, e, f, g, i, j, rfl⟩

section
variable {H : Type} {enc : TypeId × Value → H} {W : World} {spare : Nat → Bool} {held : Bool}

theorem slice_cells {fuel : Nat} {cs : List Value} {x : DataW H × List MemPlace} (h : DataW.trod enc Try.prog W 0 spare held fuel 22 cs = some x) :
    ∃ (a : Option Addr) (len cap : Nat), cs = [.slice a len cap] := by
  rcases Go.Deep.open_slice Try.underlying22 h with ⟨rfl, _⟩ | ⟨x, len, cap, m, n, D, Pl, rfl, _⟩
  · exact ⟨none, 0, 0, rfl⟩
  · exact ⟨some x, len, cap, rfl⟩

/-- A doctype's nine cells; its texts are no longer than a machine can hold. -/
theorem tok_cells {fuel : Nat} {cs : List Value} {x : DataW H × List MemPlace} (h : DataW.trod enc Try.prog W 0 spare held fuel 24 cs = some x) (hw : (x.1.weights Try.prog 24).all (· ≤ reachBytes) = true) :
    ∃ (k : Int) (nm da sy : ByteArray) (hs : Int) (qk : Bool) (ch : Int) (se : Bool) (a : Option Addr) (len cap : Nat), cs = [.int .i64 k, .string nm, .string da, .string sy, .int .i64 hs, .bool qk, .int .i32 ch, .bool se, .slice a len cap] ∧ nm.size ≤ 140737488351232 ∧ da.size ≤ 140737488351232 ∧ sy.size ≤ 140737488351232 := by
  have hc24 : Try.prog.cellsOf 24 = 9 := by kernel_rfl
  have hc3 : Try.prog.cellsOf 3 = 1 := by kernel_rfl
  have hc4 : Try.prog.cellsOf 4 = 1 := by kernel_rfl
  have hc9 : Try.prog.cellsOf 9 = 1 := by kernel_rfl
  have hc21 : Try.prog.cellsOf 21 = 1 := by kernel_rfl
  have hc22 : Try.prog.cellsOf 22 = 1 := by kernel_rfl
  obtain ⟨xs, n, _, rfl, hl9, hxl, hfs⟩ := DataW.trod_struct Try.underlying24 h
  rw [hc24] at hl9
  obtain ⟨e0, e1, e2, e3, e4, e5, e6, e7, e8, rfl⟩ := list9 cs hl9
  have hx : xs.length = 9 := by simpa using hxl
  obtain ⟨y0, y1, y2, y3, y4, y5, y6, y7, y8, rfl⟩ := list9 xs hx
  have f0 := hfs 0 _ rfl
  have f1 := hfs 1 _ rfl
  have f2 := hfs 2 _ rfl
  have f3 := hfs 3 _ rfl
  have f4 := hfs 4 _ rfl
  have f5 := hfs 5 _ rfl
  have f6 := hfs 6 _ rfl
  have f7 := hfs 7 _ rfl
  have f8 := hfs 8 _ rfl
  simp [hc3, hc4, hc9, hc21, hc22] at f0 f1 f2 f3 f4 f5 f6 f7 f8
  obtain ⟨z0, g0, _, _⟩ := DataW.trod_int Try.underlying3 f0
  obtain ⟨z1, g1, w1, _⟩ := DataW.trod_string Try.underlying9 f1
  obtain ⟨z2, g2, w2, _⟩ := DataW.trod_string Try.underlying9 f2
  obtain ⟨z3, g3, w3, _⟩ := DataW.trod_string Try.underlying9 f3
  obtain ⟨z4, g4, _, _⟩ := DataW.trod_int Try.underlying3 f4
  obtain ⟨z5, g5, _⟩ := DataW.trod_bool Try.underlying4 f5
  obtain ⟨z6, g6, _, _⟩ := DataW.trod_int Try.underlying21 f6
  obtain ⟨z7, g7, _⟩ := DataW.trod_bool Try.underlying4 f7
  obtain ⟨a, len, cap, g8⟩ := slice_cells f8
  simp at g0 g1 g2 g3 g4 g5 g6 g7 g8
  subst g0 g1 g2 g3 g4 g5 g6 g7 g8
  have sz : ∀ (j : Nat) (y : DataW H × List MemPlace) (z : ByteArray), [y0, y1, y2, y3, y4, y5, y6, y7, y8][j]? = some y → (j = 1 ∨ j = 2 ∨ j = 3) → y.1 = .lit (.string z.data.toList) → z.size ≤ 140737488351232 := by
    intro j y z hy hj hz
    have := List.all_eq_true.1 hw z.data.toList.length (by
      simp only [DataW.weights, Try.underlying24]
      refine DataW.weights_mem_each (j := j) (t := 9) (d := y.1) (by rcases hj with rfl | rfl | rfl <;> rfl) (by rcases hj with rfl | rfl | rfl <;> (cases hy; rfl)) _ ?_
      rw [hz]
      simp [DataW.weights])
    rw [len_data] at this
    exact of_decide_eq_true this
  exact ⟨z0, z1, z2, z3, z4, z5, z6, z7, a, len, cap, rfl, sz 1 y1 z1 rfl (by simp) (by rw [w1]), sz 2 y2 z2 rfl (by simp) (by rw [w2]), sz 3 y3 z3 rfl (by simp) (by rw [w3])⟩

theorem tok_open {cs : Array Value} {d : DataW H} {ps : List MemPlace} (h : DataW.Trod enc Try.prog W 0 spare held 24 (.agg cs) d ps) (hsz : (d.weights Try.prog 24).all (· ≤ reachBytes) = true) :
    ∃ (k : Int) (nm da sy : ByteArray) (hs : Int) (qk : Bool) (ch : Int) (se : Bool) (a : Option Addr) (len cap : Nat), cs = #[.int .i64 k, .string nm, .string da, .string sy, .int .i64 hs, .bool qk, .int .i32 ch, .bool se, .slice a len cap] ∧ nm.size ≤ 140737488351232 ∧ da.size ≤ 140737488351232 ∧ sy.size ≤ 140737488351232 := by
  obtain ⟨fuel, hf⟩ := h
  obtain ⟨k, nm, da, sy, hs, qk, ch, se, a, len, cap, hcs, b⟩ := tok_cells hf hsz
  refine ⟨k, nm, da, sy, hs, qk, ch, se, a, len, cap, ?_, b⟩
  have : cs.toList = _ := hcs
  rw [← this]
end
end Go.Proofs.Ytnnegdcoihcanaa
