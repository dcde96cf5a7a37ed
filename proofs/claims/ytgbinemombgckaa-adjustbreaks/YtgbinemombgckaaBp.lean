/-
  A token that came in, as the walks read it.
-/
import Derived.Test.YtgbinemombgckaaBo
namespace Go.Proofs.Ytgbinemombgckaa
open Go.ChangeShapes Go.WideShapes Go.ChangeAt Go.RowKit

theorem list9 {α : Type} (l : List α) (h : l.length = 9) : ∃ a b c d e f g i j, l = [a, b, c, d, e, f, g, i, j] := by
  match l, h with
  | [a, b, c, d, e, f, g, i, j], _ => exact ⟨a, b, c, d, e, f, g, i, j, rfl⟩

section
variable {H : Type} {enc : TypeId × Value → H} {W : World} {spare : Nat → Bool} {held : Bool}

/-- A token's nine cells, and its attributes. -/
theorem tok_cells {fuel : Nat} {cs : List Value} {x : DataW H × List MemPlace} (h : DataW.trod enc Try.prog W 0 spare held fuel 32 cs = some x) (hw : (x.1.weights Try.prog 32).all (· ≤ reachBytes) = true) :
    ∃ (k : Int) (nm da sy : ByteArray) (hs : Int) (qk : Bool) (ch : Int) (se : Bool) (a : Option Addr) (l : List AttrM) (cap : Nat), cs = [.int .i64 k, .string nm, .string da, .string sy, .int .i64 hs, .bool qk, .int .i32 ch, .bool se, .slice a l.length cap] ∧ AttrsIn W a l ∧ l.length * 56 ≤ 140737488351232 := by
  have hc24 : Try.prog.cellsOf 32 = 9 := by kernel_rfl
  have hc3 : Try.prog.cellsOf 3 = 1 := by kernel_rfl
  have hc4 : Try.prog.cellsOf 4 = 1 := by kernel_rfl
  have hc9 : Try.prog.cellsOf 9 = 1 := by kernel_rfl
  have hc21 : Try.prog.cellsOf 21 = 1 := by kernel_rfl
  have hc25 : Try.prog.cellsOf 25 = 1 := by kernel_rfl
  obtain ⟨xs, n, _, rfl, hl9, hxl, hfs⟩ := DataW.trod_struct Try.underlying32 h
  rw [hc24] at hl9
  obtain ⟨e0, e1, e2, e3, e4, e5, e6, e7, e8, rfl⟩ := list9 cs hl9
  have hx : xs.length = 9 := by simpa using hxl
  obtain ⟨y0, y1, y2, y3, y4, y5, y6, y7, y8, rfl⟩ := list9 xs hx
  have f0 := hfs 0 _ rfl
  have f1 := hfs 1 _ rfl
  have f2 := hfs 2 _ rfl
  have f3 := hfs 3 _ rfl
  have f4 := hfs 4 _ rfl
  have f5 := hfs 5 _ rfl
  have f6 := hfs 6 _ rfl
  have f7 := hfs 7 _ rfl
  have f8 := hfs 8 _ rfl
  simp [hc3, hc4, hc9, hc21, hc25] at f0 f1 f2 f3 f4 f5 f6 f7 f8
  obtain ⟨z0, g0, _, _⟩ := DataW.trod_int Try.underlying3 f0
  obtain ⟨z1, g1, _, _⟩ := DataW.trod_string Try.underlying9 f1
  obtain ⟨z2, g2, _, _⟩ := DataW.trod_string Try.underlying9 f2
  obtain ⟨z3, g3, _, _⟩ := DataW.trod_string Try.underlying9 f3
  obtain ⟨z4, g4, _, _⟩ := DataW.trod_int Try.underlying3 f4
  obtain ⟨z5, g5, _⟩ := DataW.trod_bool Try.underlying4 f5
  obtain ⟨z6, g6, _, _⟩ := DataW.trod_int Try.underlying21 f6
  obtain ⟨z7, g7, _⟩ := DataW.trod_bool Try.underlying4 f7
  obtain ⟨a, cap, l, g8, hin, hl, _⟩ := attrs_cells f8 (List.all_eq_true.2 fun m hm => List.all_eq_true.1 hw m (by
    simp only [DataW.weights, Try.underlying32]
    exact DataW.weights_mem_each (j := 8) (t := 25) (d := y8.1) rfl rfl _ hm))
  simp at g0 g1 g2 g3 g4 g5 g6 g7 g8
  subst g0 g1 g2 g3 g4 g5 g6 g7 g8
  exact ⟨z0, z1, z2, z3, z4, z5, z6, z7, a, l, cap, rfl, hin, hl⟩

theorem tok_open {cs : Array Value} {d : DataW H} {ps : List MemPlace} (h : DataW.Trod enc Try.prog W 0 spare held 32 (.agg cs) d ps) (hsz : (d.weights Try.prog 32).all (· ≤ reachBytes) = true) :
    ∃ (k : Int) (nm da sy : ByteArray) (hs : Int) (qk : Bool) (ch : Int) (se : Bool) (a : Option Addr) (l : List AttrM) (cap : Nat), cs = #[.int .i64 k, .string nm, .string da, .string sy, .int .i64 hs, .bool qk, .int .i32 ch, .bool se, .slice a l.length cap] ∧ AttrsIn W a l ∧ l.length * 56 ≤ 140737488351232 := by
  obtain ⟨fuel, hf⟩ := h
  obtain ⟨k, nm, da, sy, hs, qk, ch, se, a, l, cap, hcs, b⟩ := tok_cells hf hsz
  refine ⟨k, nm, da, sy, hs, qk, ch, se, a, l, cap, ?_, b⟩
  have : cs.toList = _ := hcs
  rw [← this]
end
end Go.Proofs.Ytgbinemombgckaa
