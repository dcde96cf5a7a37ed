/-
  Elements and calls that came in, as the walks read them.
-/
import Derived.Test.YtmllhebmaldgfaaQSd
import Derived.Test.YtmllhebmaldgfaaRows
import Derived.ProofKit
import Derived.OpenShut
import Derived.ShutString
import Derived.ChangeOld
import Derived.Deep.Slices
import Derived.SizedLaws
namespace Go.Proofs.Ytmllhebmaldgfaa
open Go.ChangeShapes Go.WideShapes Go.ChangeAt Go.RowKit

/-- A call of the script. -/
structure OpM where
  what : Int
  a : Int
  old : Int
  n : Int
  text : ByteArray

structure ElsIn (w : World) (a : Option Addr) (l : List Cal) : Prop where
  cells : ∀ (i : Nat) x, l[i]? = some x → ∃ b off, a = some ⟨b, off, none⟩ ∧ w.cell? ⟨b, off + i * 2, none⟩ = some (.int .i64 x.space) ∧ w.cell? ⟨b, off + i * 2 + 1, none⟩ = some (.string x.name)
structure OpsIn (w : World) (a : Option Addr) (l : List OpM) : Prop where
  cells : ∀ (i : Nat) x, l[i]? = some x → ∃ b off, a = some ⟨b, off, none⟩ ∧ w.cell? ⟨b, off + i * 5, none⟩ = some (.int .i64 x.what) ∧ w.cell? ⟨b, off + i * 5 + 1, none⟩ = some (.int .i64 x.a) ∧ w.cell? ⟨b, off + i * 5 + 2, none⟩ = some (.int .i64 x.old) ∧ w.cell? ⟨b, off + i * 5 + 3, none⟩ = some (.int .i64 x.n) ∧ w.cell? ⟨b, off + i * 5 + 4, none⟩ = some (.string x.text)
theorem ElsIn.below {w w' : World} {a : Option Addr} {l : List Cal} (h : ElsIn w a l) (hb : Below w.heap.size w w') : ElsIn w' a l := by
  refine ⟨fun i x hi => ?_⟩
  obtain ⟨b, off, e, c0, c1⟩ := h.cells i x hi
  have hlt : b < w.heap.size := World.block_lt_of_cell? w _ c0
  exact ⟨b, off, e, (hb.cell (p := ⟨b, off + i * 2, none⟩) hlt).trans c0, (hb.cell (p := ⟨b, off + i * 2 + 1, none⟩) hlt).trans c1⟩
theorem OpsIn.below {w w' : World} {a : Option Addr} {l : List OpM} (h : OpsIn w a l) (hb : Below w.heap.size w w') : OpsIn w' a l := by
  refine ⟨fun i x hi => ?_⟩
  obtain ⟨b, off, e, c0, c1, c2, c3, c4⟩ := h.cells i x hi
  have hlt : b < w.heap.size := World.block_lt_of_cell? w _ c0
  exact ⟨b, off, e, (hb.cell (p := ⟨b, off + i * 5, none⟩) hlt).trans c0, (hb.cell (p := ⟨b, off + i * 5 + 1, none⟩) hlt).trans c1, (hb.cell (p := ⟨b, off + i * 5 + 2, none⟩) hlt).trans c2, (hb.cell (p := ⟨b, off + i * 5 + 3, none⟩) hlt).trans c3, (hb.cell (p := ⟨b, off + i * 5 + 4, none⟩) hlt).trans c4⟩

theorem laidOut : laidOutB Try.prog = true := by kernel_rfl
theorem list2 {α : Type} (l : List α) (h : l.length = 2) : ∃ a b, l = [a, b] := by
  match l, h with
  | [a, b], _ => exact ⟨a, b, rfl⟩
theorem list5 {α : Type} (l : List α) (h : l.length = 5) : ∃ a b c d e, l = [a, b, c, d, e] := by
  match l, h with
  | [a, b, c, d, e], _ => exact ⟨a, b, c, d, e, rfl⟩

section
variable {H : Type} {enc : TypeId × Value → H} {W : World} {spare : Nat → Bool} {held : Bool}

theorem addr_plain {x : Addr} {v : Value} (h : W.cell? (x.add 0) = some v) : ∃ b off, x = ⟨b, off, none⟩ := by
  obtain ⟨b, off, spot⟩ := x
  have hspot : spot = none := by simpa [Addr.add] using World.cell?_spot h
  exact ⟨b, off, by rw [hspot]⟩

theorem cells_get {x : Addr} {n : Nat} {cs : List Value} (h : W.cells? 0 x n = some cs) (j : Nat) (v : Value) (hj : cs[j]? = some v) : W.cell? (x.add j) = some v := by
  obtain ⟨_, hlen, hc⟩ := World.cells?_some h
  have hlt : j < cs.length := (List.getElem?_eq_some_iff.1 hj).1
  simp only [World.cells?, Nat.zero_le, if_true] at h
  have hjn : j < n := by omega
  have := mapM_some_get h j j (by simp [hjn])
  rw [this, hj]

theorem elem_cells {fuel : Nat} {cs : List Value} {x : DataW H × List MemPlace} (h : DataW.trod enc Try.prog W 0 spare held fuel 72 cs = some x) : ∃ z : Cal, cs = [.int .i64 z.space, .string z.name] := by
  have hcn : Try.prog.cellsOf 72 = 2 := by kernel_rfl
  have hc3 : Try.prog.cellsOf 3 = 1 := by kernel_rfl
  have hc9 : Try.prog.cellsOf 9 = 1 := by kernel_rfl
  obtain ⟨xs, k, _, rfl, hl, hxl, hfs⟩ := DataW.trod_struct Try.underlying72 h
  rw [hcn] at hl
  obtain ⟨e0, e1, rfl⟩ := list2 cs hl
  have f0 := hfs 0 _ rfl
  have f1 := hfs 1 _ rfl
  have hx : xs.length = 2 := by simpa using hxl
  obtain ⟨y0, y1, rfl⟩ := list2 xs hx
  simp [hc3, hc9] at f0 f1
  obtain ⟨z0, g0, _, _⟩ := DataW.trod_int Try.underlying3 f0
  obtain ⟨z1, g1, _, _⟩ := DataW.trod_string Try.underlying9 f1
  simp at g0 g1
  subst g0 g1
  exact ⟨⟨z0, z1⟩, rfl⟩

/-- A slice of them that came in. -/
theorem elems_open {a : Option Addr} {len cap : Nat} {d : DataW H} {ps : List MemPlace} (h : DataW.Trod enc Try.prog W 0 spare held 22 (.slice a len cap) d ps) (hw : (d.weights Try.prog 22).all (· ≤ reachBytes) = true) :
    ∃ l : List Cal, len = l.length ∧ ElsIn W a l ∧ l.length ≤ 140737488351232 := by
  obtain ⟨fuel, hf⟩ := h
  rcases Go.Deep.open_slice Try.underlying22 hf with ⟨hcs, _⟩ | ⟨x, len', cap', m, n, D, Pl, hcs, _, hlc, hcm, hm, hd, hel⟩
  · simp [Value.cells] at hcs
    obtain ⟨rfl, rfl, rfl⟩ := hcs
    exact ⟨[], rfl, ⟨fun i x hi => by simp at hi⟩, by simp⟩
  · simp [Value.cells] at hcs
    obtain ⟨rfl, rfl, rfl⟩ := hcs
    cases hd
    have hcn : Try.prog.cellsOf 72 = 2 := by kernel_rfl
    have hbn : Try.prog.bytesOf 72 = 24 := by kernel_rfl
    have hlm : len ≤ m := by rw [hm]; split <;> omega
    have one : ∀ i, i < len → ∃ z : Cal, ∃ b off, x = ⟨b, off, none⟩ ∧ W.cell? ⟨b, off + i * 2, none⟩ = some (.int .i64 z.space) ∧ W.cell? ⟨b, off + i * 2 + 1, none⟩ = some (.string z.name) := by
      intro i hi
      obtain ⟨cs', hcs', htr⟩ := hel i (by omega)
      rw [hcn] at hcs'
      obtain ⟨z, rfl⟩ := elem_cells htr
      have c0 := cells_get hcs' 0 _ rfl
      have c1 := cells_get hcs' 1 _ rfl
      rw [Go.Deep.add_add] at c0 c1
      obtain ⟨i0, hi0⟩ : ∃ i0 : Nat, i0 = 0 := ⟨0, rfl⟩
      obtain ⟨cs0, hcs0, htr0⟩ := hel i0 (by omega)
      rw [hcn] at hcs0
      obtain ⟨z', rfl⟩ := elem_cells htr0
      have p0 := cells_get hcs0 0 _ rfl
      rw [Go.Deep.add_add, show i0 * 2 + 0 = 0 by omega] at p0
      obtain ⟨b, off, rfl⟩ := addr_plain p0
      rw [add_at] at c0 c1
      exact ⟨z, b, off, rfl, c0, c1⟩
    obtain ⟨f, hf'⟩ : ∃ f : Nat → Cal, ∀ i, i < len → ∃ b off, x = ⟨b, off, none⟩ ∧ W.cell? ⟨b, off + i * 2, none⟩ = some (.int .i64 (f i).space) ∧ W.cell? ⟨b, off + i * 2 + 1, none⟩ = some (.string (f i).name) := by
      have : Inhabited Cal := ⟨⟨0, ⟨#[]⟩⟩⟩
      exact Go.Deep.choose_lt one
    refine ⟨(List.range len).map f, by simp, ⟨fun i y hi => ?_⟩, ?_⟩
    · have hlt : i < len := by have := (List.getElem?_eq_some_iff.1 hi).1; simpa using this
      have hy : f i = y := by simpa [hlt] using hi
      obtain ⟨b, off, e, c0, c1⟩ := hf' i hlt
      subst hy
      exact ⟨b, off, by rw [e], c0, c1⟩
    · have := List.all_eq_true.1 hw (((List.range len).map D).length * 24 + ((List.range (m - len)).map fun j => D (len + j)).length * 24) (by simp [DataW.weights, Try.underlying22, hbn, Nat.add_mul])
      simp [reachBytes] at this
      simp
      omega

theorem op_cells {fuel : Nat} {cs : List Value} {x : DataW H × List MemPlace} (h : DataW.trod enc Try.prog W 0 spare held fuel 36 cs = some x) : ∃ z : OpM, cs = [.int .i64 z.what, .int .i64 z.a, .int .i64 z.old, .int .i64 z.n, .string z.text] := by
  have hcn : Try.prog.cellsOf 36 = 5 := by kernel_rfl
  have hc3 : Try.prog.cellsOf 3 = 1 := by kernel_rfl
  have hc9 : Try.prog.cellsOf 9 = 1 := by kernel_rfl
  obtain ⟨xs, k, _, rfl, hl, hxl, hfs⟩ := DataW.trod_struct Try.underlying36 h
  rw [hcn] at hl
  obtain ⟨e0, e1, e2, e3, e4, rfl⟩ := list5 cs hl
  have f0 := hfs 0 _ rfl
  have f1 := hfs 1 _ rfl
  have f2 := hfs 2 _ rfl
  have f3 := hfs 3 _ rfl
  have f4 := hfs 4 _ rfl
  have hx : xs.length = 5 := by simpa using hxl
  obtain ⟨y0, y1, y2, y3, y4, rfl⟩ := list5 xs hx
  simp [hc3, hc9] at f0 f1 f2 f3 f4
  obtain ⟨z0, g0, _, _⟩ := DataW.trod_int Try.underlying3 f0
  obtain ⟨z1, g1, _, _⟩ := DataW.trod_int Try.underlying3 f1
  obtain ⟨z2, g2, _, _⟩ := DataW.trod_int Try.underlying3 f2
  obtain ⟨z3, g3, _, _⟩ := DataW.trod_int Try.underlying3 f3
  obtain ⟨z4, g4, _, _⟩ := DataW.trod_string Try.underlying9 f4
  simp at g0 g1 g2 g3 g4
  subst g0 g1 g2 g3 g4
  exact ⟨⟨z0, z1, z2, z3, z4⟩, rfl⟩

/-- A slice of them that came in. -/
theorem ops_open {a : Option Addr} {len cap : Nat} {d : DataW H} {ps : List MemPlace} (h : DataW.Trod enc Try.prog W 0 spare held 23 (.slice a len cap) d ps) (hw : (d.weights Try.prog 23).all (· ≤ reachBytes) = true) :
    ∃ l : List OpM, len = l.length ∧ OpsIn W a l ∧ l.length ≤ 140737488351232 := by
  obtain ⟨fuel, hf⟩ := h
  rcases Go.Deep.open_slice Try.underlying23 hf with ⟨hcs, _⟩ | ⟨x, len', cap', m, n, D, Pl, hcs, _, hlc, hcm, hm, hd, hel⟩
  · simp [Value.cells] at hcs
    obtain ⟨rfl, rfl, rfl⟩ := hcs
    exact ⟨[], rfl, ⟨fun i x hi => by simp at hi⟩, by simp⟩
  · simp [Value.cells] at hcs
    obtain ⟨rfl, rfl, rfl⟩ := hcs
    cases hd
    have hcn : Try.prog.cellsOf 36 = 5 := by kernel_rfl
    have hbn : Try.prog.bytesOf 36 = 48 := by kernel_rfl
    have hlm : len ≤ m := by rw [hm]; split <;> omega
    have one : ∀ i, i < len → ∃ z : OpM, ∃ b off, x = ⟨b, off, none⟩ ∧ W.cell? ⟨b, off + i * 5, none⟩ = some (.int .i64 z.what) ∧ W.cell? ⟨b, off + i * 5 + 1, none⟩ = some (.int .i64 z.a) ∧ W.cell? ⟨b, off + i * 5 + 2, none⟩ = some (.int .i64 z.old) ∧ W.cell? ⟨b, off + i * 5 + 3, none⟩ = some (.int .i64 z.n) ∧ W.cell? ⟨b, off + i * 5 + 4, none⟩ = some (.string z.text) := by
      intro i hi
      obtain ⟨cs', hcs', htr⟩ := hel i (by omega)
      rw [hcn] at hcs'
      obtain ⟨z, rfl⟩ := op_cells htr
      have c0 := cells_get hcs' 0 _ rfl
      have c1 := cells_get hcs' 1 _ rfl
      have c2 := cells_get hcs' 2 _ rfl
      have c3 := cells_get hcs' 3 _ rfl
      have c4 := cells_get hcs' 4 _ rfl
      rw [Go.Deep.add_add] at c0 c1 c2 c3 c4
      obtain ⟨i0, hi0⟩ : ∃ i0 : Nat, i0 = 0 := ⟨0, rfl⟩
      obtain ⟨cs0, hcs0, htr0⟩ := hel i0 (by omega)
      rw [hcn] at hcs0
      obtain ⟨z', rfl⟩ := op_cells htr0
      have p0 := cells_get hcs0 0 _ rfl
      rw [Go.Deep.add_add, show i0 * 5 + 0 = 0 by omega] at p0
      obtain ⟨b, off, rfl⟩ := addr_plain p0
      rw [add_at] at c0 c1 c2 c3 c4
      exact ⟨z, b, off, rfl, c0, c1, c2, c3, c4⟩
    obtain ⟨f, hf'⟩ : ∃ f : Nat → OpM, ∀ i, i < len → ∃ b off, x = ⟨b, off, none⟩ ∧ W.cell? ⟨b, off + i * 5, none⟩ = some (.int .i64 (f i).what) ∧ W.cell? ⟨b, off + i * 5 + 1, none⟩ = some (.int .i64 (f i).a) ∧ W.cell? ⟨b, off + i * 5 + 2, none⟩ = some (.int .i64 (f i).old) ∧ W.cell? ⟨b, off + i * 5 + 3, none⟩ = some (.int .i64 (f i).n) ∧ W.cell? ⟨b, off + i * 5 + 4, none⟩ = some (.string (f i).text) := by
      have : Inhabited OpM := ⟨⟨0, 0, 0, 0, ⟨#[]⟩⟩⟩
      exact Go.Deep.choose_lt one
    refine ⟨(List.range len).map f, by simp, ⟨fun i y hi => ?_⟩, ?_⟩
    · have hlt : i < len := by have := (List.getElem?_eq_some_iff.1 hi).1; simpa using this
      have hy : f i = y := by simpa [hlt] using hi
      obtain ⟨b, off, e, c0, c1, c2, c3, c4⟩ := hf' i hlt
      subst hy
      exact ⟨b, off, by rw [e], c0, c1, c2, c3, c4⟩
    · have := List.all_eq_true.1 hw (((List.range len).map D).length * 48 + ((List.range (m - len)).map fun j => D (len + j)).length * 48) (by simp [DataW.weights, Try.underlying23, hbn, Nat.add_mul])
      simp [reachBytes] at this
      simp
      omega
end
end Go.Proofs.Ytmllhebmaldgfaa
