/-
  Bytes, numbers, calls that came in.
-/
import Derived.Test.YtdfcdgjmjionbaaTg
import Derived.Test.YtdfcdgjmjionbaaRows
import Derived.ProofKit
import Derived.OpenShut
import Derived.ChangeOld
import Derived.Deep.Slices
import Derived.SizedLaws
namespace Go.Proofs.Ytdfcdgjmjionbaa
open Go.ChangeShapes Go.WideShapes Go.ChangeAt Go.RowKit

theorem laidOut : laidOutB Try.prog = true := by kernel_rfl
/-- A call of the script. -/
structure OpM where
  what : Int
  src : Int
  n : Int
def OpM.cells (x : OpM) : List Value := [.int .i64 x.what, .int .i64 x.src, .int .i64 x.n]
def opsV (l : List OpM) : List Value := l.flatMap OpM.cells
/-- The scripts that came in. -/
def OpsIn (w : World) (a : Option Addr) (l : List OpM) : Prop := ∀ (i : Nat) x, l[i]? = some x → ∃ b off, a = some ⟨b, off, none⟩ ∧ w.cell? ⟨b, off + i * 3, none⟩ = some (.int .i64 x.what) ∧ w.cell? ⟨b, off + i * 3 + 1, none⟩ = some (.int .i64 x.src) ∧ w.cell? ⟨b, off + i * 3 + 2, none⟩ = some (.int .i64 x.n)
theorem OpsIn.below {w w' : World} {a : Option Addr} {l : List OpM} (h : OpsIn w a l) (hb : Below w.heap.size w w') : OpsIn w' a l := by
  intro i x hi
  obtain ⟨b, off, e, c0, c1, c2⟩ := h i x hi
  have hlt : b < w.heap.size := World.block_lt_of_cell? w _ c0
  exact ⟨b, off, e, (hb.cell (p := ⟨b, off + i * 3, none⟩) hlt).trans c0, (hb.cell (p := ⟨b, off + i * 3 + 1, none⟩) hlt).trans c1, (hb.cell (p := ⟨b, off + i * 3 + 2, none⟩) hlt).trans c2⟩
theorem list3 {α : Type} (l : List α) (h : l.length = 3) : ∃ a b c, l = [a, b, c] := by
  match l, h with
  | [a, b, c], _ => exact ⟨a, b, c, rfl⟩
section
variable {H : Type} {enc : TypeId × Value → H} {W : World} {spare : Nat → Bool} {held : Bool}
theorem addr_plain1 {x : Addr} {v : Value} (h : W.cell? (x.add 0) = some v) : ∃ b off, x = ⟨b, off, none⟩ := by
  obtain ⟨b, off, spot⟩ := x
  have hspot : spot = none := by simpa [Addr.add] using World.cell?_spot h
  exact ⟨b, off, by rw [hspot]⟩
theorem cells_get1 {x : Addr} {n : Nat} {cs : List Value} (h : W.cells? 0 x n = some cs) (j : Nat) (v : Value) (hj : cs[j]? = some v) : W.cell? (x.add j) = some v := by
  obtain ⟨_, hlen, hc⟩ := World.cells?_some h
  have hlt : j < cs.length := (List.getElem?_eq_some_iff.1 hj).1
  simp only [World.cells?, Nat.zero_le, if_true] at h
  have hjn : j < n := by omega
  have := mapM_some_get h j j (by simp [hjn])
  rw [this, hj]

theorem bytes_open {a : Option Addr} {len cap : Nat} {d : DataW H} {ps : List MemPlace} (h : DataW.Trod enc Try.prog W 0 spare held 31 (.slice a len cap) d ps) (hw : (d.weights Try.prog 31).all (· ≤ reachBytes) = true) :
    ∃ l : List Int, len = l.length ∧ (RowIn W (fun _ => True) a (bytesV l) ∧ ∀ x ∈ l, 0 ≤ x ∧ x ≤ 255) ∧ l.length ≤ 140737488351232 := by
  obtain ⟨fuel, hf⟩ := h
  rcases Go.Deep.open_slice Try.underlying31 hf with ⟨hcs, _⟩ | ⟨x, len', cap', m, n, D, Pl, hcs, _, hlc, hcm, hm, hd, hel⟩
  · simp [Value.cells] at hcs
    obtain ⟨rfl, rfl, rfl⟩ := hcs
    exact ⟨[], rfl, ⟨RowIn.nil _ _ _, fun x hx => by simp at hx⟩, by simp⟩
  · simp [Value.cells] at hcs
    obtain ⟨rfl, rfl, rfl⟩ := hcs
    cases hd
    have hcn : Try.prog.cellsOf 5 = 1 := by kernel_rfl
    have hbn : Try.prog.bytesOf 5 = 1 := by kernel_rfl
    have hlm : len ≤ m := by rw [hm]; split <;> omega
    have e1 : IntKind.u8.min = 0 := rfl
    have e2 : IntKind.u8.max = 255 := by decide
    have one : ∀ i, i < len → ∃ z : Int, (0 ≤ z ∧ z ≤ 255) ∧ ∃ b off, x = ⟨b, off, none⟩ ∧ W.cell? ⟨b, off + i, none⟩ = some (.int .u8 z) := by
      intro i hi
      obtain ⟨cs', hcs', htr⟩ := hel i (by omega)
      rw [hcn] at hcs'
      obtain ⟨z, rfl, _, hz⟩ := DataW.trod_int Try.underlying5 htr
      have c0 := cells_get1 hcs' 0 _ rfl
      rw [Go.Deep.add_add] at c0
      obtain ⟨i0, hi0⟩ : ∃ i0 : Nat, i0 = 0 := ⟨0, rfl⟩
      obtain ⟨cs0, hcs0, htr0⟩ := hel i0 (by omega)
      rw [hcn] at hcs0
      obtain ⟨z', rfl, _, _⟩ := DataW.trod_int Try.underlying5 htr0
      have p0 := cells_get1 hcs0 0 _ rfl
      rw [Go.Deep.add_add, show i0 * 1 + 0 = 0 by omega] at p0
      obtain ⟨b, off, rfl⟩ := addr_plain1 p0
      rw [show i * 1 + 0 = i by omega, add_at] at c0
      refine ⟨z, ?_, b, off, rfl, c0⟩
      simp only [Lit.wf, e1, e2, Bool.and_eq_true, decide_eq_true_eq] at hz
      exact hz
    obtain ⟨f, hf'⟩ : ∃ f : Nat → Int, ∀ i, i < len → (0 ≤ f i ∧ f i ≤ 255) ∧ ∃ b off, x = ⟨b, off, none⟩ ∧ W.cell? ⟨b, off + i, none⟩ = some (.int .u8 (f i)) := Go.Deep.choose_lt one
    have hrow : RowIn W (fun _ => True) (some x) (bytesV ((List.range len).map f)) := by
      intro i u hi
      have hlt : i < len := by have := (List.getElem?_eq_some_iff.1 hi).1; simpa [bytesV] using this
      have hy : Value.int .u8 (f i) = u := by simpa [bytesV, hlt] using hi
      obtain ⟨_, b, off, e, c0⟩ := hf' i hlt
      subst hy
      exact ⟨b, off, by rw [e], trivial, c0⟩
    refine ⟨(List.range len).map f, by simp, ⟨hrow, fun y hy => ?_⟩, ?_⟩
    · obtain ⟨i, hi, rfl⟩ := List.mem_map.1 hy
      exact (hf' i (List.mem_range.1 hi)).1
    · have := List.all_eq_true.1 hw (((List.range len).map D).length * 1 + ((List.range (m - len)).map fun j => D (len + j)).length * 1) (by simp [DataW.weights, Try.underlying31, hbn])
      simp [reachBytes] at this
      simp
      omega

theorem ints_open {a : Option Addr} {len cap : Nat} {d : DataW H} {ps : List MemPlace} (h : DataW.Trod enc Try.prog W 0 spare held 42 (.slice a len cap) d ps) (hw : (d.weights Try.prog 42).all (· ≤ reachBytes) = true) :
    ∃ l : List Int, len = l.length ∧ (RowIn W (fun _ => True) a (intsV l)) ∧ l.length ≤ 140737488351232 := by
  obtain ⟨fuel, hf⟩ := h
  rcases Go.Deep.open_slice Try.underlying42 hf with ⟨hcs, _⟩ | ⟨x, len', cap', m, n, D, Pl, hcs, _, hlc, hcm, hm, hd, hel⟩
  · simp [Value.cells] at hcs
    obtain ⟨rfl, rfl, rfl⟩ := hcs
    exact ⟨[], rfl, RowIn.nil _ _ _, by simp⟩
  · simp [Value.cells] at hcs
    obtain ⟨rfl, rfl, rfl⟩ := hcs
    cases hd
    have hcn : Try.prog.cellsOf 3 = 1 := by kernel_rfl
    have hbn : Try.prog.bytesOf 3 = 8 := by kernel_rfl
    have hlm : len ≤ m := by rw [hm]; split <;> omega
    have one : ∀ i, i < len → ∃ z : Int, ∃ b off, x = ⟨b, off, none⟩ ∧ W.cell? ⟨b, off + i, none⟩ = some (.int .i64 z) := by
      intro i hi
      obtain ⟨cs', hcs', htr⟩ := hel i (by omega)
      rw [hcn] at hcs'
      obtain ⟨z, rfl, _, hz⟩ := DataW.trod_int Try.underlying3 htr
      have c0 := cells_get1 hcs' 0 _ rfl
      rw [Go.Deep.add_add] at c0
      obtain ⟨i0, hi0⟩ : ∃ i0 : Nat, i0 = 0 := ⟨0, rfl⟩
      obtain ⟨cs0, hcs0, htr0⟩ := hel i0 (by omega)
      rw [hcn] at hcs0
      obtain ⟨z', rfl, _, _⟩ := DataW.trod_int Try.underlying3 htr0
      have p0 := cells_get1 hcs0 0 _ rfl
      rw [Go.Deep.add_add, show i0 * 1 + 0 = 0 by omega] at p0
      obtain ⟨b, off, rfl⟩ := addr_plain1 p0
      rw [show i * 1 + 0 = i by omega, add_at] at c0
      refine ⟨z, b, off, rfl, c0⟩
    obtain ⟨f, hf'⟩ : ∃ f : Nat → Int, ∀ i, i < len → ∃ b off, x = ⟨b, off, none⟩ ∧ W.cell? ⟨b, off + i, none⟩ = some (.int .i64 (f i)) := Go.Deep.choose_lt one
    have hrow : RowIn W (fun _ => True) (some x) (intsV ((List.range len).map f)) := by
      intro i u hi
      have hlt : i < len := by have := (List.getElem?_eq_some_iff.1 hi).1; simpa [intsV] using this
      have hy : Value.int .i64 (f i) = u := by simpa [intsV, hlt] using hi
      obtain ⟨b, off, e, c0⟩ := hf' i hlt
      subst hy
      exact ⟨b, off, by rw [e], trivial, c0⟩
    refine ⟨(List.range len).map f, by simp, hrow, ?_⟩
    · have := List.all_eq_true.1 hw (((List.range len).map D).length * 8 + ((List.range (m - len)).map fun j => D (len + j)).length * 8) (by simp [DataW.weights, Try.underlying42, hbn, Nat.add_mul])
      simp [reachBytes] at this
      simp
      omega

theorem op_cells {fuel : Nat} {cs : List Value} {x : DataW H × List MemPlace} (h : DataW.trod enc Try.prog W 0 spare held fuel 28 cs = some x) : ∃ z : OpM, cs = [.int .i64 z.what, .int .i64 z.src, .int .i64 z.n] := by
  have hcn : Try.prog.cellsOf 28 = 3 := by kernel_rfl
  have hc3 : Try.prog.cellsOf 3 = 1 := by kernel_rfl
  obtain ⟨xs, k, _, rfl, hl, hxl, hfs⟩ := DataW.trod_struct Try.underlying28 h
  rw [hcn] at hl
  obtain ⟨e0, e1, e2, rfl⟩ := list3 cs hl
  have f0 := hfs 0 _ rfl
  have f1 := hfs 1 _ rfl
  have f2 := hfs 2 _ rfl
  have hx : xs.length = 3 := by simpa using hxl
  obtain ⟨y0, y1, y2, rfl⟩ := list3 xs hx
  simp [hc3] at f0 f1 f2
  obtain ⟨z0, g0, _, _⟩ := DataW.trod_int Try.underlying3 f0
  obtain ⟨z1, g1, _, _⟩ := DataW.trod_int Try.underlying3 f1
  obtain ⟨z2, g2, _, _⟩ := DataW.trod_int Try.underlying3 f2
  simp at g0 g1 g2
  subst g0 g1 g2
  exact ⟨⟨z0, z1, z2⟩, rfl⟩
theorem ops_open {a : Option Addr} {len cap : Nat} {d : DataW H} {ps : List MemPlace} (h : DataW.Trod enc Try.prog W 0 spare held 22 (.slice a len cap) d ps) (hw : (d.weights Try.prog 22).all (· ≤ reachBytes) = true) :
    ∃ l : List OpM, len = l.length ∧ OpsIn W a l ∧ l.length ≤ 140737488351232 := by
  obtain ⟨fuel, hf⟩ := h
  rcases Go.Deep.open_slice Try.underlying22 hf with ⟨hcs, _⟩ | ⟨x, len', cap', m, n, D, Pl, hcs, _, hlc, hcm, hm, hd, hel⟩
  · simp [Value.cells] at hcs
    obtain ⟨rfl, rfl, rfl⟩ := hcs
    exact ⟨[], rfl, fun i x hi => by simp at hi, by simp⟩
  · simp [Value.cells] at hcs
    obtain ⟨rfl, rfl, rfl⟩ := hcs
    cases hd
    have hcn : Try.prog.cellsOf 28 = 3 := by kernel_rfl
    have hbn : Try.prog.bytesOf 28 = 24 := by kernel_rfl
    have hlm : len ≤ m := by rw [hm]; split <;> omega
    have one : ∀ i, i < len → ∃ z : OpM, ∃ b off, x = ⟨b, off, none⟩ ∧ W.cell? ⟨b, off + i * 3, none⟩ = some (.int .i64 z.what) ∧ W.cell? ⟨b, off + i * 3 + 1, none⟩ = some (.int .i64 z.src) ∧ W.cell? ⟨b, off + i * 3 + 2, none⟩ = some (.int .i64 z.n) := by
      intro i hi
      obtain ⟨cs', hcs', htr⟩ := hel i (by omega)
      rw [hcn] at hcs'
      obtain ⟨z, rfl⟩ := op_cells htr
      have c0 := cells_get1 hcs' 0 _ rfl
      have c1 := cells_get1 hcs' 1 _ rfl
      have c2 := cells_get1 hcs' 2 _ rfl
      rw [Go.Deep.add_add] at c0 c1 c2
      obtain ⟨i0, hi0⟩ : ∃ i0 : Nat, i0 = 0 := ⟨0, rfl⟩
      obtain ⟨cs0, hcs0, htr0⟩ := hel i0 (by omega)
      rw [hcn] at hcs0
      obtain ⟨z', rfl⟩ := op_cells htr0
      have p0 := cells_get1 hcs0 0 _ rfl
      rw [Go.Deep.add_add, show i0 * 3 + 0 = 0 by omega] at p0
      obtain ⟨b, off, rfl⟩ := addr_plain1 p0
      rw [add_at] at c0 c1 c2
      exact ⟨z, b, off, rfl, c0, c1, c2⟩
    obtain ⟨f, hf'⟩ : ∃ f : Nat → OpM, ∀ i, i < len → ∃ b off, x = ⟨b, off, none⟩ ∧ W.cell? ⟨b, off + i * 3, none⟩ = some (.int .i64 (f i).what) ∧ W.cell? ⟨b, off + i * 3 + 1, none⟩ = some (.int .i64 (f i).src) ∧ W.cell? ⟨b, off + i * 3 + 2, none⟩ = some (.int .i64 (f i).n) := by
      have : Inhabited OpM := ⟨⟨0, 0, 0⟩⟩
      exact Go.Deep.choose_lt one
    refine ⟨(List.range len).map f, by simp, fun i y hi => ?_, ?_⟩
    · have hlt : i < len := by have := (List.getElem?_eq_some_iff.1 hi).1; simpa using this
      have hy : f i = y := by simpa [hlt] using hi
      obtain ⟨b, off, e, c0, c1, c2⟩ := hf' i hlt
      subst hy
      exact ⟨b, off, by rw [e], c0, c1, c2⟩
    · have := List.all_eq_true.1 hw (((List.range len).map D).length * 24 + ((List.range (m - len)).map fun j => D (len + j)).length * 24) (by simp [DataW.weights, Try.underlying22, hbn, Nat.add_mul])
      simp [reachBytes] at this
      simp
      omega
end
end Go.Proofs.Ytdfcdgjmjionbaa
