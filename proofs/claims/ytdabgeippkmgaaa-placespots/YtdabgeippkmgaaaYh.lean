import Derived.Test.YtdabgeippkmgaaaYg
import Derived.Test.YtdabgeippkmgaaaEa
/-
  Acts that came in, as the walks read them.
-/
namespace Go.Proofs.Ytdabgeippkmgaaa
open Go.ChangeShapes Go.WideShapes Go.ChangeAt Go.RowKit

structure ActsIn (w : World) (a : Option Addr) (l : List ActM) : Prop where
  cells : ∀ (i : Nat) x, l[i]? = some x → ∃ b off, a = some ⟨b, off, none⟩ ∧ w.cell? ⟨b, off + i * 3, none⟩ = some (.string x.text) ∧ w.cell? ⟨b, off + i * 3 + 1, none⟩ = some (.int .i64 x.up) ∧ w.cell? ⟨b, off + i * 3 + 2, none⟩ = some (.bool x.opn)
theorem ActsIn.below {w w' : World} {a : Option Addr} {l : List ActM} (h : ActsIn w a l) (hb : Below w.heap.size w w') : ActsIn w' a l := by
  refine ⟨fun i x hi => ?_⟩
  obtain ⟨b, off, e, c0, c1, c2⟩ := h.cells i x hi
  have hlt : b < w.heap.size := World.block_lt_of_cell? w _ c0
  exact ⟨b, off, e, (hb.cell (p := ⟨b, off + i * 3, none⟩) hlt).trans c0, (hb.cell (p := ⟨b, off + i * 3 + 1, none⟩) hlt).trans c1, (hb.cell (p := ⟨b, off + i * 3 + 2, none⟩) hlt).trans c2⟩

theorem list3 {α : Type} (l : List α) (h : l.length = 3) : ∃ a b c, l = [a, b, c] := by
  match l, h with
  | [a, b, c], _ => exact ⟨a, b, c, rfl⟩

section
variable {H : Type} {enc : TypeId × Value → H} {W : World} {spare : Nat → Bool} {held : Bool}

theorem act_cells {fuel : Nat} {cs : List Value} {x : DataW H × List MemPlace} (h : DataW.trod enc Try.prog W 0 spare held fuel 157 cs = some x) : ∃ z : ActM, cs = [.string z.text, .int .i64 z.up, .bool z.opn] := by
  have hcn : Try.prog.cellsOf 157 = 3 := by kernel_rfl
  have hc3 : Try.prog.cellsOf 3 = 1 := by kernel_rfl
  have hc9 : Try.prog.cellsOf 9 = 1 := by kernel_rfl
  have hc4 : Try.prog.cellsOf 4 = 1 := by kernel_rfl
  obtain ⟨xs, k, _, rfl, hl, hxl, hfs⟩ := DataW.trod_struct Try.underlying157 h
  rw [hcn] at hl
  obtain ⟨e0, e1, e2, rfl⟩ := list3 cs hl
  have f0 := hfs 0 _ rfl
  have f1 := hfs 1 _ rfl
  have f2 := hfs 2 _ rfl
  have hx : xs.length = 3 := by simpa using hxl
  obtain ⟨y0, y1, y2, rfl⟩ := list3 xs hx
  simp [hc3, hc9, hc4] at f0 f1 f2
  obtain ⟨z0, g0, _, _⟩ := DataW.trod_string Try.underlying9 f0
  obtain ⟨z1, g1, _, _⟩ := DataW.trod_int Try.underlying3 f1
  obtain ⟨z2, g2, _⟩ := DataW.trod_bool Try.underlying4 f2
  simp at g0 g1 g2
  subst g0 g1 g2
  exact ⟨⟨z0, z1, z2⟩, rfl⟩

/-- A slice of them that came in. -/
theorem acts_open {a : Option Addr} {len cap : Nat} {d : DataW H} {ps : List MemPlace} (h : DataW.Trod enc Try.prog W 0 spare held 78 (.slice a len cap) d ps) (hw : (d.weights Try.prog 78).all (· ≤ reachBytes) = true) :
    ∃ l : List ActM, len = l.length ∧ ActsIn W a l ∧ l.length ≤ 140737488351232 := by
  obtain ⟨fuel, hf⟩ := h
  rcases Go.Deep.open_slice Try.underlying78 hf with ⟨hcs, _⟩ | ⟨x, len', cap', m, n, D, Pl, hcs, _, hlc, hcm, hm, hd, hel⟩
  · simp [Value.cells] at hcs
    obtain ⟨rfl, rfl, rfl⟩ := hcs
    exact ⟨[], rfl, ⟨fun i x hi => by simp at hi⟩, by simp⟩
  · simp [Value.cells] at hcs
    obtain ⟨rfl, rfl, rfl⟩ := hcs
    cases hd
    have hcn : Try.prog.cellsOf 157 = 3 := by kernel_rfl
    have hbn : Try.prog.bytesOf 157 = 32 := by kernel_rfl
    have hlm : len ≤ m := by rw [hm]; split <;> omega
    have one : ∀ i, i < len → ∃ z : ActM, ∃ b off, x = ⟨b, off, none⟩ ∧ W.cell? ⟨b, off + i * 3, none⟩ = some (.string z.text) ∧ W.cell? ⟨b, off + i * 3 + 1, none⟩ = some (.int .i64 z.up) ∧ W.cell? ⟨b, off + i * 3 + 2, none⟩ = some (.bool z.opn) := by
      intro i hi
      obtain ⟨cs', hcs', htr⟩ := hel i (by omega)
      rw [hcn] at hcs'
      obtain ⟨z, rfl⟩ := act_cells htr
      have c0 := cells_get hcs' 0 _ rfl
      have c1 := cells_get hcs' 1 _ rfl
      have c2 := cells_get hcs' 2 _ rfl
      rw [Go.Deep.add_add] at c0 c1 c2
      obtain ⟨i0, hi0⟩ : ∃ i0 : Nat, i0 = 0 := ⟨0, rfl⟩
      obtain ⟨cs0, hcs0, htr0⟩ := hel i0 (by omega)
      rw [hcn] at hcs0
      obtain ⟨z', rfl⟩ := act_cells htr0
      have p0 := cells_get hcs0 0 _ rfl
      rw [Go.Deep.add_add, show i0 * 3 + 0 = 0 by omega] at p0
      obtain ⟨b, off, rfl⟩ := addr_plain p0
      rw [add_at] at c0 c1 c2
      exact ⟨z, b, off, rfl, c0, c1, c2⟩
    obtain ⟨f, hf'⟩ : ∃ f : Nat → ActM, ∀ i, i < len → ∃ b off, x = ⟨b, off, none⟩ ∧ W.cell? ⟨b, off + i * 3, none⟩ = some (.string (f i).text) ∧ W.cell? ⟨b, off + i * 3 + 1, none⟩ = some (.int .i64 (f i).up) ∧ W.cell? ⟨b, off + i * 3 + 2, none⟩ = some (.bool (f i).opn) := by
      have : Inhabited ActM := ⟨⟨⟨#[]⟩, 0, false⟩⟩
      exact Go.Deep.choose_lt one
    refine ⟨(List.range len).map f, by simp, ⟨fun i y hi => ?_⟩, ?_⟩
    · have hlt : i < len := by have := (List.getElem?_eq_some_iff.1 hi).1; simpa using this
      have hy : f i = y := by simpa [hlt] using hi
      obtain ⟨b, off, e, c0, c1, c2⟩ := hf' i hlt
      subst hy
      exact ⟨b, off, by rw [e], c0, c1, c2⟩
    · have := List.all_eq_true.1 hw (((List.range len).map D).length * 32 + ((List.range (m - len)).map fun j => D (len + j)).length * 32) (by simp [DataW.weights, Try.underlying78, hbn, Nat.add_mul])
      simp [reachBytes] at this
      simp
      omega
end
end Go.Proofs.Ytdabgeippkmgaaa
