/-
  A list of attributes that came in, as the walks read it.
-/
import Derived.Test.YtfbdgcnijoninaaLong
import Derived.ProofKit
import Derived.OpenShut
import Derived.ShutString
import Derived.ChangeOld
import Derived.Deep.Slices
namespace Go.Proofs.Ytfbdgcnijoninaa
open Go.ChangeShapes Go.WideShapes Go.ChangeAt Go.RowKit
open Go.ChangeMaps (open_string shut_string)

theorem list4 {α : Type} (l : List α) (h : l.length = 4) : ∃ a b c d, l = [a, b, c, d] := by
  match l, h with
  | [a, b, c, d], _ => exact ⟨a, b, c, d, rfl⟩

/-- A slice of attributes that came in. -/
theorem attrs_open {H : Type} {enc : TypeId × Value → H} {W : World} {spare : Nat → Bool} {held : Bool} {a : Option Addr} {len cap : Nat} {d : DataW H} {ps : List MemPlace}
    (h : DataW.Trod enc Try.prog W 0 spare held 30 (.slice a len cap) d ps) : ∃ l : List AttrM, l.length = len ∧ AttrsIn W a l ∧ len ≤ maxLen := by
  obtain ⟨fuel, hf⟩ := h
  rcases Go.Deep.open_slice Try.underlying30 hf with ⟨hcs, _⟩ | ⟨x, l, c, m, n, D, Pl, hcs, _, hlc, hcm, hm, _, hel⟩
  · simp [Value.cells] at hcs
    obtain ⟨rfl, rfl, rfl⟩ := hcs
    exact ⟨[], rfl, ⟨fun i x hi => by simp at hi⟩, by simp⟩
  · simp [Value.cells] at hcs
    obtain ⟨rfl, rfl, rfl⟩ := hcs
    have hc4 : Try.prog.cellsOf 29 = 4 := by kernel_rfl
    have hc3 : Try.prog.cellsOf 3 = 1 := by kernel_rfl
    have hc9 : Try.prog.cellsOf 9 = 1 := by kernel_rfl
    have hlm : len ≤ m := by rw [hm]; split <;> omega
    have one0 : ∀ i, i < len → ∃ z : AttrM, W.cell? ((x.add (i * 4)).add 0) = some (.int .i64 z.space) ∧ W.cell? ((x.add (i * 4)).add 1) = some (.string z.pre) ∧
        W.cell? ((x.add (i * 4)).add 2) = some (.string z.name) ∧ W.cell? ((x.add (i * 4)).add 3) = some (.string z.val) := by
      intro i hi
      obtain ⟨cs', hcs', htr⟩ := hel i (by omega)
      rw [hc4] at hcs'
      obtain ⟨xs, k, _, _, hl4, hxl, hfs⟩ := DataW.trod_struct Try.underlying29 htr
      rw [hc4] at hl4
      obtain ⟨e0, e1, e2, e3, rfl⟩ := list4 cs' hl4
      have f0 := hfs 0 _ rfl
      have f1 := hfs 1 _ rfl
      have f2 := hfs 2 _ rfl
      have f3 := hfs 3 _ rfl
      have hx : xs.length = 4 := by simpa using hxl
      obtain ⟨y0, y1, y2, y3, rfl⟩ := list4 xs hx
      simp [hc3, hc9] at f0 f1 f2 f3
      obtain ⟨z0, g0, _, _⟩ := DataW.trod_int Try.underlying3 f0
      obtain ⟨z1, g1, _, _⟩ := DataW.trod_string Try.underlying9 f1
      obtain ⟨z2, g2, _, _⟩ := DataW.trod_string Try.underlying9 f2
      obtain ⟨z3, g3, _, _⟩ := DataW.trod_string Try.underlying9 f3
      simp at g0 g1 g2 g3
      subst g0 g1 g2 g3
      have cc : ∀ j v, [Value.int .i64 z0, .string z1, .string z2, .string z3][j]? = some v → W.cell? ((x.add (i * 4)).add j) = some v := by
        intro j v hj
        simp only [World.cells?, Nat.zero_le, if_true] at hcs'
        have hj4 : j < 4 := by have := (List.getElem?_eq_some_iff.1 hj).1; simpa using this
        have := mapM_some_get hcs' j j (by simp [hj4])
        rw [this, hj]
      exact ⟨⟨z0, z1, z2, z3⟩, cc 0 _ rfl, cc 1 _ rfl, cc 2 _ rfl, cc 3 _ rfl⟩
    have one : ∀ i, i < len → ∃ z : AttrM, ∃ b off, x = ⟨b, off, none⟩ ∧ W.cell? ⟨b, off + i * 4, none⟩ = some (.int .i64 z.space) ∧ W.cell? ⟨b, off + i * 4 + 1, none⟩ = some (.string z.pre) ∧
        W.cell? ⟨b, off + i * 4 + 2, none⟩ = some (.string z.name) ∧ W.cell? ⟨b, off + i * 4 + 3, none⟩ = some (.string z.val) := by
      intro i hi
      obtain ⟨z, c0, c1, c2, c3⟩ := one0 i hi
      obtain ⟨z', d0, _⟩ := one0 0 (by omega)
      obtain ⟨b, off, spot⟩ := x
      have hspot : spot = none := by simpa [Addr.add] using World.cell?_spot d0
      subst hspot
      have ad : ∀ k, (⟨b, off, none⟩ : Addr).add k = ⟨b, off + k, none⟩ := fun k => by unfold Addr.add; split <;> simp_all
      rw [Go.Deep.add_add, ad] at c0 c1 c2 c3
      exact ⟨z, b, off, rfl, c0, c1, c2, c3⟩
    obtain ⟨f, hf'⟩ : ∃ f : Nat → AttrM, ∀ i, i < len → ∃ b off, x = ⟨b, off, none⟩ ∧ W.cell? ⟨b, off + i * 4, none⟩ = some (.int .i64 (f i).space) ∧ W.cell? ⟨b, off + i * 4 + 1, none⟩ = some (.string (f i).pre) ∧
        W.cell? ⟨b, off + i * 4 + 2, none⟩ = some (.string (f i).name) ∧ W.cell? ⟨b, off + i * 4 + 3, none⟩ = some (.string (f i).val) := by
      have : Inhabited AttrM := ⟨⟨0, ⟨#[]⟩, ⟨#[]⟩, ⟨#[]⟩⟩⟩
      exact Go.Deep.choose_lt one
    refine ⟨(List.range len).map f, by simp, ⟨fun i y hi => ?_⟩, by omega⟩
    have hlt : i < len := by have := (List.getElem?_eq_some_iff.1 hi).1; simpa using this
    have hy : f i = y := by simpa [hlt] using hi
    obtain ⟨b, off, e, c0, c1, c2, c3⟩ := hf' i hlt
    subst hy
    exact ⟨b, off, by rw [e], c0, c1, c2, c3⟩
end Go.Proofs.Ytfbdgcnijoninaa
