/-
  The names that tell of a namespace, as the program's package variable holds them.
-/
import Derived.Test.YtgbinemombgckaaDoorBc
import Derived.ProofKit
import Derived.OpenShut
import Derived.LaidMore
import Derived.Lay
namespace Go.Proofs.YtgbinemombgckaaDoor
open Go.ChangeShapes Go.WideShapes Go.ChangeAt Go.RowKit

structure RowM where
  src : ByteArray
  space : Int
  pre : ByteArray
  name : ByteArray
def RowM.cells (r : RowM) : List Value := [.string r.src, .int .i64 r.space, .string r.pre, .string r.name]
def rows : List RowM := [⟨⟨#[120, 108, 105, 110, 107, 58, 97, 99, 116, 117, 97, 116, 101]⟩, 3, ⟨#[120, 108, 105, 110, 107]⟩, ⟨#[97, 99, 116, 117, 97, 116, 101]⟩⟩, ⟨⟨#[120, 108, 105, 110, 107, 58, 97, 114, 99, 114, 111, 108, 101]⟩, 3, ⟨#[120, 108, 105, 110, 107]⟩, ⟨#[97, 114, 99, 114, 111, 108, 101]⟩⟩, ⟨⟨#[120, 108, 105, 110, 107, 58, 104, 114, 101, 102]⟩, 3, ⟨#[120, 108, 105, 110, 107]⟩, ⟨#[104, 114, 101, 102]⟩⟩, ⟨⟨#[120, 108, 105, 110, 107, 58, 114, 111, 108, 101]⟩, 3, ⟨#[120, 108, 105, 110, 107]⟩, ⟨#[114, 111, 108, 101]⟩⟩, ⟨⟨#[120, 108, 105, 110, 107, 58, 115, 104, 111, 119]⟩, 3, ⟨#[120, 108, 105, 110, 107]⟩, ⟨#[115, 104, 111, 119]⟩⟩, ⟨⟨#[120, 108, 105, 110, 107, 58, 116, 105, 116, 108, 101]⟩, 3, ⟨#[120, 108, 105, 110, 107]⟩, ⟨#[116, 105, 116, 108, 101]⟩⟩, ⟨⟨#[120, 108, 105, 110, 107, 58, 116, 121, 112, 101]⟩, 3, ⟨#[120, 108, 105, 110, 107]⟩, ⟨#[116, 121, 112, 101]⟩⟩, ⟨⟨#[120, 109, 108, 58, 108, 97, 110, 103]⟩, 4, ⟨#[120, 109, 108]⟩, ⟨#[108, 97, 110, 103]⟩⟩, ⟨⟨#[120, 109, 108, 58, 115, 112, 97, 99, 101]⟩, 4, ⟨#[120, 109, 108]⟩, ⟨#[115, 112, 97, 99, 101]⟩⟩, ⟨⟨#[120, 109, 108, 110, 115]⟩, 5, ⟨#[]⟩, ⟨#[120, 109, 108, 110, 115]⟩⟩, ⟨⟨#[120, 109, 108, 110, 115, 58, 120, 108, 105, 110, 107]⟩, 5, ⟨#[120, 109, 108, 110, 115]⟩, ⟨#[120, 108, 105, 110, 107]⟩⟩]
/-- The table as it lies in memory. -/
structure SpAt (W : World) : Prop where
  cells : ∀ (i : Nat) r, rows[i]? = some r → ∀ (j : Nat) v, r.cells[j]? = some v → W.cell? ⟨0, i * 4 + j, none⟩ = some v
theorem SpAt.lt {W : World} (h : SpAt W) : 0 < W.heap.size := World.block_lt_of_cell? W _ (h.cells 0 _ rfl 0 _ rfl)
theorem SpAt.below {w w' : World} (h : SpAt w) (hb : Below w.heap.size w w') : SpAt w' := ⟨fun i r hr j v hv => (hb.cell (p := ⟨0, i * 4 + j, none⟩) h.lt).trans (h.cells i r hr j v hv)⟩

def RowM.datum (r : RowM) : DataW Unit := .agg [.lit (.string r.src.data.toList), .lit (.int .i64 r.space), .lit (.string r.pre.data.toList), .lit (.string r.name.data.toList)]
theorem laid_rows : (Rows.laid_hornbeam_adjust_spaced : DataW Unit) = .agg (rows.map RowM.datum) := rfl
theorem list4' {α : Type} (l : List α) (h : l.length = 4) : ∃ a b c d, l = [a, b, c, d] := by
  match l, h with
  | [a, b, c, d], _ => exact ⟨a, b, c, d, rfl⟩
theorem gSpaced : Tryd.prog.globalNamed "hornbeam/adjust.spaced" = some 0 := by kernel_rfl
theorem tSpaced : (Tryd.prog.globals[0]?).map (·.type) = some 33 := by kernel_rfl

theorem row_cells {enc : TypeId × Value → Unit} {W : World} {spare : Nat → Bool} {held : Bool} {fuel : Nat} {cs : List Value} {r : RowM} {p : List MemPlace} (h : DataW.trod enc Tryd.prog W 0 spare held fuel 32 cs = some (r.datum, p)) : cs = r.cells := by
  have hc4 : Tryd.prog.cellsOf 32 = 4 := by kernel_rfl
  have hc3 : Tryd.prog.cellsOf 3 = 1 := by kernel_rfl
  have hc9 : Tryd.prog.cellsOf 9 = 1 := by kernel_rfl
  obtain ⟨xs, k, _, hx, hl4, hxl, hfs⟩ := DataW.trod_struct Tryd.underlying32 h
  rw [hc4] at hl4
  obtain ⟨e0, e1, e2, e3, rfl⟩ := list4' cs hl4
  have f0 := hfs 0 _ rfl
  have f1 := hfs 1 _ rfl
  have f2 := hfs 2 _ rfl
  have f3 := hfs 3 _ rfl
  have hx4 : xs.length = 4 := by simpa using hxl
  obtain ⟨y0, y1, y2, y3, rfl⟩ := list4' xs hx4
  simp [hc3, hc9] at f0 f1 f2 f3
  obtain ⟨z0, g0, w0, _⟩ := DataW.trod_string Tryd.underlying9 f0
  obtain ⟨z1, g1, w1, _⟩ := DataW.trod_int Tryd.underlying3 f1
  obtain ⟨z2, g2, w2, _⟩ := DataW.trod_string Tryd.underlying9 f2
  obtain ⟨z3, g3, w3, _⟩ := DataW.trod_string Tryd.underlying9 f3
  simp at g0 g1 g2 g3
  subst g0 g1 g2 g3 w0 w1 w2 w3
  simp only [RowM.datum, List.map_cons, List.map_nil, Prod.mk.injEq, DataW.agg.injEq, List.cons.injEq, DataW.lit.injEq, Lit.string.injEq, Lit.int.injEq, and_true, true_and] at hx
  obtain ⟨⟨h0, h1, h2, h3⟩, _⟩ := hx
  unfold RowM.cells
  rw [bytes_inj h0, h1, bytes_inj h2, bytes_inj h3]

theorem of_laid {W : World} (h : laidMetH Tryd.prog [("hornbeam/adjust.spaced", Rows.laid_hornbeam_adjust_spaced)] W) : SpAt W := by
  rw [MakeChecks.laidMetH_plain _ _ _ (by kernel_rfl)] at h
  obtain ⟨ps, ⟨g0, t0, cs0, f0, p0, q0, hg0, ht0, hv0, hd0, _, _⟩, _, _⟩ := h
  obtain rfl := Option.some.inj (gSpaced.symm.trans hg0)
  obtain rfl := Option.some.inj (tSpaced.symm.trans ht0)
  have hc4 : Tryd.prog.cellsOf 32 = 4 := by kernel_rfl
  obtain ⟨xs, m1, rfl, hx1, hlen, hn, hel⟩ := DataW.trod_array Tryd.underlying33 hd0
  rw [laid_rows] at hx1
  simp only [Prod.mk.injEq, DataW.agg.injEq] at hx1
  refine ⟨fun i r hr j v hv => ?_⟩
  have hi : i < 11 := by have := (List.getElem?_eq_some_iff.1 hr).1; simpa [rows] using this
  have hxi : xs[i]?.map (·.1) = some r.datum := by
    have := congrArg (·[i]?) hx1.1
    simp only [List.getElem?_map] at this
    rw [← this, hr]
    rfl
  obtain ⟨x, hx, hxd⟩ : ∃ x, xs[i]? = some x ∧ x.1 = r.datum := by
    cases e : xs[i]? with
    | none => rw [e] at hxi; cases hxi
    | some x => rw [e] at hxi; exact ⟨x, rfl, by simpa using hxi⟩
  have hrow := hel i hi
  rw [hx, hc4] at hrow
  obtain ⟨x1, x2⟩ := x
  simp only at hxd
  subst hxd
  have hcs := row_cells hrow
  have hj : j < 4 := by have := (List.getElem?_eq_some_iff.1 hv).1; simpa [RowM.cells] using this
  rw [← hcs, List.getElem?_take, if_pos hj, List.getElem?_drop] at hv
  have := World.var?_cell hg0 hv0 (i * 4 + j)
  rw [this]
  simpa using hv
end Go.Proofs.YtgbinemombgckaaDoor
