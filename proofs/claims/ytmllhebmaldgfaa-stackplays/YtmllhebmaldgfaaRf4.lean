import Derived.Test.YtmllhebmaldgfaaRf3
import Derived.Deep.QuietTactic
import Derived.BigQuiet
/-
  The document's own arena: an attribute's place, the children told.
-/
namespace Go.Proofs.Ytmllhebmaldgfaa
open Go.RowKit

section
variable {w : World} {base bR g cap : Nat} {rs : List OneR}

theorem ints_oneCell (l : List Nat) : ∀ u ∈ intsV l, u.oneCell' = true := by
  intro u hu
  obtain ⟨x, _, rfl⟩ := List.mem_map.1 hu
  rfl

theorem IntsIn.row {w : World} {b off : Nat} {l : List Nat} (h : IntsIn w (some ⟨b, off, none⟩) l) : ∀ j v, (intsV l)[j]? = some v → w.cell? ((⟨b, off, none⟩ : Addr).add j) = some v := by
  intro j v hv
  have hadd : (⟨b, off, none⟩ : Addr).add j = ⟨b, off + j, none⟩ := by unfold Addr.add; split <;> simp_all
  rw [hadd]
  simp only [intsV, List.getElem?_map, Option.map_eq_some_iff] at hv
  obtain ⟨x, hx, rfl⟩ := hv
  obtain ⟨b', off', e, hc⟩ := h.cells j x hx
  simp only [Option.some.injEq, Addr.mk.injEq, and_true] at e
  obtain ⟨rfl, rfl⟩ := e
  exact hc
theorem IntsIn.at {w : World} {a : Option Addr} {l : List Nat} (h : IntsIn w a l) (hl : 0 < l.length) : ∃ b off, a = some ⟨b, off, none⟩ := by
  obtain ⟨b, off, e, _⟩ := h.cells 0 l[0] (List.getElem?_eq_getElem hl)
  exact ⟨b, off, e⟩

theorem IntsIn.below {w w' : World} {a : Option Addr} {l : List Nat} (h : IntsIn w a l) (hb : Below w.heap.size w w') : IntsIn w' a l := ⟨fun i x hi => by
  obtain ⟨b, off, e, hc⟩ := h.cells i x hi
  exact ⟨b, off, e, (hb.cell (p := ⟨b, off + i, none⟩) (World.block_lt_of_cell? w _ hc)).trans hc⟩⟩
theorem empty_row (w : World) (e size base : Nat) (hb : base ≤ w.heap.size) : (w.alloc (.cells #[] e)).ownsRow base e size (.slice (some ⟨w.heap.size, 0, none⟩) 0 0) 0 [] := by
  have := World.ownsRow_lit (base := base) (e := e) (size := size) w #[] 0 hb (by simp [maxLen]) (by simp)
  simpa using this

end
end Go.Proofs.Ytmllhebmaldgfaa
