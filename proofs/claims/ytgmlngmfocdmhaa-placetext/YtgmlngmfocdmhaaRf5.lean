import Derived.Test.YtgmlngmfocdmhaaRf4
import Derived.Deep.RegionWith
/-
  The document's own arena: made anew; a node more.
-/
namespace Go.Proofs.Ytgmlngmfocdmhaa
open Go.RowKit

/-- What a node's two lists must be. -/
structure Lists (w : World) (base bR g : Nat) (r : OneR) : Prop where
  attrs : ∃ a cp, r.av = .slice a r.o.attrs.length cp ∧ AttrsIn w a r.o.attrs ∧ r.o.attrs.length ≤ 1024 ∧ r.o.attrs.length ≤ cp
  kids : ∃ a cp, r.kv = .slice a r.o.kids.length cp ∧ IntsIn w a r.o.kids ∧ r.o.kids.length ≤ 32768
  held : ∀ k, (blk r.av = some k ∨ blk r.kv = some k) → base ≤ k ∧ k < w.heap.size ∧ k ≠ bR ∧ k ≠ g

section
variable {w w' : World} {base bR g cap : Nat} {rs : List OneR}

theorem Lists.mod {r : OneR} (h : Lists w base bR g r) (hsz : w.heap.size ≤ w'.heap.size) (hk : ∀ k, k < w.heap.size → k ≠ bR → k ≠ g → w'.heap[k]? = w.heap[k]?) : Lists w' base bR g r := by
  refine ⟨?_, ?_, fun k e => ?_⟩
  · obtain ⟨a, cp, e, ha, hl⟩ := h.attrs
    refine ⟨a, cp, e, ha.mod (fun b off eb => ?_), hl⟩
    obtain ⟨_, h2, h3, h4⟩ := h.held b (.inl (by rw [e, eb]; rfl))
    exact hk b h2 h3 h4
  · obtain ⟨a, cp, e, ha, hl⟩ := h.kids
    refine ⟨a, cp, e, ha.mod (fun b off eb => ?_), hl⟩
    obtain ⟨_, h2, h3, h4⟩ := h.held b (.inr (by rw [e, eb]; rfl))
    exact hk b h2 h3 h4
  · obtain ⟨h1, h2, h3⟩ := h.held k e
    exact ⟨h1, by omega, h3⟩
theorem Lists.other {r : OneR} (h : Lists w base bR g r) {g' : Nat} (hg : ∀ k, (blk r.av = some k ∨ blk r.kv = some k) → k ≠ g') : Lists w base bR g' r :=
  ⟨h.attrs, h.kids, fun k e => by obtain ⟨h1, h2, h3, _⟩ := h.held k e; exact ⟨h1, h2, h3, hg k e⟩⟩

end

def oneR (k : Int) : OneR := { o := oneM k, av := .slice none 0 0, kv := .slice none 0 0 }
theorem lists_bare (w : World) (base bR g : Nat) (r : OneR) (h1 : r.av = .slice none 0 0) (h2 : r.kv = .slice none 0 0) (h3 : r.o.attrs = []) (h4 : r.o.kids = []) : Lists w base bR g r :=
  ⟨⟨none, 0, by rw [h1, h3]; rfl, ⟨fun i x hi => by rw [h3] at hi; simp at hi⟩, by simp [h3]⟩, ⟨none, 0, by rw [h2, h4]; rfl, ⟨fun i x hi => by rw [h4] at hi; simp at hi⟩, by simp [h4]⟩, fun k e => by rw [h1, h2] at e; simp [blk] at e⟩

end Go.Proofs.Ytgmlngmfocdmhaa
