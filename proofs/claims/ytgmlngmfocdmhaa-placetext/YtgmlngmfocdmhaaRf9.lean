import Derived.Test.YtgmlngmfocdmhaaRf8
/-
  The document's own arena: elements.
-/
namespace Go.Proofs.Ytgmlngmfocdmhaa
open Go.RowKit

section
variable {w w' : World} {base bR : Nat} {os : List OneM} {G : Nat → Prop}

theorem ownsRow_cap {w : World} {base : Nat} {e : TypeId} {size g n m cap : Nat} {xs : List Value} (h : w.ownsRow base e size (.slice (some ⟨g, 0, none⟩) m cap) n xs) : n ≤ cap := by
  rcases h.2 with ⟨h', _⟩ | ⟨g', cap', cur, h', _, _, hc, _⟩
  · simp at h'
  · simp only [Value.slice.injEq, Option.some.injEq, Addr.mk.injEq, and_true] at h'
    omega

theorem Mod.chain {w w1 w2 : World} {G G' : Nat → Prop} (h : Mod G w w1) (h' : Mod G' w1 w2) (hg : ∀ k, G' k → G k ∨ w.heap.size ≤ k) : Mod G w w2 :=
  ⟨h'.os.trans h.os, h'.tape.trans h.tape, h'.output.trans h.output, Nat.le_trans h.size h'.size, fun k hk hn => (h'.block k (Nat.lt_of_lt_of_le hk h.size) (fun e => by rcases hg k e with e | e; exact hn e; omega)).trans (h.block k hk hn)⟩
theorem set_get {α : Type} {l : List α} {i j : Nat} (x : α) (h : i ≠ j) : (l.set i x)[j]? = l[j]? := List.getElem?_set_ne h

end
end Go.Proofs.Ytgmlngmfocdmhaa
