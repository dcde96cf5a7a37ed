import Derived.Test.YtgmlngmfocdmhaaQa
/-
  The document's stack in memory, beside its arena; what only looks.
-/
namespace Go.Proofs.Ytgmlngmfocdmhaa
open Go.RowKit

def footW (bW : Nat) (p : PartM) (k : Nat) : Prop := k = bW ∨ p.own = some k

section
variable {w w' w1 : World} {base bW bR : Nat} {p p' : PartM} {F G : Nat → Prop} {L : List Int}
end

section
variable {w : World} {base bW bR : Nat} {ks : List Key} {L : List Int} {F FA : Nat → Prop}
end
end Go.Proofs.Ytgmlngmfocdmhaa
/-
  The document's stack: elements pushed, popped, put in, swapped and taken out.
-/
namespace Go.Proofs.Ytgmlngmfocdmhaa
open Go.RowKit

theorem PartAt.rest {w : World} {base : Nat} {p : PartM} (h : PartAt w base p) (k : Nat) (hk : k ≤ p.xs.length) {ad : Addr} (ha : p.a = some ad) : NumsIn w (if p.cap = k then some ad else some (ad.add k)) (p.xs.drop k) := by
  have hl := h.len
  by_cases e : p.cap = k
  · rw [if_pos e]
    intro j x hj
    rw [List.drop_of_length_le (by omega)] at hj
    simp at hj
  · rw [if_neg e]
    obtain ⟨g, off, cur, ha', _⟩ := h.cellsAll (by omega)
    rw [ha] at ha'
    cases ha'
    rw [add_at]
    have hn := h.nums
    rw [ha] at hn
    exact hn.drop k
theorem PartAt.none_cap {w : World} {base : Nat} {p : PartM} (h : PartAt w base p) (ha : p.a = none) : p.cap = 0 := by
  rcases h.lies with h0 | ⟨g, off, cur, e, _⟩
  · exact h0
  · rw [ha] at e; cases e

section
variable {w : World} {base bW bR : Nat} {ks : List Key} {L : List Int} {F FA : Nat → Prop}
end
end Go.Proofs.Ytgmlngmfocdmhaa
/-
  The document's stack: an element taken out, put in, swapped.
-/
namespace Go.Proofs.Ytgmlngmfocdmhaa
open Go.RowKit

section
variable {w : World} {base bW bR : Nat} {ks : List Key} {L : List Int} {F FA : Nat → Prop} {p : PartM}

/-- A first list made of nothing. -/
theorem first_part {w2 : World} {q : PartM} (hg : (w.alloc (.cells #[] 3)).grownBy w2 none) (ho : q.own = none ∨ q.own = some (w.heap.size + 1)) : Below w.heap.size w w2 ∧ ∀ k, q.own = some k → w.heap.size ≤ k := by
  refine ⟨(below_new w _).trans ((Mod.grown (F := fun _ => False) hg (fun k hk => by cases hk)).below (by simp) (fun k hk => hk.elim)), fun k hk => ?_⟩
  rcases ho with e | e
  · rw [e] at hk; cases hk
  · rw [e] at hk; simp at hk; omega
/-- A second list made of a first one that is new. -/
theorem second_part {w2 w3 : World} {q q2 : PartM} {o : Obj} (hb : Below w.heap.size w w2) (hq : ∀ k, q.own = some k → w.heap.size ≤ k) (hg : (w2.alloc o).grownBy w3 q.own) (ho : q2.own = q.own ∨ q2.own = some (w2.alloc o).heap.size) : Below w.heap.size w w3 ∧ ∀ k, q2.own = some k → w.heap.size ≤ k := by
  have b1 : Below w.heap.size w (w2.alloc o) := hb.alloc hb.size o
  refine ⟨b1.trans ((Mod.grown (F := fun k => q.own = some k) hg (fun k hk => hk)).below b1.size (fun k hk => hq k hk)), fun k hk => ?_⟩
  rcases ho with e | e
  · exact hq k (e ▸ hk)
  · rw [e] at hk
    simp at hk
    have := hb.size
    omega
end
end Go.Proofs.Ytgmlngmfocdmhaa
/-
  The document's stack: an element put in.
-/
namespace Go.Proofs.Ytgmlngmfocdmhaa
open Go.RowKit

section
variable {w : World} {base bW bR : Nat} {ks : List Key} {L : List Int} {F FA : Nat → Prop} {p : PartM}

end
end Go.Proofs.Ytgmlngmfocdmhaa
/-
  The document's stack: Put and Swap, whole.
-/
namespace Go.Proofs.Ytgmlngmfocdmhaa
open Go.RowKit

section
variable {w : World} {base bW bR : Nat} {ks : List Key} {L : List Int} {F FA : Nat → Prop} {p : PartM}

end
end Go.Proofs.Ytgmlngmfocdmhaa
