import Derived.Test.YtgmlngmfocdmhaaPl
/-
  How the document's own arena lies in memory: a row of nodes, each with a list of attributes and one of children that nothing writes to again.
-/
namespace Go.Proofs.Ytgmlngmfocdmhaa
open Go.RowKit

structure OneR where
  o : OneM
  av : Value
  kv : Value

def OneR.cells (r : OneR) : List Value :=
  [.int .i64 r.o.kind, .int .i64 r.o.space, .string r.o.name, r.av, .string r.o.data, .string r.o.system, .int .i64 r.o.inner, .int .i64 r.o.host, .int .i64 r.o.up, r.kv]
def oneRow (l : List OneR) : List Value := l.flatMap OneR.cells
theorem one_len (r : OneR) : r.cells.length = 10 := rfl

/-- Numbers that lie in a row. -/
structure IntsIn (w : World) (a : Option Addr) (l : List Nat) : Prop where
  cells : ∀ (i : Nat) x, l[i]? = some x → ∃ b off, a = some ⟨b, off, none⟩ ∧ w.cell? ⟨b, off + i, none⟩ = some (.int .i64 ((x : Nat) : Int))

/-- The block that a slice lies in. -/
def blk : Value → Option Nat
  | .slice (some a) _ _ => some a.block
  | _ => none

def osOf (rs : List OneR) : List OneM := rs.map (·.o)
theorem osOf_get {rs : List OneR} {i : Nat} {r : OneR} (h : rs[i]? = some r) : (osOf rs)[i]? = some r.o := by simp [osOf, h]
theorem osOf_len (rs : List OneR) : (osOf rs).length = rs.length := by simp [osOf]

/-- The blocks of such an arena. -/
def footR (bR g : Nat) (rs : List OneR) (k : Nat) : Prop := k = bR ∨ k = g ∨ ∃ r ∈ rs, blk r.av = some k ∨ blk r.kv = some k

theorem IntsIn.mod {w w' : World} {a : Option Addr} {l : List Nat} (h : IntsIn w a l) (hb : ∀ b off, a = some ⟨b, off, none⟩ → w'.heap[b]? = w.heap[b]?) : IntsIn w' a l := ⟨fun i x hi => by
  obtain ⟨b, off, e, hc⟩ := h.cells i x hi
  exact ⟨b, off, e, (World.cell?_of_block (w := w) (hb b off e)).trans hc⟩⟩
theorem AttrsIn.mod {w w' : World} {a : Option Addr} {l : List AttrM} (h : AttrsIn w a l) (hb : ∀ b off, a = some ⟨b, off, none⟩ → w'.heap[b]? = w.heap[b]?) : AttrsIn w' a l := ⟨fun i x hi => by
  obtain ⟨b, off, e, c0, c1, c2, c3⟩ := h.cells i x hi
  have hc := fun (j : Nat) => World.cell?_of_block (w := w) (w' := w') (a := ⟨b, j, none⟩) (hb b off e)
  exact ⟨b, off, e, (hc _).trans c0, (hc _).trans c1, (hc _).trans c2, (hc _).trans c3⟩⟩

section
variable {w w' : World} {base bR g cap : Nat} {rs : List OneR}

end
end Go.Proofs.Ytgmlngmfocdmhaa
