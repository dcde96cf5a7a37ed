import Derived.Test.YtgmlngmfocdmhaaRf
import Derived.Test.YtgmlngmfocdmhaaJB
import Derived.Deep.LoopGhost
import Derived.Test.YtgmlngmfocdmhaaRf8
/-
  The document's own arena: Parent, Host.
-/
namespace Go.Proofs.Ytgmlngmfocdmhaa
open Go.RowKit

section
variable {w : World} {base bR g cap : Nat} {rs : List OneR}
end
end Go.Proofs.Ytgmlngmfocdmhaa
/-
  The document's own arena: what is above what, a child's place, an attribute's place, long texts.
-/
namespace Go.Proofs.Ytgmlngmfocdmhaa
open Go.RowKit

section
variable {w : World} {base bR g cap : Nat} {rs : List OneR}

theorem upO_of {os : List OneM} {i : Nat} {o : OneM} (h : os[i]? = some o) : upO os i = some (if o.up = -1 then o.host else o.up) := by simp [upO, h]

end
section
variable {w : World} {base bR g cap : Nat} {rs : List OneR}
end

end Go.Proofs.Ytgmlngmfocdmhaa
/-
  The document's own arena: a child is put in, a child is taken out.
-/
namespace Go.Proofs.Ytgmlngmfocdmhaa
open Go.RowKit

section
variable {w w' : World} {base bR g cap : Nat} {rs : List OneR}

theorem osOf_set (rs : List OneR) (i : Nat) (r' : OneR) (f : OneM → OneM) {r : OneR} (hi : rs[i]? = some r) (hf : r'.o = f r.o) : osOf (rs.set i r') = (osOf rs).modify i f := by
  apply List.ext_getElem?
  intro j
  rw [List.getElem?_modify]
  simp only [osOf, List.getElem?_map]
  by_cases e : i = j
  · subst e
    rw [List.getElem?_set_self (List.getElem?_eq_some_iff.1 hi).1, hi]
    simp [hf]
  · rw [List.getElem?_set_ne e]
    cases rs[j]? <;> simp [e]

end
end Go.Proofs.Ytgmlngmfocdmhaa
/-
  The document's own arena: a child is put in.
-/
namespace Go.Proofs.Ytgmlngmfocdmhaa
open Go.RowKit

section
variable {w w' : World} {base bR g cap : Nat} {rs : List OneR}

theorem one_news (w : World) (e : TypeId) (v : Value) : ∀ j u, [v][j]? = some u → (w.alloc (.cells #[v] e)).cell? ((⟨w.heap.size, 0, none⟩ : Addr).add j) = some u :=
  World.news_of_block (w := w.alloc (.cells #[v] e)) (B := w.heap.size) (t := e) (fr := (0, 0)) (heap_alloc_new w _)

def insF (b : Int) (c : Nat) (x : Nat) : List Nat := if (x : Int) = b then [c, x] else [x]
theorem insO_flat (l : List Nat) (b : Int) (c : Nat) : insO l b c = if b = -1 then l.flatMap (insF b c) ++ [c] else l.flatMap (insF b c) := by
  unfold insO
  by_cases h : b = -1
  · rw [if_pos h, if_pos h]
    have : l.flatMap (insF b c) = l := insO_none (fun x _ => by omega)
    rw [this]
  · rw [if_neg h, if_neg h]; rfl

theorem ownsRow_base {w : World} {base : Nat} {e : TypeId} {size : Nat} {v : Value} {n : Nat} {xs : List Value} (h : w.ownsRow base e size v n xs) {k : Nat} (hk : v.ownBlock = some k) : base ≤ k ∧ k < w.heap.size := by
  obtain ⟨cur, hc⟩ := ownsRow_block h hk
  refine ⟨?_, lt_of_block hc⟩
  rcases h.2 with ⟨h', _⟩ | ⟨g', cap', cur, h', hb, hg, _⟩
  · subst h'; simp [Value.ownBlock] at hk
  · subst h'; simp [Value.ownBlock] at hk; subst hk; first | exact hb | exact hb.1

theorem ownsRow_ints {w : World} {base : Nat} {v : Value} {l : List Nat} (h : w.ownsRow base 3 1 v l.length (intsV l)) : ∃ a c, v = .slice a l.length c ∧ IntsIn w a l ∧ ∀ k, blk v = some k → v.ownBlock = some k := by
  rcases h.2 with ⟨rfl, h0⟩ | ⟨g, cap, cur, rfl, _, hg, _⟩
  · have : l = [] := List.eq_nil_of_length_eq_zero h0
    subst this
    exact ⟨none, 0, rfl, ⟨fun i x hi => by simp at hi⟩, fun k hk => by simp [blk] at hk⟩
  · refine ⟨some ⟨g, 0, none⟩, cap, rfl, ⟨fun i x hi => ⟨g, 0, rfl, ?_⟩⟩, fun k hk => by simpa [blk, Value.ownBlock] using hk⟩
    have hlt : i < l.length := (List.getElem?_eq_some_iff.1 hi).1
    have := h.cellAt i (by omega)
    rw [Nat.zero_add, this]
    simp [intsV, hi]

/-- A list that is being made: its numbers lie in new memory. -/
structure Acc (w0 wx : World) (v : Value) (xs : List Nat) : Prop where
  own : wx.ownsRow w0.heap.size 3 1 v xs.length (intsV xs)
  below : Below w0.heap.size w0 wx

theorem Acc.nil (w0 wx : World) (hb : Below w0.heap.size w0 wx) : Acc w0 wx (.slice none 0 0) [] := ⟨World.ownsRow_nil _ _ _ _, hb⟩
theorem Acc.step {w0 wx w1 : World} {v : Value} {xs : List Nat} {y g1 c1 : Nat} (h : Acc w0 wx v xs) (o : Obj) (hown : w1.ownsRow w0.heap.size 3 1 (.slice (some ⟨g1, 0, none⟩) (xs.length + 1) c1) (xs.length + 1) (intsV xs ++ [.int .i64 (y : Int)])) (hgrow : (wx.alloc o).grownBy w1 v.ownBlock) :
    Acc w0 w1 (.slice (some ⟨g1, 0, none⟩) (xs.length + 1) c1) (xs ++ [y]) := by
  refine ⟨by simpa [intsV] using hown, (h.below.alloc (by exact h.below.size) o).grown hgrow (by have := h.below.size; simp; omega) (fun k hk => (ownsRow_base h.own hk).1)⟩
theorem Acc.drew {w0 wx : World} {v : Value} {xs : List Nat} (h : Acc w0 wx v xs) : Acc w0 wx.drew v xs := ⟨h.own.drew, h.below.drew⟩

end
end Go.Proofs.Ytgmlngmfocdmhaa
/-
  The document's own arena: what Link refuses.
-/
namespace Go.Proofs.Ytgmlngmfocdmhaa
open Go.RowKit

section
variable {w w' : World} {base bR g cap : Nat} {rs : List OneR}

/-- The first question is answered: all three are nodes. -/
structure Three (rs : List OneR) (p c : Nat) (b : Int) (rp rc : OneR) : Prop where
  hp : rs[p]? = some rp
  hc : rs[c]? = some rc
  hb : b = -1 ∨ hasO (osOf rs) b = true

end
end Go.Proofs.Ytgmlngmfocdmhaa
/-
  The document's own arena: Link, told by plain nodes; a child is taken out.
-/
namespace Go.Proofs.Ytgmlngmfocdmhaa
open Go.RowKit

section
variable {w w' : World} {base bR : Nat} {os : List OneM} {G : Nat → Prop} {ns : List NodeM}

theorem osOf_two {rs : List OneR} {p c : Nat} {rp rc : OneR} (hp : rs[p]? = some rp) (hc : rs[c]? = some rc) (hpc : p ≠ c) (kv : Value) (x : Int) (f : List Nat → List Nat) :
    osOf ((rs.set p { rp with o := { rp.o with kids := f rp.o.kids }, kv := kv }).set c { rc with o := { rc.o with up := x } }) = ((osOf rs).modify p fun o => { o with kids := f o.kids }).modify c fun o => { o with up := x } := by
  rw [osOf_set _ c _ (fun o => { o with up := x }) (by rw [List.getElem?_set_ne hpc]; exact hc) rfl, osOf_set rs p _ (fun o => { o with kids := f o.kids }) hp rfl]

theorem Sim.kids_lt {os : List OneM} (hs : Sim ns os) {p : Nat} {op : OneM} (hop : os[p]? = some op) {c : Nat} (hc : c < os.length) (hn : c ∉ op.kids) : op.kids.length + 1 ≤ os.length := by
  have hK := hs.kids p op hop
  have hnd : (c :: op.kids).Nodup := List.nodup_cons.2 ⟨hn, hK.nodup⟩
  have := List.Nodup.length_le_of_subset hnd (l₂ := List.range os.length) (fun x hx => by
    rw [List.mem_range]
    rcases List.mem_cons.1 hx with rfl | hx
    · exact hc
    · have := hK.mem x hx; rw [hs.len] at this; exact this)
  simpa using this

end
end Go.Proofs.Ytgmlngmfocdmhaa
