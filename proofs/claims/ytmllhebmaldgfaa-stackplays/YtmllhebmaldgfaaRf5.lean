import Derived.Test.YtmllhebmaldgfaaRf4
import Derived.Deep.RegionWith
/-
  The document's own arena: made anew; a node more.
-/
namespace Go.Proofs.Ytmllhebmaldgfaa
open Go.RowKit

/-- What a node's two lists must be. -/
structure Lists (w : World) (base bR g : Nat) (r : OneR) : Prop where
  attrs : ∃ a cp, r.av = .slice a r.o.attrs.length cp ∧ AttrsIn w a r.o.attrs ∧ r.o.attrs.length ≤ 1024 ∧ r.o.attrs.length ≤ cp
  kids : ∃ a cp, r.kv = .slice a r.o.kids.length cp ∧ IntsIn w a r.o.kids ∧ r.o.kids.length ≤ 32768
  held : ∀ k, (blk r.av = some k ∨ blk r.kv = some k) → base ≤ k ∧ k < w.heap.size ∧ k ≠ bR ∧ k ≠ g

section
variable {w w' : World} {base bR g cap : Nat} {rs : List OneR}

theorem Rf.lists (h : Rf w base bR g cap rs) {i : Nat} {r : OneR} (hi : rs[i]? = some r) : Lists w base bR g r := ⟨h.attrs i r hi, h.kids i r hi, h.held i r hi⟩
theorem Lists.mod {r : OneR} (h : Lists w base bR g r) (hsz : w.heap.size ≤ w'.heap.size) (hk : ∀ k, k < w.heap.size → k ≠ bR → k ≠ g → w'.heap[k]? = w.heap[k]?) : Lists w' base bR g r := by
  refine ⟨?_, ?_, fun k e => ?_⟩
  · obtain ⟨a, cp, e, ha, hl⟩ := h.attrs
    refine ⟨a, cp, e, ha.mod (fun b off eb => ?_), hl⟩
    obtain ⟨_, h2, h3, h4⟩ := h.held b (.inl (by rw [e, eb]; rfl))
    exact hk b h2 h3 h4
  · obtain ⟨a, cp, e, ha, hl⟩ := h.kids
    refine ⟨a, cp, e, ha.mod (fun b off eb => ?_), hl⟩
    obtain ⟨_, h2, h3, h4⟩ := h.held b (.inr (by rw [e, eb]; rfl))
    exact hk b h2 h3 h4
  · obtain ⟨h1, h2, h3⟩ := h.held k e
    exact ⟨h1, by omega, h3⟩
theorem Lists.other {r : OneR} (h : Lists w base bR g r) {g' : Nat} (hg : ∀ k, (blk r.av = some k ∨ blk r.kv = some k) → k ≠ g') : Lists w base bR g' r :=
  ⟨h.attrs, h.kids, fun k e => by obtain ⟨h1, h2, h3, _⟩ := h.held k e; exact ⟨h1, h2, h3, hg k e⟩⟩

theorem Rf.put (h : Rf w base bR g cap rs) {i : Nat} {r r' : OneR} (hi : rs[i]? = some r) (hrow : w'.ownsRow base 129 10 (.slice (some ⟨g, 0, none⟩) rs.length cap) rs.length (oneRow (rs.set i r'))) (hm : Mod (fun k => k = g) w w') (hl : Lists w' base bR g r') : Rf w' base bR g cap (rs.set i r') := by
  have hlt : i < rs.length := (List.getElem?_eq_some_iff.1 hi).1
  have old : ∀ (a : Nat) (x : OneR), (rs.set i r')[a]? = some x → Lists w' base bR g x := by
    intro a x hx
    by_cases e : i = a
    · subst e; rw [List.getElem?_set_self hlt] at hx; cases hx; exact hl
    · rw [List.getElem?_set_ne e] at hx
      exact (h.lists hx).mod hm.size (fun k hk _ hg => hm.block k hk hg)
  refine ⟨by rw [List.length_set, hm.block bR h.lt.1 h.neRg]; exact h.arena, by rw [List.length_set]; exact hrow, h.lo, by simpa using h.pos, by simpa using h.most, fun a x hx => (old a x hx).attrs, fun a x hx => (old a x hx).kids, fun a x hx => (old a x hx).held⟩

theorem Rf.setC (h : Rf w base bR g cap rs) {i : Nat} {r r' : OneR} (hi : rs[i]? = some r) (j : Nat) (hj : j < 10) (v : Value) (hc : r'.cells = r.cells.set j v) (hl : Lists w base bR g r') :
    Rf (w.setCell ⟨g, i * 10 + j, none⟩ v) base bR g cap (rs.set i r') := by
  have hst := h.row.stored (i * 10 + j) v
  refine h.put hi ?_ (Mod.setCell (F := fun k => k = g) w ⟨g, i * 10 + j, none⟩ v rfl) (hl.mod ?_ (fun k _ _ hg => Below.heap_setCell _ _ _ _ hg))
  · rw [oneRow, ← flat_set OneR.cells 10 one_len rs i j hj r r' v hi hc]; exact hst.1
  · exact (Mod.setCell (F := fun k => k = g) w ⟨g, i * 10 + j, none⟩ v rfl).size

theorem Rf.there (h : Rf w base bR g cap rs) {i : Nat} {r : OneR} (hi : rs[i]? = some r) (j : Nat) (hj : j < 10) : ∃ v, w.cell? ⟨g, i * 10 + j, none⟩ = some v := by
  rw [h.cell hi j hj]
  exact ⟨_, List.getElem?_eq_getElem (by rw [one_len]; exact hj)⟩

theorem Rf.grow {w1 : World} {g' cap' : Nat} (h : Rf w base bR g cap rs) (r : OneR) (hr : Lists w base bR g r) (hlen : rs.length + 1 ≤ 32768)
    (hown : w1.ownsRow base 129 10 (.slice (some ⟨g', 0, none⟩) (rs.length + 1) cap') (rs.length + 1) (oneRow rs ++ r.cells)) (hgrow : w.grownBy w1 (some g)) (hg' : g' = g ∨ w.heap.size ≤ g') :
    Rf (w1.setCell ⟨bR, 0, none⟩ (.slice (some ⟨g', 0, none⟩) (rs.length + 1) cap')) base bR g' cap' (rs ++ [r]) ∧ Mod (fun k => k = bR ∨ k = g) w (w1.setCell ⟨bR, 0, none⟩ (.slice (some ⟨g', 0, none⟩) (rs.length + 1) cap')) := by
  have b1 : ∀ k, k < w.heap.size → k ≠ g → w1.heap[k]? = w.heap[k]? := fun k hk hne => hgrow.block k hk (by simpa using hne)
  have hR1 := (b1 bR h.lt.1 h.neRg).trans h.arena
  have hgR : g' ≠ bR := by
    intro e; subst e
    obtain ⟨cur, hc⟩ := ownsRow_block hown (k := g') rfl
    rw [hc] at hR1; simp at hR1
  have b2 : ∀ k, k ≠ bR → (w1.setCell ⟨bR, 0, none⟩ (.slice (some ⟨g', 0, none⟩) (rs.length + 1) cap')).heap[k]? = w1.heap[k]? := fun k hk => Below.heap_setCell _ _ _ _ hk
  have hsz : w.heap.size ≤ (w1.setCell ⟨bR, 0, none⟩ (.slice (some ⟨g', 0, none⟩) (rs.length + 1) cap')).heap.size := Nat.le_trans hgrow.size (Mod.setCell (F := fun _ => True) w1 ⟨bR, 0, none⟩ _ trivial).size
  have all : ∀ (i : Nat) x, (rs ++ [r])[i]? = some x → Lists (w1.setCell ⟨bR, 0, none⟩ (.slice (some ⟨g', 0, none⟩) (rs.length + 1) cap')) base bR g' x := by
    intro i x hx
    have hL : Lists w base bR g x := by
      by_cases hl : i < rs.length
      · rw [List.getElem?_append_left hl] at hx; exact h.lists hx
      · rw [List.getElem?_append_right (by omega)] at hx
        have := List.mem_of_getElem? hx
        simp at this; subst this; exact hr
    have hL2 := hL.mod (w' := w1.setCell ⟨bR, 0, none⟩ (.slice (some ⟨g', 0, none⟩) (rs.length + 1) cap')) hsz (fun k hk h1 h2 => by rw [b2 k h1, b1 k hk h2])
    refine hL2.other (fun k e => ?_)
    obtain ⟨_, h2, _, h4⟩ := hL.held k e
    rcases hg' with rfl | hg'
    · exact h4
    · omega
  refine ⟨⟨?_, ?_, h.lo, by simp, by simpa using hlen, fun i x hx => (all i x hx).attrs, fun i x hx => (all i x hx).kids, fun i x hx => (all i x hx).held⟩, (Mod.grown hgrow (by simp)).trans (Mod.setCell _ _ _ (.inl rfl))⟩
  · rw [List.length_append]; exact one_setCell hR1
  · rw [List.length_append]
    have : oneRow (rs ++ [r]) = oneRow rs ++ r.cells := by simp [oneRow]
    rw [this]
    exact ownsRow_setCell_other hown (by simp [Value.ownBlock]; exact hgR) _
end

def oneR (k : Int) : OneR := { o := oneM k, av := .slice none 0 0, kv := .slice none 0 0 }
theorem lists_bare (w : World) (base bR g : Nat) (r : OneR) (h1 : r.av = .slice none 0 0) (h2 : r.kv = .slice none 0 0) (h3 : r.o.attrs = []) (h4 : r.o.kids = []) : Lists w base bR g r :=
  ⟨⟨none, 0, by rw [h1, h3]; rfl, ⟨fun i x hi => by rw [h3] at hi; simp at hi⟩, by simp [h3]⟩, ⟨none, 0, by rw [h2, h4]; rfl, ⟨fun i x hi => by rw [h4] at hi; simp at hi⟩, by simp [h4]⟩, fun k e => by rw [h1, h2] at e; simp [blk] at e⟩

theorem rf_new (w : World) (base : Nat) (hbase : base ≤ w.heap.size) :
    Rf ((w.alloc (.cells (oneRow [oneR 0]).toArray 129)).alloc (.cells #[.slice (some ⟨w.heap.size, 0, none⟩) 1 1] 132)) base (w.heap.size + 1) w.heap.size 1 [oneR 0] := by
  have hg : (w.alloc (.cells (oneRow [oneR 0]).toArray 129)).ownsRow base 129 10 (.slice (some ⟨w.heap.size, 0, none⟩) 1 1) 1 (oneRow [oneR 0]) := by
    have := World.ownsRow_lit (base := base) (e := 129) (size := 10) w (oneRow [oneR 0]).toArray 1 hbase (by simp [maxLen]) (by rfl)
    simpa using this
  have L := fun (i : Nat) (r : OneR) (hi : [oneR 0][i]? = some r) => (show Lists ((w.alloc (.cells (oneRow [oneR 0]).toArray 129)).alloc (.cells #[.slice (some ⟨w.heap.size, 0, none⟩) 1 1] 132)) base (w.heap.size + 1) w.heap.size r from by
    have : r = oneR 0 := by have := List.mem_of_getElem? hi; simpa using this
    subst this
    exact lists_bare _ _ _ _ _ rfl rfl rfl rfl)
  refine ⟨?_, hg.alloc _, by omega, by simp, by simp, fun i r hi => (L i r hi).attrs, fun i r hi => (L i r hi).kids, fun i r hi => (L i r hi).held⟩
  have := heap_alloc_new (w.alloc (.cells (oneRow [oneR 0]).toArray 129)) (.cells #[.slice (some ⟨w.heap.size, 0, none⟩) 1 1] 132)
  simpa using this

set_option maxHeartbeats 400000 in
theorem refNew_any (w : World) (base : Nat) (hbase : base ≤ w.heap.size) :
    Calls Try.prog 35 #[] w fun e w' => ∃ bR g cap, e = .returned (.pointer (some ⟨bR, 0, none⟩)) ∧ Rf w' base bR g cap [oneR 0] ∧ Below w.heap.size w w' ∧ w.heap.size ≤ bR ∧ w.heap.size ≤ g := by
  go_enter Try.func35, Try.ntmps35
  go_wp2
  go_ret
  have R := rf_new w base hbase
  refine ⟨_, _, _, rfl, R, ?_, ?_, ?_⟩
  · exact (((Below.refl _ w).alloc (Nat.le_refl _) _).alloc (by simp) _)
  · omega
  · omega

theorem Try.info129 : (Try.prog.info? 129).map (fun i => (i.zero, i.size, i.bytes)) = some (some (.agg #[.int .i64 0, .int .i64 0, .string ⟨#[]⟩, .slice none 0 0, .string ⟨#[]⟩, .string ⟨#[]⟩, .int .i64 0, .int .i64 0, .int .i64 0, .slice none 0 0]), 10, 136) := by kernel_rfl
end Go.Proofs.Ytmllhebmaldgfaa
