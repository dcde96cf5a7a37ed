/-
  The document's own arena: an attribute is set.
-/
import Derived.Test.YtlbkoafeedlfaaaCRfB
namespace Go.Proofs.Ytlbkoafeedlfaaa
open Go.RowKit

/-- A list of attributes that is being made, in new memory. -/
structure AccA (w0 wx : World) (v : Value) (xs : List AttrM) : Prop where
  own : wx.ownsRow w0.heap.size 29 4 v xs.length (attrRow xs)
  below : Below w0.heap.size w0 wx

section
variable {w w' : World} {base bR g cap : Nat} {rs : List OneR}

theorem attr_news (w : World) (x : AttrM) : ∀ j u, x.cells[j]? = some u → (w.alloc (.cells #[.int .i64 x.space, .string x.pre, .string x.name, .string x.val] 29)).cell? ((⟨w.heap.size, 0, none⟩ : Addr).add j) = some u :=
  World.news_of_block (w := w.alloc (.cells #[.int .i64 x.space, .string x.pre, .string x.name, .string x.val] 29)) (B := w.heap.size) (t := 29) (fr := (0, 0)) (heap_alloc_new w _)

theorem AccA.step {w0 wx w1 : World} {v : Value} {xs ys : List AttrM} {g1 c1 : Nat} (h : AccA w0 wx v xs) (w2 : World) (hb2 : Below wx.heap.size wx w2) (hown : w1.ownsRow w0.heap.size 29 4 (.slice (some ⟨g1, 0, none⟩) (xs.length + ys.length) c1) (xs.length + ys.length) (attrRow xs ++ attrRow ys)) (hgrow : w2.grownBy w1 v.ownBlock) :
    AccA w0 w1 (.slice (some ⟨g1, 0, none⟩) (xs.length + ys.length) c1) (xs ++ ys) := by
  refine ⟨by simpa [attrRow] using hown, (h.below.trans (hb2.mono h.below.size)).grown hgrow (Nat.le_trans h.below.size hb2.size) (fun k hk => (ownsRow_base h.own hk).1)⟩

/-- The attributes of one node told anew. -/
theorem attr_close {wx : World} {v : Value} {xs : List AttrM} (h : Rf w base bR g cap rs) (hacc : AccA w wx v xs) {i : Nat} {r : OneR} (hi : rs[i]? = some r) (hlen : xs.length ≤ 1024) :
    ∃ av, Rf (wx.setCell ⟨g, i * 10 + 3, none⟩ v) base bR g cap (rs.set i { r with o := { r.o with attrs := xs }, av := av }) ∧ Mod (fun k => k = g) w (wx.setCell ⟨g, i * 10 + 3, none⟩ v) ∧ (∀ k, blk av = some k → w.heap.size ≤ k) := by
  have hx := h.below hacc.below
  obtain ⟨a, cp, hv, hin⟩ := ownsRow_attrs hacc.own
  have hcap : xs.length ≤ cp := by
    rcases hacc.own.2 with ⟨e, h0⟩ | ⟨g', cap', cur, e, _, _, hc, _⟩
    · omega
    · rw [hv] at e
      simp only [Value.slice.injEq] at e
      omega
  have hnew : ∀ k, blk v = some k → w.heap.size ≤ k ∧ k < wx.heap.size := fun k hk => ownsRow_base hacc.own (by
    rcases hacc.own.2 with ⟨e, _⟩ | ⟨g', cap', cur, e, _⟩
    · rw [e] at hk; simp [blk] at hk
    · rw [e] at hk ⊢; simpa [blk, Value.ownBlock] using hk)
  have L := hx.lists hi
  have hbase : base ≤ w.heap.size := Nat.le_trans h.base_g (Nat.le_of_lt h.lt.2)
  have h1 := hx.setC (r' := { r with o := { r.o with attrs := xs }, av := v }) hi 3 (by omega) v rfl ⟨⟨a, cp, hv, hin, hlen, hcap⟩, L.kids, fun k e => by
    rcases e with e | e
    · obtain ⟨e1, e2⟩ := hnew k e
      have := h.lt
      exact ⟨by omega, e2, by omega, by omega⟩
    · exact L.held k (.inr e)⟩
  exact ⟨v, h1, (Mod.of_below hacc.below).trans (Mod.setCell (F := fun k => k = g) wx ⟨g, i * 10 + 3, none⟩ v rfl), fun k hk => (hnew k hk).1⟩

theorem refSetAttr_none (h : Rf w base bR g cap rs) (k : Int) (x : AttrM) (hk : hasO (osOf rs) k = false) :
    Calls Try.prog 44 #[.pointer (some ⟨bR, 0, none⟩), .int .i64 k, x.agg] w fun e w' => e = .returned (.int .i64 6) ∧ Below w.heap.size w w' := by
  have HI := hide (fun w' hb => refIs_any (h.below hb) k (w := w'))
  rw [hk] at HI
  have hb0 := Below.refl w.heap.size w
  have hb1 := (Below.refl w.heap.size w).alloc (Nat.le_refl _) (.cells #[.int .i64 x.space, .string x.pre, .string x.name, .string x.val] 29)
  unfold AttrM.agg
  clear h hk
  go_enter Try.func44, Try.ntmps44
  go_wp2_with (go_at_call 79; refine ((unhide HI) _ (by assumption)).mono ?_; rintro e w' ⟨rfl, rfl⟩)
  go_ret
  exact ⟨rfl, by assumption⟩
end
end Go.Proofs.Ytlbkoafeedlfaaa
