import Derived.Test.YtmllhebmaldgfaaRf5
/-
  The document's own arena: a node more.
-/
namespace Go.Proofs.Ytmllhebmaldgfaa
open Go.RowKit

section
variable {w w' : World} {base bR g cap : Nat} {rs : List OneR}

def OneR.agg (r : OneR) : Value := .agg #[.int .i64 r.o.kind, .int .i64 r.o.space, .string r.o.name, r.av, .string r.o.data, .string r.o.system, .int .i64 r.o.inner, .int .i64 r.o.host, .int .i64 r.o.up, r.kv]
def OneR.free (r : OneR) : OneR := { r with o := { r.o with inner := -1, host := -1, up := -1 } }

theorem Lists.free {r : OneR} (h : Lists w base bR g r) : Lists w base bR g r.free := ⟨h.attrs, h.kids, h.held⟩

set_option maxHeartbeats 400000 in
theorem refAdd_full (h : Rf w base bR g cap rs) (r : OneR) (hav : ∃ a n c, r.av = .slice a n c) (hkv : ∃ a n c, r.kv = .slice a n c) (hf : ¬ rs.length + 1 ≤ 32768) :
    Calls Try.prog 97 #[.pointer (some ⟨bR, 0, none⟩), r.agg] w fun e w' => e = .returned (.tuple #[.int .i64 0, .int .i64 9]) ∧ Below w.heap.size w w' := by
  obtain ⟨a1, n1, k1, e1⟩ := hav
  obtain ⟨a2, n2, k2, e2⟩ := hkv
  have hA := h.cR
  have hlR := h.lt.1
  have hn := h.most
  have hz : (32768 : Int) ≤ (rs.length : Int) := by omega
  unfold OneR.agg
  rw [e1, e2]
  clear h e1 e2
  go_enter Try.func97, Try.ntmps97
  go_wp2
  go_ret2
  exact ⟨rfl, (Below.refl _ _).alloc (Nat.le_refl _) _⟩

set_option maxHeartbeats 2000000 in
theorem refAdd_fits (h : Rf w base bR g cap rs) (r : OneR) (hl : Lists w base bR g r) (hf : rs.length + 1 ≤ 32768) :
    Calls Try.prog 97 #[.pointer (some ⟨bR, 0, none⟩), r.agg] w fun e w' => e = .returned (.tuple #[.int .i64 rs.length, .int .i64 0]) ∧
      ∃ g' cap', Rf w' base bR g' cap' (rs ++ [r.free]) ∧ Mod (fun k => k = bR ∨ k = g) w w' ∧ (g' = g ∨ w.heap.size ≤ g') := by
  obtain ⟨o, av, kv⟩ := r
  obtain ⟨a1, k1, e1, _⟩ := hl.attrs
  obtain ⟨a2, k2, e2, _⟩ := hl.kids
  simp only at e1 e2
  subst e1 e2
  have hA := h.cR
  have hlR := h.lt.1
  have hlg := h.lt.2
  have hfR := h.fR
  have neR := h.neRg
  have hn := h.most
  have hz : ¬ (32768 : Int) ≤ (rs.length : Int) := by omega
  obtain ⟨i0, hi0, hz0, hz1, hz2⟩ := info_parts Try.info129
  have HL := hide hl
  have HH := hide h
  have HR := hide h.row
  have HB := hide (Nat.le_trans h.base_g (Nat.le_of_lt hlg))
  have hnews : ∀ o1 o2, o2 = Obj.cells (OneR.free ⟨o, .slice a1 o.attrs.length k1, .slice a2 o.kids.length k2⟩).cells.toArray 129 → ∀ j u, (OneR.free ⟨o, .slice a1 o.attrs.length k1, .slice a2 o.kids.length k2⟩).cells[j]? = some u → ((w.alloc o1).alloc o2).drew.cell? ((⟨w.heap.size + 1, 0, none⟩ : Addr).add j) = some u := by
    rintro o1 o2 rfl
    refine World.news_of_block (w := ((w.alloc o1).alloc _).drew) (B := w.heap.size + 1) (t := 129) (fr := (0, 0)) ?_
    have := heap_alloc_new (w.alloc o1) (Obj.cells (OneR.free ⟨o, .slice a1 o.attrs.length k1, .slice a2 o.kids.length k2⟩).cells.toArray 129)
    rw [World.size_alloc] at this
    exact this
  have HNW := hide hnews
  have hbx : ∀ o1 o2, Below w.heap.size w ((w.alloc o1).alloc o2).drew := fun o1 o2 => (((Below.refl _ w).alloc (Nat.le_refl _) o1).alloc (by simp) o2).drew
  have HBX := hide hbx
  unfold OneR.agg
  clear h hl hnews hbx
  go_enter Try.func97, Try.ntmps97
  set_option maxRecDepth 10000 in
  go_wp2_with fail
  go_region_law ((refine step_append_lies _ (by rfl) _ _ _ (by rfl) base 129 i0 _ 10 136 Try.underlying130 hi0 hz0 hz1 hz2 rfl (by omega) (.slice (some ⟨g, 0, none⟩) rs.length cap) rs.length (oneRow rs) (by rfl) (by exact (((unhide HR).alloc _).alloc _).drew) ⟨w.heap.size + 1, 0, none⟩ 1 1 (OneR.free ⟨o, .slice a1 o.attrs.length k1, .slice a2 o.kids.length k2⟩).cells (by rfl) (by rfl) (by exact ((unhide HNW) _ _ rfl)) (by simp [OneR.free, OneR.cells, Value.oneCell']) (by omega) (by unfold maxLen; omega) (by omega) (by have := unhide HB; simp; omega) (w.heap.size + 2) (by simp) ?_; intro g' cp' w4 hown4 hgrow hat hlt4; have hR4 : w4.cell? ⟨bR, 0, none⟩ = some (.slice (some ⟨g, 0, none⟩) rs.length cap) := ((hgrow.cell_far ⟨bR, 0, none⟩ (by simp; omega) (by simp [Value.ownBlock]; omega)).trans (((unhide HBX _ _).cell (p := ⟨bR, 0, none⟩) hlR).trans hA)); have hF4 : w4.frozen? ⟨bR, 0, none⟩ = false := ((hgrow.frozen_far ⟨bR, 0, none⟩ (by simp; omega) (by simp [Value.ownBlock]; omega)).trans (((unhide HBX _ _).frozen (p := ⟨bR, 0, none⟩) hlR).trans hfR))))
  all_goals go_wp2
  all_goals go_ret2
  all_goals
    have R := ((unhide HH).below (unhide HBX _ _)).grow (OneR.free ⟨o, .slice a1 o.attrs.length k1, .slice a2 o.kids.length k2⟩) (((unhide HL).free).mod (unhide HBX _ _).size (fun k hk _ _ => (unhide HBX _ _).block k hk)) hf hown4 hgrow (hat.imp (fun e => (Option.some.inj e).symm) (fun e => by simp; omega))
    exact ⟨rfl, g', cp', R.1, (Mod.of_below (unhide HBX _ _)).trans R.2, hat.imp (fun e => (Option.some.inj e).symm) (fun e => by omega)⟩
end
end Go.Proofs.Ytmllhebmaldgfaa
