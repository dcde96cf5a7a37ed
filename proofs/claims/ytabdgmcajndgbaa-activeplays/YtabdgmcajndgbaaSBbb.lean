/-
  The document's list: an entry goes, with one behind it at least.
-/
import Derived.Test.YtabdgmcajndgbaaSBay
namespace Go.Proofs.Ytabdgmcajndgbaa
open Go.RowKit Go.Sort

theorem qRow_app (a b : List EntQ) : qRow (a ++ b) = qRow a ++ qRow b := by simp [qRow]
theorem qRow_len (a : List EntQ) : (qRow a).length = a.length * 10 := by
  induction a with
  | nil => rfl
  | cons x a ih =>
    have e : qRow (x :: a) = x.cells ++ qRow a := by simp [qRow]
    rw [e, List.length_append, ih, entQ_len, List.length_cons]
    omega
theorem qRow_one (a : List EntQ) : ∀ u ∈ qRow a, u.oneCell' = true := by
  intro u hu
  obtain ⟨x, _, hx⟩ := List.mem_flatMap.1 hu
  simp only [EntQ.cells, EntQ.av, TokM.cells, List.mem_cons, List.not_mem_nil, or_false] at hx
  rcases hx with rfl | rfl | rfl | rfl | rfl | rfl | rfl | rfl | rfl | rfl <;> rfl
theorem own_val {w : World} {b : Nat} {t : TypeId} {z : Nat} {v : Value} {n : Nat} {row : List Value} (h : w.ownsRow b t z v n row) : ∃ a c, v = .slice a n c := by
  rcases h.2 with ⟨e, h0⟩ | ⟨g, cap, cur, e, _⟩
  · subst h0; exact ⟨_, _, e⟩
  · exact ⟨_, _, e⟩
theorem empty_own (w : World) : (w.alloc (.cells #[] 46)).ownsRow w.heap.size 46 10 (.slice (some ⟨w.heap.size, 0, none⟩) 0 0) 0 [] :=
  ⟨rfl, .inr ⟨w.heap.size, 0, #[], rfl, Nat.le_refl _, heap_alloc_new w _, Nat.le_refl _, by unfold maxLen; omega, rfl, rfl⟩⟩
section
variable {w : World} {base bQ bR : Nat} {v : Value} {qs : List EntQ} {F : Nat → Prop}
/-- The list is another one, in a block of its own that is new. -/
theorem QlM.fresh (h : QlM w base bQ bR v qs) (hF : ∀ k, F k ↔ footQ bQ v k) {w2 : World} {v2 : Value} {ps : List EntQ} (hb : Below w.heap.size w w2) (hown : w2.ownsRow w.heap.size 46 10 v2 ps.length (qRow ps)) (hps : ∀ x ∈ ps, x ∈ qs) : UpdQ F w (w2.setCell ⟨bQ, 1, none⟩ v2) base bQ bR ps ∧ w2.frozen? ⟨bQ, 1, none⟩ = false ∧ w2.cell? ⟨bQ, 1, none⟩ = some v := by
  have hlt := lt_of_block h.box
  have hlo := h.lo
  have hbx := (hb.block bQ hlt).trans h.box
  have hne : ∀ k, v2.ownBlock = some k → k ≠ bQ := fun k hk e => by
    have := (hown.lt k hk).1
    omega
  have hm : Mod F w (w2.setCell ⟨bQ, 1, none⟩ v2) := (Mod.of_below hb).trans (Mod.setCell _ _ _ ((hF _).2 (.inl rfl)))
  refine ⟨⟨footQ bQ v2, ⟨v2, ⟨?_, ?_, fun i y hy => ?_, h.lo⟩, fun _ => Iff.rfl⟩, hm, ?_⟩, by simp [World.frozen?, hbx], cell_of_row _ _ 1 _ _ _ hbx⟩
  · have := heap_setCell_same w2 bQ 1 #[.pointer (some ⟨bR, 0, none⟩), v] 43 v2 hbx
    simpa using this
  · have := ownsRow_setCell_other hown (a := ⟨bQ, 1, none⟩) (fun e => hne _ e rfl) v2
    rcases this with ⟨h1, ⟨e, h0⟩ | ⟨g, cap, cur, e, lo, h2⟩⟩
    · exact ⟨h1, .inl ⟨e, h0⟩⟩
    · exact ⟨h1, .inr ⟨g, cap, cur, e, by omega, h2⟩⟩
  · obtain ⟨j, hj⟩ := List.getElem?_of_mem (hps y (List.mem_of_getElem? hy))
    have hL := h.attrs j y hj
    refine ⟨hL.1.modN (fun b off e hne => ?_), hL.2⟩
    have hb2 := hL.2 b off e hne
    exact hm.block b (by omega) (fun e => by have := (h.lt ((hF b).1 e)).1; omega)
  · rintro k (rfl | hk)
    · exact .inl ((hF _).2 (.inl rfl))
    · exact .inr (hown.lt k hk).1
theorem grown_new {o : Obj} {w1 : World} (hg : (w.alloc o).grownBy w1 (some w.heap.size)) : Below w.heap.size w w1 := by
  have hm : Mod (fun k => k = w.heap.size) (w.alloc o) w1 := Mod.grown hg (fun k e => by simpa using e.symm)
  exact (below_new w o).trans (hm.below (by simp) (fun k e => by omega))
theorem grown_more {w1 w2 : World} {v1 : Value} (hb : Below w.heap.size w w1) (hv : ∀ k, v1.ownBlock = some k → w.heap.size ≤ k) (hg : w1.grownBy w2 v1.ownBlock) : Below w.heap.size w w2 := by
  have hm : Mod (fun k => v1.ownBlock = some k) w1 w2 := Mod.grown hg (fun k e => e)
  exact hb.trans (hm.below hb.size (fun k e => hv k e))
set_option maxRecDepth 100000 in
set_option maxHeartbeats 4000000 in
theorem qremove_in (h : QlM w base bQ bR v qs) (hF : ∀ k, F k ↔ footQ bQ v k) (hl : qs.length < 1000000000000) (i : Nat) (hi : i + 1 < qs.length) : Calls Try.prog 55 #[.pointer (some ⟨bQ, 0, none⟩), .int .i64 i] w fun e w' => e = .returned (.tuple #[]) ∧ UpdQ F w w' base bQ bR (qs.take i ++ qs.drop (i + 1)) := by
  obtain ⟨c0, c1, f1⟩ := h.cells
  have hlt := lt_of_block h.box
  obtain ⟨g, cap, rfl⟩ : ∃ g cap, v = .slice (some ⟨g, 0, none⟩) qs.length cap := by
    rcases h.val with ⟨_, h0⟩ | h0
    · rw [h0] at hi; simp at hi
    · exact h0
  have hcap : qs.length ≤ cap ∧ cap ≤ maxLen := by
    rcases h.own.2 with ⟨e, _⟩ | ⟨g', cap', cur, e, _, _, h1, h2, _⟩
    · cases e
    · cases e; exact ⟨h1, h2⟩
  have HCELL : Hid (∀ W, Below w.heap.size w W → ∀ (j : Nat) (u : Value), (qRow qs)[j]? = some u → W.cell? ⟨g, j, none⟩ = some u) := hide (fun W hb j u hu => by
    have hj := (List.getElem?_eq_some_iff.1 hu).1
    rw [qRow_len] at hj
    refine cell_kept hb ?_
    rw [h.own.cellAt j (by omega)]
    exact hu)
  have HSP : Hid (qRow qs = qRow (qs.take i) ++ qRow (qs.drop i) ∧ qRow qs = qRow (qs.take (i + 1)) ++ qRow (qs.drop (i + 1)) ∧ (qRow (qs.take i)).length = i * 10 ∧ (qRow (qs.take (i + 1))).length = (i + 1) * 10 ∧ (qRow (qs.drop (i + 1))).length = (qs.length - (i + 1)) * 10) := hide ⟨by rw [← qRow_app, List.take_append_drop], by rw [← qRow_app, List.take_append_drop], by rw [qRow_len, List.length_take]; congr 1; omega, by rw [qRow_len, List.length_take]; congr 1; omega, by rw [qRow_len, List.length_drop]⟩
  have HN1 : Hid (∀ W, Below w.heap.size w W → ∀ (j : Nat) (u : Value), (qRow (qs.take i))[j]? = some u → W.cell? ((⟨g, 0, none⟩ : Addr).add j) = some u) := hide (fun W hb j u hu => by
    have := (unhide HCELL) W hb j u (by rw [(unhide HSP).1]; rw [List.getElem?_append_left (List.getElem?_eq_some_iff.1 hu).1]; exact hu)
    rw [add_at, Nat.zero_add]
    exact this)
  have HN2 : Hid (∀ W, Below w.heap.size w W → ∀ (j : Nat) (u : Value), (qRow (qs.drop (i + 1)))[j]? = some u → W.cell? ((⟨g, (i + 1) * 10, none⟩ : Addr).add j) = some u) := hide (fun W hb j u hu => by
    have := (unhide HCELL) W hb ((i + 1) * 10 + j) u (by rw [(unhide HSP).2.1, List.getElem?_append_right (by rw [(unhide HSP).2.2.2.1]; omega), (unhide HSP).2.2.2.1, Nat.add_sub_cancel_left]; exact hu)
    rw [add_at]
    exact this)
  have HKEEP : Hid (∀ W, Below w.heap.size w W → W.cell? ⟨bQ, 1, none⟩ = some (.slice (some ⟨g, 0, none⟩) qs.length cap)) := hide (fun W hb => cell_kept hb c1)
  have HFIN : Hid (∀ (w2 : World) (v2 : Value), Below w.heap.size w w2 → w2.ownsRow w.heap.size 46 10 v2 (0 + i + (qs.length - (i + 1))) ((([] : List Value) ++ qRow (qs.take i)) ++ qRow (qs.drop (i + 1))) → UpdQ F w (w2.setCell ⟨bQ, 1, none⟩ v2) base bQ bR (qs.take i ++ qs.drop (i + 1)) ∧ w2.frozen? ⟨bQ, 1, none⟩ = false ∧ w2.cell? ⟨bQ, 1, none⟩ = some (.slice (some ⟨g, 0, none⟩) qs.length cap)) := hide (fun w2 v2 hb ho => by
    refine h.fresh hF hb ?_ ?_
    · rw [qRow_app, List.length_append, List.length_take, List.length_drop, Nat.min_eq_left (by omega)]
      rw [List.nil_append, Nat.zero_add] at ho
      exact ho
    · intro x hx
      rcases List.mem_append.1 hx with e | e
      · exact List.mem_of_mem_take e
      · exact List.mem_of_mem_drop e)
  obtain ⟨ti, hi0, hz0, hz1, hz2⟩ := info_parts Try.info46
  have HB0 := hide (Nat.le_refl w.heap.size)
  have hiz : (i : Int) ≤ (qs.length : Int) := by omega
  have hic : (i : Int) ≤ (cap : Int) := by omega
  have hiz1 : (i : Int) + 1 ≤ (qs.length : Int) := by omega
  have hnc : (qs.length : Int) ≤ (cap : Int) := by omega
  have hcm : (cap : Int) ≤ 9223372036854775807 := by have := hcap.2; unfold maxLen at this; omega
  have hne : ¬ cap = i + 1 := by omega
  have hw1 : IntKind.i64.wrap ((i : Int) + 1) = (i : Int) + 1 := by rw [IntKind.wrap_i64]; omega
  have HM : Hid (0 + i ≤ maxLen ∧ (0 + i) * 112 ≤ 140737488355328 ∧ 0 + i + (qs.length - (i + 1)) ≤ maxLen ∧ (0 + i + (qs.length - (i + 1))) * 112 ≤ 140737488355328) := hide (by unfold maxLen; omega)
  clear h hF hl hcap f1 hlt
  generalize qs.length = n at *
  have c1a := (unhide HKEEP) _ (below_new w (.cells #[] 46))
  have HEO := hide (empty_own w)
  go_enter Try.func55, Try.ntmps55
  go_wp2_with (first
    | (have _x := unhide Q1; clear _x; at_builtin; go_must (refine wpList_append_own _ (by rfl) _ _ 41 (by rfl) w.heap.size 46 ti _ 10 112 (by kernel_rfl) hi0 hz0 hz1 hz2 rfl (by omega) v1 (0 + i) (([] : List Value) ++ qRow (qs.take i)) (by rfl) (unhide Q1) ⟨g, (i + 1) * 10, none⟩ (n - (i + 1)) (cap - (i + 1)) (qRow (qs.drop (i + 1))) (by rfl) (unhide HSP).2.2.2.2 ((unhide HN2) _ (unhide Q3)) (qRow_one _) (unhide HM).2.2.1 (unhide HM).2.2.2 (unhide Q3).size ?_); intro v2 w2 ho2 hg2 _; obtain ⟨va2, vc2, rfl⟩ := own_val ho2; obtain ⟨hu, d1, d2⟩ := (unhide HFIN) w2 _ (grown_more (unhide Q3) (unhide Q4) hg2) ho2; have HU := hide hu; clear ho2 hg2 hu)
    | (at_builtin; go_must (refine wpList_append_own _ (by rfl) _ _ 41 (by rfl) w.heap.size 46 ti _ 10 112 (by kernel_rfl) hi0 hz0 hz1 hz2 rfl (by omega) (.slice (some ⟨w.heap.size, 0, none⟩) 0 0) 0 ([] : List Value) (by rfl) (unhide HEO) ⟨g, 0, none⟩ i cap (qRow (qs.take i)) (by rfl) (unhide HSP).2.2.1 ((unhide HN1) _ (below_new _ _)) (qRow_one _) (unhide HM).1 (unhide HM).2.1 (below_new _ _).size ?_); intro v1 w1 ho1 hg1 _; have Q1 := hide ho1; have Q3 := hide (grown_new hg1); have Q4 := hide (fun k (hk : v1.ownBlock = some k) => (ho1.lt k hk).1); have c1b := (unhide HKEEP) _ (unhide Q3); clear ho1 hg1))
  have h9 := unhide HU
  rw [Nat.zero_add] at h9
  exact ⟨rfl, _, results_none rfl _ _ _, rfl, h9⟩
end
end Go.Proofs.Ytabdgmcajndgbaa
