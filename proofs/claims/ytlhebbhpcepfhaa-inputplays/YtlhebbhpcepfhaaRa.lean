/-
  The document's stream in memory.
-/
import Derived.Test.YtlhebbhpcepfhaaQa
import Derived.Deep.LoopGhost
namespace Go.Proofs.Ytlhebbhpcepfhaa
open Go.RowKit

structure RefM where
  L : List Int
  M : List Int
  cr : Bool
  over : Bool
  gone : Bool

def intsV (l : List Int) : List Value := l.map fun x => Value.int .i64 x
theorem intsV_len (l : List Int) : (intsV l).length = l.length := by simp [intsV]

structure RefAt (w : World) (base bW : Nat) (p : PartM) (mv : Value) (M : List Int) (cr over gone : Bool) : Prop where
  box : w.heap[bW]? = some (.cells #[p.val, mv, .bool cr, .bool over, .bool gone] 34 (0, 0))
  part : PartAt w base p
  row : w.ownsRow base 3 1 mv M.length (intsV M)
  lo : base ≤ bW

def footR (bW : Nat) (p : PartM) (mv : Value) (k : Nat) : Prop := k = bW ∨ p.own = some k ∨ mv.ownBlock = some k

section
variable {w w1 w' : World} {base bW : Nat} {p : PartM} {mv : Value} {M : List Int} {cr over gone : Bool}

theorem ownsRow_block {e : TypeId} {size : Nat} {v : Value} {n : Nat} {xs : List Value} (h : w.ownsRow base e size v n xs) {k : Nat} (hk : v.ownBlock = some k) : ∃ cur, w.heap[k]? = some (.cells cur e (0, 0)) := by
  rcases h.2 with ⟨h', _⟩ | ⟨g', cap', cur, h', _, hg, _⟩
  · subst h'; simp [Value.ownBlock] at hk
  · subst h'; simp [Value.ownBlock] at hk; subst hk; exact ⟨cur, hg⟩
theorem RefAt.cells (h : RefAt w base bW p mv M cr over gone) : w.cell? ⟨bW, 0, none⟩ = some p.val ∧ w.cell? ⟨bW, 1, none⟩ = some mv ∧ w.cell? ⟨bW, 2, none⟩ = some (.bool cr) ∧ w.cell? ⟨bW, 3, none⟩ = some (.bool over) ∧ w.cell? ⟨bW, 4, none⟩ = some (.bool gone) ∧ ∀ j, w.frozen? ⟨bW, j, none⟩ = false := by
  have hb := h.box
  exact ⟨by simp [World.cell?, hb], by simp [World.cell?, hb], by simp [World.cell?, hb], by simp [World.cell?, hb], by simp [World.cell?, hb], fun j => by simp [World.frozen?, hb]⟩
theorem RefAt.lt (h : RefAt w base bW p mv M cr over gone) : bW < w.heap.size := lt_of_block h.box
theorem RefAt.ne (h : RefAt w base bW p mv M cr over gone) : p.own ≠ some bW ∧ mv.ownBlock ≠ some bW ∧ ∀ k, p.own = some k → mv.ownBlock ≠ some k := by
  have hb := h.box
  refine ⟨fun e => ?_, fun e => ?_, fun k e1 e2 => ?_⟩
  · obtain ⟨_, _, cu, hc⟩ := h.part.own_lt e; rw [hb] at hc; cases hc
  · obtain ⟨cu, hc⟩ := ownsRow_block h.row e; rw [hb] at hc; cases hc
  · obtain ⟨_, _, cu, hc⟩ := h.part.own_lt e1
    obtain ⟨cu2, hc2⟩ := ownsRow_block h.row e2
    rw [hc] at hc2
    cases hc2
theorem RefAt.foot_lt (h : RefAt w base bW p mv M cr over gone) {k : Nat} (hk : footR bW p mv k) : base ≤ k ∧ k < w.heap.size := by
  rcases hk with rfl | hk | hk
  · exact ⟨h.lo, h.lt⟩
  · have := h.part.own_lt hk; exact ⟨this.1, this.2.1⟩
  · exact h.row.lt k hk
theorem RefAt.same (h : RefAt w base bW p mv M cr over gone) (hb : ∀ k, footR bW p mv k → w'.heap[k]? = w.heap[k]?) : RefAt w' base bW p mv M cr over gone :=
  ⟨by rw [hb bW (.inl rfl)]; exact h.box, h.part.kept (fun k hk => hb k (.inr (.inl hk))), ownsRow_kept h.row (fun k hk => hb k (.inr (.inr hk))), h.lo⟩
theorem RefAt.mod {F : Nat → Prop} (h : RefAt w base bW p mv M cr over gone) (hm : Mod F w w') (hF : ∀ k, footR bW p mv k → ¬ F k) : RefAt w' base bW p mv M cr over gone :=
  h.same fun k hk => hm.block k (h.foot_lt hk).2 (hF k hk)
theorem RefAt.below (h : RefAt w base bW p mv M cr over gone) (hb : Below w.heap.size w w') : RefAt w' base bW p mv M cr over gone := h.same fun _ hk => hb.block _ (h.foot_lt hk).2

theorem five_set {b : Nat} {x0 x1 x2 x3 x4 : Value} {t : TypeId} (h : w.heap[b]? = some (.cells #[x0, x1, x2, x3, x4] t (0, 0))) (v : Value) :
    (w.setCell ⟨b, 0, none⟩ v).heap[b]? = some (.cells #[v, x1, x2, x3, x4] t (0, 0)) ∧ (w.setCell ⟨b, 1, none⟩ v).heap[b]? = some (.cells #[x0, v, x2, x3, x4] t (0, 0)) ∧ (w.setCell ⟨b, 2, none⟩ v).heap[b]? = some (.cells #[x0, x1, v, x3, x4] t (0, 0)) ∧ (w.setCell ⟨b, 3, none⟩ v).heap[b]? = some (.cells #[x0, x1, x2, v, x4] t (0, 0)) ∧ (w.setCell ⟨b, 4, none⟩ v).heap[b]? = some (.cells #[x0, x1, x2, x3, v] t (0, 0)) := by
  refine ⟨?_, ?_, ?_, ?_, ?_⟩ <;> simp [World.setCell, Array.getElem?_modify, h]

/-- A store into the stream's own cells. -/
theorem RefAt.keepParts (h : RefAt w base bW p mv M cr over gone) (j : Nat) (v : Value) : PartAt (w.setCell ⟨bW, j, none⟩ v) base p ∧ (w.setCell ⟨bW, j, none⟩ v).ownsRow base 3 1 mv M.length (intsV M) :=
  ⟨h.part.kept (fun k hk => setCell_far _ _ _ (fun e => h.ne.1 (by rw [hk, e]))), ownsRow_kept h.row (fun k hk => setCell_far _ _ _ (fun e => h.ne.2.1 (by rw [hk, e])))⟩
theorem RefAt.setCr (h : RefAt w base bW p mv M cr over gone) (x : Bool) : RefAt (w.setCell ⟨bW, 2, none⟩ (.bool x)) base bW p mv M x over gone := ⟨(five_set h.box _).2.2.1, (h.keepParts 2 _).1, (h.keepParts 2 _).2, h.lo⟩
theorem RefAt.setOver (h : RefAt w base bW p mv M cr over gone) (x : Bool) : RefAt (w.setCell ⟨bW, 3, none⟩ (.bool x)) base bW p mv M cr x gone := ⟨(five_set h.box _).2.2.2.1, (h.keepParts 3 _).1, (h.keepParts 3 _).2, h.lo⟩
theorem RefAt.setGone (h : RefAt w base bW p mv M cr over gone) (x : Bool) : RefAt (w.setCell ⟨bW, 4, none⟩ (.bool x)) base bW p mv M cr over x := ⟨(five_set h.box _).2.2.2.2, (h.keepParts 4 _).1, (h.keepParts 4 _).2, h.lo⟩
/-- Another list of what waits: its block was written, or it has a new one. -/
theorem RefAt.setL (h : RefAt w base bW p mv M cr over gone) {p' : PartM} (hm : Mod (fun k => p.own = some k) w w1) (hp : PartAt w1 base p') : RefAt (w1.setCell ⟨bW, 0, none⟩ p'.val) base bW p' mv M cr over gone := by
  have hb1 : w1.heap[bW]? = _ := (hm.block bW h.lt h.ne.1).trans h.box
  have hr1 : w1.ownsRow base 3 1 mv M.length (intsV M) := ownsRow_kept h.row (fun k hk => hm.block k (h.row.lt k hk).2 (fun e => h.ne.2.2 k e hk))
  refine ⟨(five_set hb1 _).1, hp.kept (fun k hk => setCell_far _ _ _ (fun e => ?_)), ownsRow_kept hr1 (fun k hk => setCell_far _ _ _ (fun e => h.ne.2.1 (by rw [hk, e]))), h.lo⟩
  simp only at e
  subst e
  obtain ⟨_, _, cu, hc⟩ := hp.own_lt hk
  rw [hb1] at hc
  cases hc
/-- Other marks. -/
theorem RefAt.setM (h : RefAt w base bW p mv M cr over gone) {mv' : Value} {M' : List Int} (hm : Mod (fun k => mv.ownBlock = some k) w w1) (hr : w1.ownsRow base 3 1 mv' M'.length (intsV M')) : RefAt (w1.setCell ⟨bW, 1, none⟩ mv') base bW p mv' M' cr over gone := by
  have hb1 : w1.heap[bW]? = _ := (hm.block bW h.lt h.ne.2.1).trans h.box
  have hp1 : PartAt w1 base p := h.part.mod hm (fun k hk => h.ne.2.2 k hk)
  refine ⟨(five_set hb1 _).2.1, hp1.kept (fun k hk => setCell_far _ _ _ (fun e => h.ne.1 (by rw [hk, e]))), ownsRow_kept hr (fun k hk => setCell_far _ _ _ (fun e => ?_)), h.lo⟩
  simp only at e
  subst e
  obtain ⟨cu, hc⟩ := ownsRow_block hr hk
  rw [hb1] at hc
  cases hc
end

def RefS (w : World) (base bW : Nat) (r : RefM) (F : Nat → Prop) : Prop := ∃ p mv, RefAt w base bW p mv r.M r.cr r.over r.gone ∧ p.xs = r.L ∧ ∀ k, F k ↔ footR bW p mv k
def UpdR (F : Nat → Prop) (w w' : World) (base bW : Nat) (r : RefM) : Prop := ∃ F', RefS w' base bW r F' ∧ Mod F w w' ∧ ∀ k, F' k → F k ∨ w.heap.size ≤ k

section
variable {w w' : World} {base bW : Nat} {r : RefM} {F G : Nat → Prop}
theorem RefS.lt (h : RefS w base bW r F) {k : Nat} (hk : F k) : base ≤ k ∧ k < w.heap.size := by
  obtain ⟨p, mv, h, _, hF⟩ := h
  exact h.foot_lt ((hF k).1 hk)
theorem RefS.mod (h : RefS w base bW r F) (hm : Mod G w w') (hG : ∀ k, F k → ¬ G k) : RefS w' base bW r F := by
  obtain ⟨p, mv, h, e, hF⟩ := h
  exact ⟨p, mv, h.mod hm (fun k hk => hG k ((hF k).2 hk)), e, hF⟩
theorem RefS.below (h : RefS w base bW r F) (hb : Below w.heap.size w w') : RefS w' base bW r F := h.mod (Mod.of_below (F := fun _ => False) hb) (fun _ _ e => e)
theorem RefS.upd (h : RefS w base bW r F) (hb : Below w.heap.size w w') : UpdR F w w' base bW r := ⟨F, h.below hb, Mod.of_below hb, fun _ hk => .inl hk⟩
end

def refOb (base bW : Nat) (r : RefM) : Ob base := ⟨fun w F => RefS w base bW r F, fun _ _ _ h hk => h.lt hk, fun _ _ _ _ h hm hG => h.mod hm hG⟩

def newR : RefM := ⟨[], [], false, false, false⟩
theorem refNew_s (w : World) (base : Nat) (hb : base ≤ w.heap.size) : Calls Try.prog 10 #[] w fun e w' => e = .returned (.pointer (some ⟨w.heap.size, 0, none⟩)) ∧ RefS w' base w.heap.size newR (fun k => k = w.heap.size) ∧ Below w.heap.size w w' := by
  have HB := hide hb
  clear hb
  go_enter Try.func10, Try.ntmps10
  go_wp2
  go_ret
  refine ⟨rfl, ⟨⟨none, 0, []⟩, .slice none 0 0, ⟨heap_alloc_new w _, PartAt.nil _ _ _, World.ownsRow_nil _ _ _ _, unhide HB⟩, rfl, fun k => ?_⟩, (Below.refl _ w).alloc (Nat.le_refl _) _⟩
  simp [footR, PartM.own, Value.ownBlock]

section
variable {w : World} {base bW : Nat} {r : RefM} {F : Nat → Prop}
theorem refEnd_s (h : RefS w base bW r F) : Calls Try.prog 28 #[.pointer (some ⟨bW, 0, none⟩)] w fun e w' => e = .returned (.int .i64 (if r.over then 5 else 0)) ∧ UpdR F w w' base bW { r with over := true } := by
  obtain ⟨p, mv, h, e, hF⟩ := h
  obtain ⟨L, M, cr, over, gone⟩ := r
  simp only at h e
  obtain ⟨h0, h1, h2, h3, h4, h5⟩ := h.cells
  have hf := h5 3
  have H := hide h
  clear h h5
  cases over
  · go_enter Try.func28, Try.ntmps28
    go_wp2
    go_ret
    exact ⟨rfl, F, ⟨p, mv, (unhide H).setOver true, e, hF⟩, Mod.setCell _ _ _ ((hF bW).2 (.inl rfl)), fun _ hk => .inl hk⟩
  · go_enter Try.func28, Try.ntmps28
    go_wp2
    go_ret
    exact ⟨rfl, F, ⟨p, mv, unhide H, e, hF⟩, Mod.refl _ _, fun _ hk => .inl hk⟩

def dropR (r : RefM) : RefM := if r.gone then r else ⟨[], [], r.cr, true, true⟩
set_option maxHeartbeats 1000000 in
theorem refDrop_s (h : RefS w base bW r F) : Calls Try.prog 34 #[.pointer (some ⟨bW, 0, none⟩)] w fun e w' => e = .returned (.int .i64 (if r.gone then 5 else 0)) ∧ UpdR F w w' base bW (dropR r) := by
  obtain ⟨p, mv, h, e, hF⟩ := h
  obtain ⟨L, M, cr, over, gone⟩ := r
  simp only at h e
  obtain ⟨h0, h1, h2, h3, h4, h5⟩ := h.cells
  have f0 := h5 0
  have f1 := h5 1
  have f3 := h5 3
  have f4 := h5 4
  have H := hide h
  have HF := hide hF
  clear h h5 hF
  cases gone
  · go_enter Try.func34, Try.ntmps34
    go_wp2
    go_ret
    have A1 := (unhide H).setL (w1 := w) (p' := ⟨none, 0, []⟩) (Mod.refl _ _) (PartAt.nil _ _ _)
    have A2 := A1.setM (mv' := .slice none 0 0) (M' := []) (Mod.refl _ _) (World.ownsRow_nil _ _ _ _)
    have A3 := (A2.setOver true).setGone true
    have fb : F bW := ((unhide HF) bW).2 (.inl rfl)
    refine ⟨rfl, footR bW ⟨none, 0, []⟩ (.slice none 0 0), ⟨_, _, A3, rfl, fun _ => Iff.rfl⟩, ?_, ?_⟩
    · exact (((Mod.setCell _ _ _ fb).trans (Mod.setCell _ _ _ fb)).trans (Mod.setCell _ _ _ fb)).trans (Mod.setCell _ _ _ fb)
    · rintro k (rfl | hk | hk)
      · exact .inl fb
      · simp [PartM.own] at hk
      · simp [Value.ownBlock] at hk
  · go_enter Try.func34, Try.ntmps34
    go_wp2
    go_ret
    exact ⟨rfl, F, ⟨p, mv, unhide H, e, unhide HF⟩, Mod.refl _ _, fun _ hk => .inl hk⟩
end
end Go.Proofs.Ytlhebbhpcepfhaa
