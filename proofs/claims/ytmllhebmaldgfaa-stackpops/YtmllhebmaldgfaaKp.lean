/-
  The stack's memo in memory: a place more, a place written.
-/
import Derived.Test.YtmllhebmaldgfaaKm
namespace Go.Proofs.Ytmllhebmaldgfaa
open Go.RowKit

theorem own_set {w : World} {base : Nat} {e : TypeId} {size g n cap k : Nat} {xs : List Value} (h : w.ownsRow base e size (.slice (some ⟨g, 0, none⟩) n cap) n xs) (u : Value) : (w.setCell ⟨g, k, none⟩ u).ownsRow base e size (.slice (some ⟨g, 0, none⟩) n cap) n (xs.set k u) := by
  obtain ⟨hlen, h⟩ := h
  refine ⟨by rw [List.length_set]; exact hlen, .inr ?_⟩
  rcases h with ⟨e0, _⟩ | ⟨g2, cap2, cur, e0, hb, hblk, hn, hc, hs, ht⟩
  · cases e0
  · cases e0
    refine ⟨g, cap, cur.setIfInBounds k u, rfl, hb, heap_setCell_same w g k cur _ u hblk, hn, hc, by rw [Array.size_setIfInBounds]; exact hs, ?_⟩
    rw [Array.toList_setIfInBounds, List.take_set, ht]
theorem mRow_cons (y : Option Cal) (l : List (Option Cal)) : mRow (y :: l) = eCells y ++ mRow l := by simp [mRow]
theorem set_behind (y : Option Cal) (r : List Value) (i : Nat) (u : Value) : (eCells y ++ r).set (8 + i) u = eCells y ++ r.set i u := by
  rw [List.set_append_right _ _ (by rw [eCells_len]; omega), eCells_len]
  congr 2
  omega
/-- The eight cells of a place written one behind the other. -/
def set8 (xs : List Value) (o : Nat) (v0 v1 v2 v3 v4 v5 v6 v7 : Value) : List Value := (((((((xs.set o v0).set (o + 1) v1).set (o + 2) v2).set (o + 3) v3).set (o + 4) v4).set (o + 5) v5).set (o + 6) v6).set (o + 7) v7
theorem mRow_set (c : Cal) : ∀ (ms : List (Option Cal)) (i : Nat), i < ms.length → set8 (mRow ms) (i * 8) (.int .i64 c.space) (.string c.name) (.bool (bAt c 5 0)) (.bool (bAt c 5 1)) (.bool (bAt c 5 2)) (.bool (bAt c 5 3)) (.bool (bAt c 5 4)) (.bool true) = mRow (ms.set i (some c))
  | [], i, h => by simp at h
  | y :: l, 0, _ => by
    rw [List.set_cons_zero, mRow_cons, mRow_cons]
    obtain ⟨y0, y1, y2, y3, y4, y5, y6, y7, e⟩ : ∃ y0 y1 y2 y3 y4 y5 y6 y7, eCells y = [y0, y1, y2, y3, y4, y5, y6, y7] := by
      cases y
      · exact ⟨_, _, _, _, _, _, _, _, rfl⟩
      · exact ⟨_, _, _, _, _, _, _, _, rfl⟩
    rw [e]
    rfl
  | y :: l, i + 1, h => by
    have ih := mRow_set c l i (by simpa using h)
    rw [List.set_cons_succ, mRow_cons, mRow_cons, ← ih]
    have e : ∀ j, (i + 1) * 8 + j = 8 + (i * 8 + j) := fun j => by omega
    have e0 : (i + 1) * 8 = 8 + i * 8 := by omega
    unfold set8
    rw [e 1, e 2, e 3, e 4, e 5, e 6, e 7, e0]
    simp only [set_behind]

section
variable {w w1 : World} {base bM : Nat} {v v' : Value} {ms : List (Option Cal)}
/-- A place more. -/
theorem KnM.grow (h : KnM w base bM v ms) (hown : w1.ownsRow base 103 8 v' (ms.length + 1) (mRow ms ++ zRow.toList)) (hgrow : w.grownBy w1 v.ownBlock) (hv : ∀ k, v'.ownBlock = some k → v.ownBlock = some k ∨ w.heap.size ≤ k) :
    KnM (w1.setCell ⟨bM, 0, none⟩ v') base bM v' (ms ++ [none]) ∧ Mod (footM bM v) w (w1.setCell ⟨bM, 0, none⟩ v') ∧ ∀ k, footM bM v' k → footM bM v k ∨ w.heap.size ≤ k := by
  have hlt := lt_of_block h.box
  have hne : ∀ k, v.ownBlock = some k → k ≠ bM := fun k hk e => by
    obtain ⟨cur, hc⟩ := ownsRow_block h.own hk
    rw [e, h.box] at hc
    cases hc
  have hm1 : Mod (fun k => v.ownBlock = some k) w w1 := Mod.grown hgrow (fun k e => e)
  have hb1 := (hm1.block bM hlt (fun e => hne _ e rfl)).trans h.box
  have hne' : ∀ k, v'.ownBlock = some k → k ≠ bM := fun k hk => by
    rcases hv k hk with e | e
    · exact hne k e
    · omega
  refine ⟨⟨?_, ?_, h.lo⟩, (hm1.mono (fun k _ e => .inr e)).trans (Mod.setCell _ _ _ (.inl rfl)), ?_⟩
  · have := heap_setCell_same w1 bM 0 #[v] 81 v' hb1
    simpa using this
  · have e : mRow (ms ++ [none]) = mRow ms ++ zRow.toList := by simp [mRow, eCells]
    rw [List.length_append, e]
    exact ownsRow_setCell_other hown (fun e => hne' _ e rfl) _
  · rintro k (rfl | hk)
    · exact .inl (.inl rfl)
    · exact (hv k hk).imp (fun e => .inr e) id
/-- A place written. -/
theorem KnM.poke {g cap : Nat} (h : KnM w base bM (.slice (some ⟨g, 0, none⟩) ms.length cap) ms) (c : Cal) {i : Nat} (hi : i < ms.length) :
    KnM ((((((((w.setCell ⟨g, i * 8, none⟩ (.int .i64 c.space)).setCell ⟨g, i * 8 + 1, none⟩ (.string c.name)).setCell ⟨g, i * 8 + 2, none⟩ (.bool (bAt c 5 0))).setCell ⟨g, i * 8 + 3, none⟩ (.bool (bAt c 5 1))).setCell ⟨g, i * 8 + 4, none⟩ (.bool (bAt c 5 2))).setCell ⟨g, i * 8 + 5, none⟩ (.bool (bAt c 5 3))).setCell ⟨g, i * 8 + 6, none⟩ (.bool (bAt c 5 4))).setCell ⟨g, i * 8 + 7, none⟩ (.bool true)) base bM (.slice (some ⟨g, 0, none⟩) ms.length cap) (ms.set i (some c)) ∧ Mod (fun k => k = g) w ((((((((w.setCell ⟨g, i * 8, none⟩ (.int .i64 c.space)).setCell ⟨g, i * 8 + 1, none⟩ (.string c.name)).setCell ⟨g, i * 8 + 2, none⟩ (.bool (bAt c 5 0))).setCell ⟨g, i * 8 + 3, none⟩ (.bool (bAt c 5 1))).setCell ⟨g, i * 8 + 4, none⟩ (.bool (bAt c 5 2))).setCell ⟨g, i * 8 + 5, none⟩ (.bool (bAt c 5 3))).setCell ⟨g, i * 8 + 6, none⟩ (.bool (bAt c 5 4))).setCell ⟨g, i * 8 + 7, none⟩ (.bool true)) := by
  have hne : g ≠ bM := fun e => by
    obtain ⟨cur, hc⟩ := ownsRow_block h.own (k := g) rfl
    rw [e, h.box] at hc
    cases hc
  have hm : Mod (fun k => k = g) w ((((((((w.setCell ⟨g, i * 8, none⟩ (.int .i64 c.space)).setCell ⟨g, i * 8 + 1, none⟩ (.string c.name)).setCell ⟨g, i * 8 + 2, none⟩ (.bool (bAt c 5 0))).setCell ⟨g, i * 8 + 3, none⟩ (.bool (bAt c 5 1))).setCell ⟨g, i * 8 + 4, none⟩ (.bool (bAt c 5 2))).setCell ⟨g, i * 8 + 5, none⟩ (.bool (bAt c 5 3))).setCell ⟨g, i * 8 + 6, none⟩ (.bool (bAt c 5 4))).setCell ⟨g, i * 8 + 7, none⟩ (.bool true)) := ((((((((Mod.setCell (F := fun k => k = g) _ ⟨g, i * 8, none⟩ _ rfl).trans (Mod.setCell (F := fun k => k = g) _ ⟨g, i * 8 + 1, none⟩ _ rfl)).trans (Mod.setCell (F := fun k => k = g) _ ⟨g, i * 8 + 2, none⟩ _ rfl)).trans (Mod.setCell (F := fun k => k = g) _ ⟨g, i * 8 + 3, none⟩ _ rfl)).trans (Mod.setCell (F := fun k => k = g) _ ⟨g, i * 8 + 4, none⟩ _ rfl)).trans (Mod.setCell (F := fun k => k = g) _ ⟨g, i * 8 + 5, none⟩ _ rfl)).trans (Mod.setCell (F := fun k => k = g) _ ⟨g, i * 8 + 6, none⟩ _ rfl)).trans (Mod.setCell (F := fun k => k = g) _ ⟨g, i * 8 + 7, none⟩ _ rfl))
  have o0 := own_set (k := i * 8) h.own (.int .i64 c.space)
  have o1 := own_set (k := i * 8 + 1) o0 (.string c.name)
  have o2 := own_set (k := i * 8 + 2) o1 (.bool (bAt c 5 0))
  have o3 := own_set (k := i * 8 + 3) o2 (.bool (bAt c 5 1))
  have o4 := own_set (k := i * 8 + 4) o3 (.bool (bAt c 5 2))
  have o5 := own_set (k := i * 8 + 5) o4 (.bool (bAt c 5 3))
  have o6 := own_set (k := i * 8 + 6) o5 (.bool (bAt c 5 4))
  have o7 := own_set (k := i * 8 + 7) o6 (.bool true)
  have e := mRow_set c ms i hi
  unfold set8 at e
  rw [e] at o7
  refine ⟨⟨(hm.block bM (lt_of_block h.box) (fun e => hne e.symm)).trans h.box, ?_, h.lo⟩, hm⟩
  rw [List.length_set]
  exact o7
end
end Go.Proofs.Ytmllhebmaldgfaa
