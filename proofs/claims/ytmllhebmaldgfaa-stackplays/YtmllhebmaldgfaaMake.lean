import Derived.Test.YtmllhebmaldgfaaAdd
/-
  New, and the calls that make texts and comments; what a call does to an arena, its inner places hidden.
-/
namespace Go.Proofs.Ytmllhebmaldgfaa
open Go.RowKit

/-- An arena at bA with these nodes, in the blocks F. -/
def ArS (w : World) (base bA : Nat) (ns : List NodeM) (F : Nat → Prop) : Prop := ∃ bS g cap, Ar w base bA bS g cap ns ∧ ∀ k, F k ↔ foot bA bS g ns k

/-- Behind a call the arena has the nodes ns; only its own blocks were written. -/
def Upd (F : Nat → Prop) (w w' : World) (base bA : Nat) (ns : List NodeM) : Prop := ∃ F', ArS w' base bA ns F' ∧ Mod F w w' ∧ ∀ k, F' k → F k ∨ w.heap.size ≤ k

theorem ArS.lt {w : World} {base bA : Nat} {ns : List NodeM} {F : Nat → Prop} (h : ArS w base bA ns F) {k : Nat} (hk : F k) : base ≤ k ∧ k < w.heap.size := by
  obtain ⟨bS, g, cap, h, hF⟩ := h
  exact h.foot_lt ((hF k).1 hk)
theorem ArS.mod {w w' : World} {base bA : Nat} {ns : List NodeM} {F G : Nat → Prop} (h : ArS w base bA ns F) (hm : Mod G w w') (hG : ∀ k, F k → ¬ G k) : ArS w' base bA ns F := by
  obtain ⟨bS, g, cap, h, hF⟩ := h
  exact ⟨bS, g, cap, h.mod hm (fun k hk => hG k ((hF k).2 hk)), hF⟩
theorem ArS.below {w w' : World} {base bA : Nat} {ns : List NodeM} {F : Nat → Prop} (h : ArS w base bA ns F) (hb : Below w.heap.size w w') : ArS w' base bA ns F := by
  obtain ⟨bS, g, cap, h, hF⟩ := h
  exact ⟨bS, g, cap, h.below hb, hF⟩
theorem ArS.upd {w w' : World} {base bA : Nat} {ns : List NodeM} {F : Nat → Prop} (h : ArS w base bA ns F) (hb : Below w.heap.size w w') : Upd F w w' base bA ns :=
  ⟨F, h.below hb, Mod.of_below hb, fun _ hk => .inl hk⟩
theorem ArS.base_le {w : World} {base bA : Nat} {ns : List NodeM} {F : Nat → Prop} (h : ArS w base bA ns F) : base ≤ w.heap.size := by
  obtain ⟨bS, g, cap, h, _⟩ := h
  have := h.foot_lt (.inl rfl); omega
/-- Ahead of the call that changes it new blocks were made. -/
theorem Upd.after {F : Nat → Prop} {w w1 w2 : World} {base bA : Nat} {ns : List NodeM} (hb : Below w.heap.size w w1) (h : Upd F w1 w2 base bA ns) : Upd F w w2 base bA ns := by
  obtain ⟨F', h1, h2, h3⟩ := h
  exact ⟨F', h1, (Mod.of_below hb).trans h2, fun k hk => (h3 k hk).imp id (fun h => Nat.le_trans hb.size h)⟩
theorem Upd.then {F : Nat → Prop} {w w1 w2 : World} {base bA : Nat} {ns : List NodeM} (h : Upd F w w1 base bA ns) (hb : Below w1.heap.size w1 w2) : Upd F w w2 base bA ns := by
  obtain ⟨F', h1, h2, h3⟩ := h
  exact ⟨F', h1.below hb, h2.trans (Mod.of_below hb), h3⟩

theorem ar_new (w : World) (base : Nat) (hbase : base ≤ w.heap.size) :
    Ar (((w.alloc (.cells (nodeRow [blankM 0]).toArray 44)).alloc (.cells #[.slice (some ⟨w.heap.size, 0, none⟩) 1 1] 92)).alloc (.cells #[.pointer (some ⟨w.heap.size + 1, 0, none⟩)] 95))
      base (w.heap.size + 2) (w.heap.size + 1) w.heap.size 1 [blankM 0] := by
  have hg : (w.alloc (.cells (nodeRow [blankM 0]).toArray 44)).ownsRow base 44 12 (.slice (some ⟨w.heap.size, 0, none⟩) 1 1) 1 (nodeRow [blankM 0]) := by
    have := World.ownsRow_lit (base := base) (e := 44) (size := 12) w (nodeRow [blankM 0]).toArray 1 hbase (by simp [maxLen]) (by rfl)
    simpa using this
  refine ⟨?_, ?_, (hg.alloc _).alloc _, by omega, by omega, by simp, by simp, ?_, ?_, ?_⟩
  · have := heap_alloc_new ((w.alloc (.cells (nodeRow [blankM 0]).toArray 44)).alloc (.cells #[.slice (some ⟨w.heap.size, 0, none⟩) 1 1] 92)) (.cells #[.pointer (some ⟨w.heap.size + 1, 0, none⟩)] 95)
    simpa using this
  · rw [Below.heap_alloc _ _ _ (by simp)]
    have := heap_alloc_new (w.alloc (.cells (nodeRow [blankM 0]).toArray 44)) (.cells #[.slice (some ⟨w.heap.size, 0, none⟩) 1 1] 92)
    simpa using this
  · intro i n hi
    match i, hi with
    | 0, hi => simp at hi; subst hi; exact World.ownsRow_nil _ _ _ _
  · intro i n hi
    match i, hi with
    | 0, hi => simp at hi; subst hi; simp [blankM]
  · intro i j n m hij hi hj
    have h1 := (List.getElem?_eq_some_iff.1 hi).1
    have h2 := (List.getElem?_eq_some_iff.1 hj).1
    simp at h1 h2; omega

set_option maxHeartbeats 400000 in
theorem new_any (w : World) (base : Nat) (hbase : base ≤ w.heap.size) :
    Calls Try.prog 26 #[] w fun e w' => ∃ F, e = .returned (.pointer (some ⟨w.heap.size + 3, 0, none⟩)) ∧ ArS w' base (w.heap.size + 3) [blankM 0] F ∧ Below w.heap.size w w' ∧ ∀ k, F k → w.heap.size ≤ k := by
  go_enter Try.func26, Try.ntmps26
  go_wp2_with (go_at_call 76; refine (blank_any _).mono ?_; rintro e w' ⟨rfl, rfl⟩)
  go_ret
  have R := ar_new (w.alloc (.cells (nodeRow [blankM 0]).toArray 44)) base (by simp; omega)
  rw [World.size_alloc] at R
  refine ⟨_, rfl, ⟨_, _, _, R, fun k => Iff.rfl⟩, ?_, ?_⟩
  · exact (((((Below.refl _ w).alloc (Nat.le_refl _) _).alloc (by simp) _).alloc (by simp; omega) _).alloc (by simp; omega) _)
  · intro k hk
    rcases hk with rfl | rfl | rfl | ⟨n, hn, hk⟩
    · omega
    · omega
    · omega
    · simp at hn; subst hn; simp [blankM, Value.ownBlock] at hk
end Go.Proofs.Ytmllhebmaldgfaa
