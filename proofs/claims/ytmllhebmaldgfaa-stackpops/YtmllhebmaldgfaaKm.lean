/-
  The stack's memo in memory: a row of what is kept of elements, grown by one, looked at.
-/
import Derived.Test.YtmllhebmaldgfaaKn
namespace Go.Proofs.Ytmllhebmaldgfaa
open Go.RowKit

def eCells : Option Cal → List Value
  | none => zRow.toList
  | some c => (kRow c 5).toList
theorem eCells_len (x : Option Cal) : (eCells x).length = 8 := by cases x <;> rfl
def mRow (l : List (Option Cal)) : List Value := l.flatMap eCells
theorem mRow_len (l : List (Option Cal)) : (mRow l).length = l.length * 8 := by
  induction l with
  | nil => rfl
  | cons x l ih => rw [mRow, List.flatMap_cons, List.length_append, eCells_len, ← mRow, ih, List.length_cons]; omega
theorem mRow_get (l : List (Option Cal)) (i j : Nat) (hj : j < 8) {x : Option Cal} (hx : l[i]? = some x) : (mRow l)[i * 8 + j]? = (eCells x)[j]? := by
  induction l generalizing i with
  | nil => simp at hx
  | cons y l ih =>
    cases i with
    | zero =>
      simp at hx; subst hx
      rw [mRow, List.flatMap_cons, List.getElem?_append_left (by rw [eCells_len]; omega)]
      congr 1
      omega
    | succ i =>
      rw [mRow, List.flatMap_cons, List.getElem?_append_right (by rw [eCells_len]; omega), eCells_len]
      have e : (i + 1) * 8 + j - 8 = i * 8 + j := by omega
      rw [e]
      exact ih i (by simpa using hx)

/-- The memo: its header at bM, its row v. -/
structure KnM (w : World) (base bM : Nat) (v : Value) (ms : List (Option Cal)) : Prop where
  box : w.heap[bM]? = some (.cells #[v] 81 (0, 0))
  own : w.ownsRow base 103 8 v ms.length (mRow ms)
  lo : base ≤ bM
def footM (bM : Nat) (v : Value) (k : Nat) : Prop := k = bM ∨ v.ownBlock = some k

section
variable {w w' w1 : World} {base bM : Nat} {v v' : Value} {ms : List (Option Cal)} {F G : Nat → Prop}
theorem KnM.lt (h : KnM w base bM v ms) {k : Nat} (hk : footM bM v k) : base ≤ k ∧ k < w.heap.size := by
  rcases hk with rfl | hk
  · exact ⟨h.lo, lt_of_block h.box⟩
  · exact h.own.lt k hk
theorem KnM.cells (h : KnM w base bM v ms) : w.cell? ⟨bM, 0, none⟩ = some v ∧ w.frozen? ⟨bM, 0, none⟩ = false := by
  have hb := h.box
  exact ⟨by simp [World.cell?, hb], by simp [World.frozen?, hb]⟩
theorem KnM.mod (h : KnM w base bM v ms) (hm : Mod G w w') (hG : ∀ k, footM bM v k → ¬ G k) : KnM w' base bM v ms :=
  ⟨(hm.block bM (lt_of_block h.box) (hG bM (.inl rfl))).trans h.box, ownsRow_kept h.own (fun k hk => hm.block k (h.own.lt k hk).2 (hG k (.inr hk))), h.lo⟩
theorem KnM.below (h : KnM w base bM v ms) (hb : Below w.heap.size w w') : KnM w' base bM v ms := h.mod (Mod.of_below (F := fun _ => False) hb) (fun _ _ e => e)
theorem KnM.val (h : KnM w base bM v ms) : (v = .slice none 0 0 ∧ ms = []) ∨ ∃ g cap, v = .slice (some ⟨g, 0, none⟩) ms.length cap := by
  rcases h.own.2 with ⟨e, h0⟩ | ⟨g, cap, _, e, _⟩
  · exact .inl ⟨e, List.eq_nil_of_length_eq_zero h0⟩
  · exact .inr ⟨g, cap, e⟩
theorem KnM.len (h : KnM w base bM v ms) : ∃ a cap, v = .slice a ms.length cap := by
  rcases h.val with ⟨e, rfl⟩ | ⟨g, cap, e⟩
  · exact ⟨none, 0, e⟩
  · exact ⟨_, cap, e⟩
/-- What is kept at a place. -/
theorem KnM.at (h : KnM w base bM v ms) {i : Nat} {x : Option Cal} (hi : ms[i]? = some x) : ∃ g cap, v = .slice (some ⟨g, 0, none⟩) ms.length cap ∧ ∀ j, j < 8 → w.cell? ⟨g, i * 8 + j, none⟩ = (eCells x)[j]? := by
  have hlt := (List.getElem?_eq_some_iff.1 hi).1
  rcases h.val with ⟨_, h0⟩ | ⟨g, cap, e⟩
  · subst h0; simp at hi
  · subst e
    refine ⟨g, cap, rfl, fun j hj => ?_⟩
    rw [h.own.cellAt (i * 8 + j) (by omega), mRow_get ms i j hj hi]
end
end Go.Proofs.Ytmllhebmaldgfaa
