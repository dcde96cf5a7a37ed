import Derived.Test.YtmllhebmaldgfaaFull
import Derived.Test.YtmllhebmaldgfaaNode
/-
  Doctype, Fragment, SetData; Node of what is no node.
-/
namespace Go.Proofs.Ytmllhebmaldgfaa
open Go.RowKit

theorem threeS (w : World) (t : TypeId) (x y z : ByteArray) : ∀ j s, [x, y, z][j]? = some s → (w.alloc (.cells #[.string x, .string y, .string z] t)).cell? ⟨w.heap.size, j, none⟩ = some (.string s) := by
  intro j s hj
  match j, hj with
  | 0, hj => simp at hj; subst hj; simp
  | 1, hj => simp at hj; subst hj; simp
  | 2, hj => simp at hj; subst hj; simp

set_option maxHeartbeats 1000000 in
theorem node_no {w : World} {base bA : Nat} {ns : List NodeM} {F : Nat → Prop} (h : ArS w base bA ns F) (k : Int) (hk : hasM ns k = false) :
    Calls Try.prog 18 #[.pointer (some ⟨bA, 0, none⟩), .int .i64 k] w fun e w' => e = .returned (.tuple #[nodeZ, .int .i64 6]) ∧ Below w.heap.size w w' := by
  obtain ⟨bS, g, cap, h, hF⟩ := h
  have HM := hide (fun w' hb => made_yes (w := w') (h.below hb))
  have HH := hide (fun w' hb => has_any (h.below hb) k (w := w'))
  rw [hk] at HH
  have hb0 := Below.refl w.heap.size w
  clear h hF hk
  go_enter Try.func18, Try.ntmps18
  go_wp2_with (first
    | (go_at_call 60; refine ((unhide HM) _ (by first | assumption | exact (Below.refl _ _).alloc (Nat.le_refl _) _)).mono ?_; rintro e w' ⟨rfl, rfl⟩)
    | (go_at_call 61; refine ((unhide HH) _ (by first | assumption | exact (Below.refl _ _).alloc (Nat.le_refl _) _)).mono ?_; rintro e w' ⟨rfl, rfl⟩))
  exact bodyPost_ret (v := .tuple #[nodeZ, .int .i64 6]) (by simp [results, Try.results18, go_sem, nodeZ]) rfl ⟨rfl, by first | assumption | exact (Below.refl _ _).alloc (Nat.le_refl _) _⟩

end Go.Proofs.Ytmllhebmaldgfaa
