/-
  The program's Escape: the text that is escaped behind a text.
-/
import Derived.Test.YtfcagiacjpcpeaaEc
import Derived.Shelf.RegionOpenPlain
namespace Go.Proofs.Ytfcagiacjpcpeaa
open Go.RowKit Go.Lib

set_option maxHeartbeats 1000000 in
set_option maxRecDepth 100000 in
theorem string_row {pre : List Value} {T : TypeId} {o B b : Nat} {p : Value} {l : List UInt8} {w : World} (ok : BOk pre T o) (h : Bld pre T B b p l w) (h0 : l ≠ []) :
    Calls Try.prog 36 #[.pointer (some ⟨b, o, none⟩)] w fun e w' => e = .returned (.string ⟨l.toArray⟩) ∧ Below B w w' := by
  obtain ⟨v, hbk, hown, hne⟩ := h.ex
  have hl0 : l.length ≠ 0 := by simpa using h0
  rw [byteCells_length] at hown
  obtain ⟨g, cap, cur, fz, rfl, hbg, hg, hnc, hcm, hcs⟩ : ∃ g cap cur fz, v = .slice (some ⟨g, 0, none⟩) l.length cap ∧ B ≤ g ∧ w.heap[g]? = some (.cells cur 5 fz) ∧ l.length ≤ cap ∧ cap ≤ maxLen ∧ cur.size = cap * 1 := by
    rcases hown.2 with ⟨_, hz⟩ | ⟨g, cap, cur, fz, hv, h1, h2, _, h3, h4, h5, _⟩
    · exact absurd hz hl0
    · exact ⟨g, cap, cur, fz, hv, h1, h2, h3, h4, h5⟩
  have hbk' : w.drew.heap[b]? = some (.cells (pre ++ [p, .slice (some ⟨g, 0, none⟩) l.length cap]).toArray T (0, 0)) := hbk
  have c1 : w.drew.cell? ⟨b, o + 1, none⟩ = some (.slice (some ⟨g, 0, none⟩) l.length cap) := by
    rw [cell_of_heap hbk']; exact pre_at1 ok.len _ _
  have hSD : (Builtin.unsafeSliceData_ #[39] 103 #[.slice (some ⟨g, 0, none⟩) l.length cap]).run Try.prog w.drew = .ok (.pointer (some ⟨g, 0, none⟩)) w.drew :=
    Lib.run_unsafeSliceData_row _ _ _ _ _ _ (by omega)
  have hUS : (Builtin.unsafeString_ #[103, 3] 9 #[.pointer (some ⟨g, 0, none⟩), .int .i64 l.length]).run Try.prog w.drew = .ok (.string ⟨l.toArray⟩) (w.drew.freeze ⟨g, 0, none⟩ l.length) := by
    refine Lib.run_unsafeString_row w.drew 103 3 9 5 Try.underlying103 (by kernel_rfl) g cur.size (by have hg' : w.drew.heap[g]? = some (.cells cur 5 fz) := hg; simp [World.shape?, hg']) l h0 (by omega) (by unfold maxLen at hcm; omega) ?_
    intro j x hx
    exact hown.cells (g := g) rfl j (.int .u8 x.toNat) (by simp [Lib.byteCells, hx])
  have HBB := hidE (Lib.below_freeze (Below.drew (Below.refl B w)) (p := ⟨g, 0, none⟩) hbg l.length)
  have mixed : Try.prog.follows Departure.mixedOrders = true := by kernel_rfl
  clear hown hne hl0 hg hnc hcm hcs hbk hbk' hbg h0 h
  go_enter Try.func36, Try.ntmps36
  go_wp2
  go_region_o
  all_goals (go_wp2; go_ret; exact ⟨rfl, unhidE HBB⟩)
end Go.Proofs.Ytfcagiacjpcpeaa
