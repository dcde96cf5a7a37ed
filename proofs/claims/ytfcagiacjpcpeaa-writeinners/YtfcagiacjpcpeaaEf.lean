/-
  strings.Builder's String; the program's Escape.
-/
import Derived.Test.YtfcagiacjpcpeaaEd
import Derived.Test.YtfcagiacjpcpeaaEe
namespace Go.Proofs.Ytfcagiacjpcpeaa
open Go.RowKit Go.Lib

set_option maxHeartbeats 1000000 in
set_option maxRecDepth 100000 in
theorem string_nil {pre : List Value} {T : TypeId} {o B b : Nat} {p : Value} {w : World} (ok : BOk pre T o) (h : Bld pre T B b p [] w) (hBw : B ≤ w.heap.size) :
    Calls Try.prog 36 #[.pointer (some ⟨b, o, none⟩)] w fun e w' => e = .returned (.string ⟨#[]⟩) ∧ Below B w w' := by
  have hlt := h.lt
  obtain ⟨v, hbk, hown, hne⟩ := h.ex
  have hbk' : w.drew.heap[b]? = some (.cells (pre ++ [p, v]).toArray T (0, 0)) := hbk
  have c1 : w.drew.cell? ⟨b, o + 1, none⟩ = some v := by
    rw [cell_of_heap hbk']; exact pre_at1 ok.len _ _
  have hUS : ∀ W p, (Builtin.unsafeString_ #[103, 3] 9 #[.pointer p, .int .i64 0]).run Try.prog W = .ok (.string .empty) W := fun W p => Lib.run_unsafeString_none W _ _ _ p
  have mixed : Try.prog.follows Departure.mixedOrders = true := by kernel_rfl
  rcases hown.2 with ⟨rfl, _⟩ | ⟨g, cap, cur, fz, rfl, hbg, hg, _⟩
  · have hSD : (Builtin.unsafeSliceData_ #[39] 103 #[.slice none 0 0]).run Try.prog w.drew = .ok (.pointer none) w.drew := rfl
    have HBB := hidE (Below.drew (Below.refl B w))
    clear hown hne hbk hbk' h
    go_enter Try.func36, Try.ntmps36
    go_wp2
    go_region_o
    all_goals (go_wp2; go_ret; exact ⟨rfl, unhidE HBB⟩)
  · by_cases hc0 : cap = 0
    · subst hc0
      have hSD : (Builtin.unsafeSliceData_ #[39] 103 #[.slice (some ⟨g, 0, none⟩) 0 0]).run Try.prog w.drew = .ok (.pointer (some ⟨w.drew.heap.size, 0, none⟩)) (w.drew.alloc (.view ⟨g, 0, none⟩ 5)) :=
        Lib.run_unsafeSliceData_zero w.drew _ _ 5 Try.underlying103 ⟨g, 0, none⟩ 0 (5, cur.size) (by have hg' : w.drew.heap[g]? = some (.cells cur 5 fz) := hg; simp [World.shape?, hg'])
      have c2 : (w.drew.alloc (.view ⟨g, 0, none⟩ 5)).cell? ⟨b, o + 1, none⟩ = some (.slice (some ⟨g, 0, none⟩) 0 0) := by
        have : (w.drew.alloc (.view ⟨g, 0, none⟩ 5)).heap[b]? = _ := (Lib.alloc_old w.drew _ b hlt).trans hbk
        rw [Lib.cell_of_heap this]; exact pre_at1 ok.len _ _
      have c3 : (w.alloc (.view ⟨g, 0, none⟩ 5)).drew.cell? ⟨b, o + 1, none⟩ = some (.slice (some ⟨g, 0, none⟩) 0 0) := c2
      have c0 : w.cell? ⟨b, o + 1, none⟩ = some (.slice (some ⟨g, 0, none⟩) 0 0) := c1
      have c1' : w.drew.cell? ⟨b, o + 1, none⟩ = some (.slice (some ⟨g, 0, none⟩) 0 0) := c1
      clear c1
      have HBB := hidE ((Below.drew (Below.refl B w)).alloc hBw (.view ⟨g, 0, none⟩ 5))
      clear hown hne hbk hbk' h hg hbg
      go_enter Try.func36, Try.ntmps36
      go_wp2
      go_region_o
      all_goals (go_wp2; go_ret; exact ⟨rfl, unhidE HBB⟩)
    · have hSD : (Builtin.unsafeSliceData_ #[39] 103 #[.slice (some ⟨g, 0, none⟩) 0 cap]).run Try.prog w.drew = .ok (.pointer (some ⟨g, 0, none⟩)) w.drew :=
        Lib.run_unsafeSliceData_row _ _ _ _ _ _ hc0
      have c1' : w.drew.cell? ⟨b, o + 1, none⟩ = some (.slice (some ⟨g, 0, none⟩) 0 cap) := c1
      have HBB := hidE (Below.drew (Below.refl B w))
      clear hown hne hbk hbk' h hg hbg hc0 c1
      go_enter Try.func36, Try.ntmps36
      go_wp2
      go_region_o
      all_goals (go_wp2; go_ret; exact ⟨rfl, unhidE HBB⟩)

theorem string_any {pre : List Value} {T : TypeId} {o B b : Nat} {p : Value} {l : List UInt8} {w : World} (ok : BOk pre T o) (h : Bld pre T B b p l w) (hBw : B ≤ w.heap.size) :
    Calls Try.prog 36 #[.pointer (some ⟨b, o, none⟩)] w fun e w' => e = .returned (.string ⟨l.toArray⟩) ∧ Below B w w' := by
  cases l with
  | nil => exact string_nil ok h hBw
  | cons x r => exact string_row ok h (by simp)

theorem bokE : BOk [] 65 0 := ⟨rfl, by kernel_rfl, by decide⟩
def escS (attr : Bool) (s : ByteArray) : ByteArray := ⟨(escL attr s.data.toList).toArray⟩
theorem fresh_bld (w : World) : IsBld [] 65 0 w.heap.size w.heap.size [] (w.alloc (.cells #[.pointer none, .slice none 0 0] 65)) :=
  .inl ⟨Nat.le_refl _, .slice none 0 0, heap_alloc_new w _, World.ownsRowF_nil _ _ _ _, by simp [Value.ownBlock]⟩

set_option maxHeartbeats 1000000 in
theorem escapeP_any (s : ByteArray) (attr : Bool) (w : World) (hs : 6 * s.size ≤ 140737488355328) :
    Calls Try.prog 17 #[.string s, .bool attr] w fun e w' => e = .returned (.string (escS attr s)) ∧ Below w.heap.size w w' := by
  have HE := hidE (escape_any bokE s attr (fresh_bld w) (by simpa using hs) (by simp))
  have HB0 := hidE (below_new w (.cells #[.pointer none, .slice none 0 0] 65))
  unfold escS
  clear hs
  go_enter Try.func17, Try.ntmps17
  go_wp2_with (first
    | (go_at_call 40; refine (unhidE HE).mono ?_; rintro e w1 ⟨rfl, hB1, hb1, _⟩; have HB1 := hidE hB1; have HBB1 := hidE ((unhidE HB0).trans hb1); clear hB1 hb1)
    | (go_at_call 36; refine (string_any bokE (unhidE HB1) (unhidE HBB1).size).mono ?_; rintro e w2 ⟨rfl, hb2⟩; have HBB2 := hidE ((unhidE HBB1).trans hb2); clear hb2))
  go_ret
  exact ⟨rfl, unhidE HBB2⟩
end Go.Proofs.Ytfcagiacjpcpeaa
