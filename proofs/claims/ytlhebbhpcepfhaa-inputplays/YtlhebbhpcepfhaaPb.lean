/-
  Line ends: the closure that remembers, slices.Grow, add.
-/
import Derived.Test.YtlhebbhpcepfhaaPa
import Derived.Deep.LoopGhost
import Derived.Deep.QuietTactic
import Derived.BigQuiet
import Derived.Deep.RegionWith
import Derived.OwnWalk
namespace Go.Proofs.Ytlhebbhpcepfhaa
open Go.RowKit

/-- What waits for a code point, behind a 13 or not. -/
def endM (cr : Bool) (r : Int) : Int × Bool := if cr && r == 10 then (0, false) else if r == 13 then (10, true) else (r, true)

/-- The memory of the line ends of a source. -/
def Cr (w : World) (b : Nat) (cr : Bool) : Prop := w.heap[b]? = some (.cells #[.bool cr] 4 (0, 0))
theorem Cr.set {w : World} {b : Nat} {cr : Bool} (h : Cr w b cr) (x : Bool) : Cr (w.setCell ⟨b, 0, none⟩ (.bool x)) b x := one_setCell h
theorem Cr.lt {w : World} {b : Nat} {cr : Bool} (h : Cr w b cr) : b < w.heap.size := lt_of_block h

theorem lineEnds_any (w : World) : Calls Try.prog 26 #[] w fun e w' => e = .returned (.func (.func 41) #[] #[.pointer (some ⟨w.heap.size, 0, none⟩)]) ∧ w' = w.alloc (.cells #[.bool false] 4) := by
  go_enter Try.func26, Try.ntmps26
  go_wp2
  go_ret
  exact ⟨rfl, rfl⟩

theorem ends_any (w : World) (b : Nat) (cr : Bool) (r : Int) (h : Cr w b cr) :
    Calls Try.prog 41 #[.int .i32 r, .pointer (some ⟨b, 0, none⟩)] w fun e w' => e = .returned (.tuple #[.int .i32 (endM cr r).1, .bool (endM cr r).2]) ∧ w' = w.setCell ⟨b, 0, none⟩ (.bool (r == 13)) := by
  have hc : w.cell? ⟨b, 0, none⟩ = some (.bool cr) := cell_of_one h
  have hf : w.frozen? ⟨b, 0, none⟩ = false := free_of_one h
  have hlt : b < w.heap.size := lt_of_block h
  clear h
  cases cr
  · rcases Bool.eq_false_or_eq_true (r == 13) with h13 | h13
    · rw [show endM false r = (10, true) by simp [endM, h13], h13]
      go_enter Try.func41, Try.ntmps41
      go_wp2
      go_ret2
      exact ⟨rfl, rfl⟩
    · rw [show endM false r = (r, true) by simp [endM, h13], h13]
      go_enter Try.func41, Try.ntmps41
      go_wp2
      go_ret2
      exact ⟨rfl, rfl⟩
  · rcases Bool.eq_false_or_eq_true (r == 10) with h10 | h10
    · have h13 : (r == 13) = false := by simp at h10 ⊢; omega
      rw [show endM true r = (0, false) by simp [endM, h10], h13]
      go_enter Try.func41, Try.ntmps41
      go_wp2
      go_ret2
      exact ⟨rfl, rfl⟩
    · rcases Bool.eq_false_or_eq_true (r == 13) with h13 | h13
      · rw [show endM true r = (10, true) by simp [endM, h13, h10], h13]
        go_enter Try.func41, Try.ntmps41
        go_wp2
        go_ret2
        exact ⟨rfl, rfl⟩
      · rw [show endM true r = (r, true) by simp [endM, h13, h10], h13]
        go_enter Try.func41, Try.ntmps41
        go_wp2
        go_ret2
        exact ⟨rfl, rfl⟩

/-- slices.Grow where there is room. -/
theorem grow_room (w : World) (a : Option Addr) (l c n : Nat) (hlc : l ≤ c) (hc : c ≤ maxLen) (hn : l + n ≤ c) :
    Calls Try.prog 43 #[.slice a l c, .int .i64 n] w fun e w' => e = .returned (.slice a l c) ∧ w' = w := by
  unfold maxLen at hc
  have h1 : ¬ ((n : Int) < 0) := by omega
  have h2 : wrap64 ((c : Int) - (l : Int)) = (c : Int) - (l : Int) := by unfold wrap64; omega
  have h3 : wrap64 ((n : Int) - ((c : Int) - (l : Int))) = (n : Int) - ((c : Int) - (l : Int)) := by unfold wrap64; omega
  have h4 : ¬ ((n : Int) - ((c : Int) - (l : Int)) > 0) := by omega
  go_enter Try.func43, Try.ntmps43
  go_wp2
  go_ret
  exact ⟨rfl, rfl⟩

/-- slices.Grow where there is none: a new block, all zeros behind what the old one held up to its room. -/
theorem grow_grow (w : World) (a : Option Addr) (l c n : Nat) (cs : List Value) (hlc : l ≤ c) (hroom : c < l + n) (hbig : l + n ≤ 35184372088832)
    (hcl : cs.length = c) (hnil : a = none → c = 0) (hcs : ∀ ad, a = some ad → ∀ j v, cs[j]? = some v → w.cell? (ad.add j) = some v) :
    Calls Try.prog 43 #[.slice a l c, .int .i64 n] w fun e w' =>
      e = .returned (.slice (some ⟨w.heap.size, 0, none⟩) l (grownCap w (l + n) c 21)) ∧
      w' = w.drew.alloc (.cells (cs.toArray ++ Builtin.zeroCells (Value.int .i32 0).cells (l + n - c) ++ Builtin.zeroCells (Value.int .i32 0).cells (grownCap w (l + n) c 21 - (l + n))) 21) := by
  obtain ⟨i0, hi0, hz0, hz1, hz2⟩ := info_parts Try.info21
  have h1 : ¬ ((n : Int) < 0) := by omega
  have h2 : wrap64 ((c : Int) - (l : Int)) = (c : Int) - (l : Int) := by unfold wrap64; omega
  have h3 : wrap64 ((n : Int) - ((c : Int) - (l : Int))) = (n : Int) - ((c : Int) - (l : Int)) := by unfold wrap64; omega
  have h4 : (n : Int) - ((c : Int) - (l : Int)) > 0 := by omega
  have hck : c + (l + n - c) = l + n := by omega
  have hold : (Builtin.firstCells i0.size c (.slice a c c)).run Try.prog w.drew = .ok cs.toArray w.drew := by
    cases a with
    | none =>
      have h0 := hnil rfl
      subst h0
      rw [List.length_eq_zero_iff.1 hcl]
      exact run_firstCells_none w.drew i0.size 0 0 0
    | some ad => exact run_firstCells_some w.drew i0.size c ad c c cs (by rw [hz1]; omega) (fun j v hj => hcs ad rfl j v hj)
  have hrz : ∀ ty, (Builtin.append_ #[28, 3] ty #[.slice a c c, .int .i64 ((n : Int) - ((c : Int) - (l : Int)))]).run Try.prog w =
      .ok (.slice (some ⟨w.heap.size, 0, none⟩) (l + n) (grownCap w (l + n) c 21)) (w.drew.alloc (.cells (cs.toArray ++ Builtin.zeroCells (Value.int .i32 0).cells (l + n - c) ++ Builtin.zeroCells (Value.int .i32 0).cells (grownCap w (l + n) c 21 - (l + n))) 21)) := fun ty => by
    have h := Lib.run_append_grow_zeros (P := Try.prog) w 28 3 ty 21 i0 (.int .i32 0) .i64 .i64 (by kernel_rfl) (by kernel_rfl) hi0 hz0 a c c cs hold (l + n - c) (by omega) (by omega) (by omega) (by omega)
      (by rw [hz2]; omega) (by rw [hck]; exact growslice_fits hroom (by rw [hz2]; omega))
    rw [hck] at h
    rw [show (n : Int) - ((c : Int) - (l : Int)) = ((l + n - c : Nat) : Int) by omega]
    exact h
  have hGn : l + n ≤ grownCap w (l + n) c 21 := grownCap_ge w _ _ _
  obtain ⟨G, hG⟩ : ∃ G, G = grownCap w (l + n) c 21 := ⟨_, rfl⟩
  rw [← hG] at hrz hGn ⊢
  have hG63 : G ≤ 9223372036854775807 := by
    have := grownCap_le_maxLen w (l + n) c 21 (by unfold maxLen; omega)
    rw [← hG] at this
    unfold maxLen at this
    omega
  clear hold hck hG hcs hcl hi0 hz0 hz1 hz2
  go_enter Try.func43, Try.ntmps43
  cases a with
  | none =>
    have h0 := hnil rfl
    subst h0
    obtain rfl : l = 0 := by omega
    go_wp2_with (at_builtin; refine Lib.wpList_append_run _ rfl _ _ _ _ rfl _ _ rfl rfl _ _ (hrz _) ?_)
    all_goals (go_ret; exact ⟨rfl, rfl⟩)
  | some ad =>
    obtain ⟨ab, ao, asp⟩ := ad
    go_wp2_with (at_builtin; refine Lib.wpList_append_run _ rfl _ _ _ _ rfl _ _ rfl rfl _ _ (hrz _) ?_)
    all_goals (go_ret; exact ⟨rfl, rfl⟩)
end Go.Proofs.Ytlhebbhpcepfhaa
