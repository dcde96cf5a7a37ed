import Derived.Test.YtmllhebmaldgfaaData
import Derived.Deep.RegionWith
/-
  Element.
-/
namespace Go.Proofs.Ytmllhebmaldgfaa
open Go.RowKit

def elemN (space : Int) (name : ByteArray) (l : List AttrM) (av : Value) : NodeM := { blankM 1 with space := space, name := name, av := av, attrs := l }
def tmpl : ByteArray := ⟨#[116, 101, 109, 112, 108, 97, 116, 101]⟩

theorem element_space {w : World} {base bA : Nat} {ns : List NodeM} {F : Nat → Prop} (h : ArS w base bA ns F) (space : Int) (name : ByteArray) (v : Value) (h0 : space < 0 ∨ 2 < space) :
    Calls Try.prog 27 #[.pointer (some ⟨bA, 0, none⟩), .int .i64 space, .string name, v] w fun e w' => e = .returned (.tuple #[.int .i64 0, .int .i64 1]) ∧ w = w' := by
  obtain ⟨bS, g, cap, h, hF⟩ := h
  have HM := hide (made_yes h)
  have h1 : (space != 0) = true := by rw [bne_iff_ne]; omega
  have h2 : (space != 1) = true := by rw [bne_iff_ne]; omega
  have h3 : (space != 2) = true := by rw [bne_iff_ne]; omega
  clear h hF h0
  go_enter Try.func27, Try.ntmps27
  go_wp2_with (go_at_call 60; refine (unhide HM).mono ?_; rintro e w' ⟨rfl, rfl⟩)
  go_ret2
  exact ⟨rfl, rfl⟩

/-- A name or an attribute too long, or too many. -/
def longE (name : ByteArray) (l : List AttrM) : Bool := longS name || decide (1024 < l.length) || l.any AttrM.long

set_option maxHeartbeats 1000000 in
theorem element_long {w : World} {base bA : Nat} {ns : List NodeM} {F : Nat → Prop} (h : ArS w base bA ns F) (space : Int) (name : ByteArray) (a : Option Addr) (cap : Nat) (l : List AttrM) (hl : AttrsIn w a l) (hn : l.length ≤ maxLen)
    (hs : 0 ≤ space ∧ space ≤ 2) (hlong : longE name l = true) :
    Calls Try.prog 27 #[.pointer (some ⟨bA, 0, none⟩), .int .i64 space, .string name, .slice a l.length cap] w fun e w' => e = .returned (.tuple #[.int .i64 0, .int .i64 2]) ∧ Below w.heap.size w w' := by
  obtain ⟨bS, g, cp, h, hF⟩ := h
  have HM := hide (made_yes h)
  have HL := hide (anyLong_any (w.alloc (.cells #[.string name] 9)) w.heap.size 1 [name] (one_cell_s w 9 name) (by simp))
  have hl1 := hl.below ((Below.refl _ w).alloc (Nat.le_refl _) (.cells #[.string name] 9))
  have HA := hide (anyLongAttr_any (w.alloc (.cells #[.string name] 9)) a cap l hl1 hn)
  have hb1 := (Below.refl _ w).alloc (Nat.le_refl _) (.cells #[.string name] 9)
  have HB1 := hide hb1
  have e1 : [name].any longS = longS name := by simp
  rw [e1] at HL
  clear h hF hl hl1 hb1 e1
  unfold maxLen at hn
  have hsp : space = 0 ∨ space = 1 ∨ space = 2 := by omega
  clear hs
  cases hnm : longS name with
  | true =>
    rw [hnm] at HL
    clear hnm hlong HA
    rcases hsp with rfl | rfl | rfl
    all_goals
      go_enter Try.func27, Try.ntmps27
      go_wp2_with (first
        | (go_at_call 60; refine (unhide HM).mono ?_; rintro e w' ⟨rfl, rfl⟩)
        | (go_at_call 77; refine (unhide HL).mono ?_; rintro e w' ⟨rfl, rfl⟩))
      go_ret2
      exact ⟨rfl, unhide HB1⟩
  | false =>
    rw [hnm] at HL
    by_cases hc : 1024 < l.length
    · clear hnm hlong HA
      have hc' : (1024 : Int) < (l.length : Int) := by omega
      rcases hsp with rfl | rfl | rfl
      all_goals
        go_enter Try.func27, Try.ntmps27
        go_wp2_with (first
          | (go_at_call 60; refine (unhide HM).mono ?_; rintro e w' ⟨rfl, rfl⟩)
          | (go_at_call 77; refine (unhide HL).mono ?_; rintro e w' ⟨rfl, rfl⟩))
        go_ret2
        exact ⟨rfl, unhide HB1⟩
    · have hla : l.any AttrM.long = true := by simpa [longE, hnm, hc] using hlong
      rw [hla] at HA
      clear hnm hlong hla
      have hc' : ¬ (1024 : Int) < (l.length : Int) := by omega
      rcases hsp with rfl | rfl | rfl
      all_goals
        go_enter Try.func27, Try.ntmps27
        go_wp2_with (first
          | (go_at_call 60; refine (unhide HM).mono ?_; rintro e w' ⟨rfl, rfl⟩)
          | (go_at_call 77; refine (unhide HL).mono ?_; rintro e w' ⟨rfl, rfl⟩)
          | (go_at_call 78; refine (unhide HA).mono ?_; rintro e w' ⟨rfl, hb⟩))
        go_ret2
        exact ⟨rfl, (unhide HB1).trans (hb.mono (by simp))⟩
end Go.Proofs.Ytmllhebmaldgfaa
