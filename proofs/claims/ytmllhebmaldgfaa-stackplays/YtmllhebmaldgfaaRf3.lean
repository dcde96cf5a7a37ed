import Derived.Test.YtmllhebmaldgfaaRf
import Derived.Deep.LoopGhost
/-
  The document's own arena: a child's place, an attribute's place, long texts.
-/
namespace Go.Proofs.Ytmllhebmaldgfaa
open Go.RowKit

section
variable {w : World} {base bR g cap : Nat} {rs : List OneR}

theorem refLong_any (w : World) (b cp : Nat) (ss : List ByteArray) (hc : ∀ j s, ss[j]? = some s → w.cell? ⟨b, j, none⟩ = some (.string s)) (hl : ss.length ≤ 1000) :
    Calls Try.prog 96 #[.slice (some ⟨b, 0, none⟩) ss.length cp] w fun e w' => e = .returned (.bool (ss.any longS)) ∧ w = w' := by
  have HC := hide hc
  clear hc
  go_enter Try.func96, Try.ntmps96
  go_wp2
  go_loopg [3] ss.length (fun k s2 wx => ∃ i : Nat, s2 = .int .i64 i ∧ i + k = ss.length ∧ (∀ j s, j < i → ss[j]? = some s → longS s = false) ∧ wx = w)
  case atStart => exact ⟨0, rfl, by omega, fun j s hj => by omega, rfl⟩
  case round =>
    obtain ⟨i, rfl, hik, hall, rfl⟩ := hrel
    have HA := hide hall
    clear hall
    by_cases hi : i < ss.length
    · have hs : ss[i]? = some ss[i] := List.getElem?_eq_getElem hi
      generalize ss[i] = s at hs
      have hcs := (unhide HC) i s hs
      have hiz : (i : Int) < (ss.length : Int) := by omega
      by_cases hlong : 1048576 < s.size
      · have hlz : (1048576 : Int) < (s.size : Int) := by omega
        go_wp2
        go_ret
        refine ⟨?_, rfl⟩
        have : ss.any longS = true := List.any_eq_true.2 ⟨s, List.mem_of_getElem? hs, by simp [longS, hlong]⟩
        rw [this]; rfl
      · have hlz : ¬ (1048576 : Int) < (s.size : Int) := by omega
        go_wp2
        go_roundg (gk - 1)
        case measure => omega
        case rel => exact ⟨i + 1, by go_num, by omega, none_long ss i s hs (unhide HA) (by simp [longS]; omega), rfl⟩
    · have hiz : ¬ (i : Int) < (ss.length : Int) := by omega
      go_wp2
      go_ret
      refine ⟨?_, rfl⟩
      have : ss.any longS = false := any_long_no (fun j s hj hs => (unhide HA) j s (by omega) hs)
      rw [this]; rfl

end
end Go.Proofs.Ytmllhebmaldgfaa
