import Derived.Test.YtmllhebmaldgfaaRows
import Derived.Test.YtmllhebmaldgfaaMem
import Derived.WalkLawsBesides
/-
  The calls of package node that only read a little: made, has, Len, isParent, Host, over, blank.
-/
namespace Go.Proofs.Ytmllhebmaldgfaa
open Go.RowKit
variable {w : World} {base bA bS g cap : Nat} {ns : List NodeM}

theorem made_yes (h : Ar w base bA bS g cap ns) : Calls Try.prog 60 #[.pointer (some ⟨bA, 0, none⟩)] w fun e w' => e = .returned (.bool true) ∧ w = w' := by
  have hA := h.cA
  clear h
  go_enter Try.func60, Try.ntmps60
  go_wp2
  go_ret
  exact ⟨rfl, rfl⟩

def hasM (ns : List NodeM) (k : Int) : Bool := decide (0 ≤ k ∧ k < ns.length)

theorem has_any (h : Ar w base bA bS g cap ns) (k : Int) : Calls Try.prog 61 #[.pointer (some ⟨bA, 0, none⟩), .int .i64 k] w fun e w' => e = .returned (.bool (hasM ns k)) ∧ w = w' := by
  have hA := h.cA
  have hS := h.cS
  have hn := h.most
  clear h
  go_enter Try.func61, Try.ntmps61
  go_wp2
  all_goals go_ret
  · refine ⟨?_, rfl⟩
    have h0 : 0 ≤ k := by assumption
    simp [hasM, h0]
  · refine ⟨?_, rfl⟩
    have h0 : k < 0 := by assumption
    have : ¬ (0 ≤ k ∧ k < ns.length) := by omega
    simp [hasM, this]

theorem len_any (h : Ar w base bA bS g cap ns) : Calls Try.prog 17 #[.pointer (some ⟨bA, 0, none⟩)] w fun e w' => e = .returned (.int .i64 ns.length) ∧ w = w' := by
  have hA := h.cA
  have hS := h.cS
  have hn := h.most
  clear h
  go_enter Try.func17, Try.ntmps17
  go_wp2
  go_ret
  exact ⟨rfl, rfl⟩

/-- The cells of a node of a kind without links. -/
def blankM (k : Int) : NodeM := { kind := k, space := 0, name := ⟨#[]⟩, av := .slice none 0 0, data := ⟨#[]⟩, system := ⟨#[]⟩, parent := -1, first := -1, last := -1, prev := -1, next := -1, inner := -1, attrs := [] }

theorem blank_any (k : Int) : Calls Try.prog 76 #[.int .i64 k] w fun e w' =>
    e = .returned (.agg #[.int .i64 k, .int .i64 0, .string ⟨#[]⟩, .slice none 0 0, .string ⟨#[]⟩, .string ⟨#[]⟩, .int .i64 (-1), .int .i64 (-1), .int .i64 (-1), .int .i64 (-1), .int .i64 (-1), .int .i64 (-1)]) ∧
      w.alloc (.cells #[.int .i64 k, .int .i64 0, .string ⟨#[]⟩, .slice none 0 0, .string ⟨#[]⟩, .string ⟨#[]⟩, .int .i64 (-1), .int .i64 (-1), .int .i64 (-1), .int .i64 (-1), .int .i64 (-1), .int .i64 (-1)] 44) = w' := by
  go_enter Try.func76, Try.ntmps76
  go_wp2
  exact bodyPost_ret (v := .agg #[.int .i64 k, .int .i64 0, .string ⟨#[]⟩, .slice none 0 0, .string ⟨#[]⟩, .string ⟨#[]⟩, .int .i64 (-1), .int .i64 (-1), .int .i64 (-1), .int .i64 (-1), .int .i64 (-1), .int .i64 (-1)]) (by simp [results, Try.results76, go_sem]) rfl ⟨rfl, rfl⟩
end Go.Proofs.Ytmllhebmaldgfaa
