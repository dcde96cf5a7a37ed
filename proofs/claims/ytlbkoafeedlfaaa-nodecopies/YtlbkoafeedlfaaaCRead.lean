/-
  The calls of package node that only read a little: made, has, Len, isParent, Host, over, blank.
-/
import Derived.Test.YtlbkoafeedlfaaaRows
import Derived.Test.YtlbkoafeedlfaaaCMem
import Derived.WalkLawsBesides
namespace Go.Proofs.Ytlbkoafeedlfaaa
open Go.RowKit
variable {w : World} {base bA bS g cap : Nat} {ns : List NodeM}

theorem made_yes (h : Ar w base bA bS g cap ns) : Calls Try.prog 53 #[.pointer (some ⟨bA, 0, none⟩)] w fun e w' => e = .returned (.bool true) ∧ w = w' := by
  have hA := h.cA
  clear h
  go_enter Try.func53, Try.ntmps53
  go_wp2
  go_ret
  exact ⟨rfl, rfl⟩

def hasM (ns : List NodeM) (k : Int) : Bool := decide (0 ≤ k ∧ k < ns.length)

theorem has_any (h : Ar w base bA bS g cap ns) (k : Int) : Calls Try.prog 54 #[.pointer (some ⟨bA, 0, none⟩), .int .i64 k] w fun e w' => e = .returned (.bool (hasM ns k)) ∧ w = w' := by
  have hA := h.cA
  have hS := h.cS
  have hn := h.most
  clear h
  go_enter Try.func54, Try.ntmps54
  go_wp2
  all_goals go_ret
  · refine ⟨?_, rfl⟩
    have h0 : 0 ≤ k := by assumption
    simp [hasM, h0]
  · refine ⟨?_, rfl⟩
    have h0 : k < 0 := by assumption
    have : ¬ (0 ≤ k ∧ k < ns.length) := by omega
    simp [hasM, this]

theorem len_any (h : Ar w base bA bS g cap ns) : Calls Try.prog 17 #[.pointer (some ⟨bA, 0, none⟩)] w fun e w' => e = .returned (.int .i64 ns.length) ∧ w = w' := by
  have hA := h.cA
  have hS := h.cS
  have hn := h.most
  clear h
  go_enter Try.func17, Try.ntmps17
  go_wp2
  go_ret
  exact ⟨rfl, rfl⟩

def parentM (k : Int) : Bool := k == 0 || k == 1 || k == 5

theorem isParent_any (k : Int) : Calls Try.prog 129 #[.int .i64 k] w fun e w' => e = .returned (.bool (parentM k)) ∧ w = w' := by
  go_enter Try.func129, Try.ntmps129
  go_wp2
  all_goals go_ret
  all_goals refine ⟨?_, rfl⟩
  all_goals simp [parentM, *]

def hostM (ns : List NodeM) (k : Int) : Int := if 0 < k ∧ k < ns.length ∧ (ns[k.toNat - 1]?).map (·.inner) = some k then k - 1 else -1

theorem host_any (h : Ar w base bA bS g cap ns) (k : Int) : Calls Try.prog 51 #[.pointer (some ⟨bA, 0, none⟩), .int .i64 k] w fun e w' => e = .returned (.int .i64 (hostM ns k)) ∧ w = w' := by
  have hA := h.cA
  have hS := h.cS
  have hn := h.most
  by_cases h1 : 0 < k
  · by_cases h2 : k < ns.length
    · have hlt : k.toNat - 1 < ns.length := by omega
      obtain ⟨n, hi⟩ : ∃ n, ns[k.toNat - 1]? = some n := ⟨_, List.getElem?_eq_getElem hlt⟩
      have hc := (h.cells12 hi).2.2.2.2.2.2.2.2.2.2.2
      have hM : hostM ns k = if n.inner = k then k - 1 else -1 := by simp [hostM, h1, h2, hi]
      rw [hM]
      clear hM hi h
      have hlt2 : k - 1 < ns.length := by omega
      by_cases h3 : n.inner = k
      · have h4 : (n.inner != k) = false := by simp [h3]
        go_enter Try.func51, Try.ntmps51
        go_wp2
        go_ret
        exact ⟨rfl, rfl⟩
      · have h4 : (n.inner != k) = true := by simp [h3]
        go_enter Try.func51, Try.ntmps51
        go_wp2
        go_ret
        exact ⟨rfl, rfl⟩
    · have hM : hostM ns k = -1 := by simp [hostM, h2]
      rw [hM]
      clear hM h
      go_enter Try.func51, Try.ntmps51
      go_wp2
      go_ret
      exact ⟨rfl, rfl⟩
  · have hM : hostM ns k = -1 := by simp [hostM, h1]
    rw [hM]
    clear hM h
    go_enter Try.func51, Try.ntmps51
    go_wp2
    go_ret
    exact ⟨rfl, rfl⟩

/-- What is right above node i. -/
def overM (ns : List NodeM) (i : Nat) (n : NodeM) : Int := if n.kind = 5 then hostM ns i else n.parent

theorem over_any (h : Ar w base bA bS g cap ns) (i : Nat) (n : NodeM) (hi : ns[i]? = some n) :
    Calls Try.prog 104 #[.pointer (some ⟨bA, 0, none⟩), .int .i64 i] w fun e w' => e = .returned (.int .i64 (overM ns i n)) ∧ w = w' := by
  have hlt : i < ns.length := (List.getElem?_eq_some_iff.1 hi).1
  have hA := h.cA
  have hS := h.cS
  have hn := h.most
  have hc0 := (h.cells12 hi).1
  have hc6 := (h.cells12 hi).2.2.2.2.2.2.1
  have hh := host_any h i
  by_cases h5 : n.kind = 5
  · have h4 : (n.kind == 5) = true := by simp [h5]
    have hM : overM ns i n = hostM ns i := by simp [overM, h5]
    rw [hM]
    clear hM h5 h hi hc6
    go_enter Try.func104, Try.ntmps104
    go_wp2_with (go_at_call 51; refine hh.mono ?_; rintro e w' ⟨rfl, rfl⟩)
    go_ret
    exact ⟨rfl, rfl⟩
  · have h4 : (n.kind == 5) = false := by simp [h5]
    have hM : overM ns i n = n.parent := by simp [overM, h5]
    rw [hM]
    clear hM h5 h hi hh
    go_enter Try.func104, Try.ntmps104
    go_wp2
    go_ret
    exact ⟨rfl, rfl⟩

/-- The cells of a node of a kind without links. -/
def blankM (k : Int) : NodeM := { kind := k, space := 0, name := ⟨#[]⟩, av := .slice none 0 0, data := ⟨#[]⟩, system := ⟨#[]⟩, parent := -1, first := -1, last := -1, prev := -1, next := -1, inner := -1, attrs := [] }

theorem blank_any (k : Int) : Calls Try.prog 36 #[.int .i64 k] w fun e w' =>
    e = .returned (.agg #[.int .i64 k, .int .i64 0, .string ⟨#[]⟩, .slice none 0 0, .string ⟨#[]⟩, .string ⟨#[]⟩, .int .i64 (-1), .int .i64 (-1), .int .i64 (-1), .int .i64 (-1), .int .i64 (-1), .int .i64 (-1)]) ∧
      w.alloc (.cells #[.int .i64 k, .int .i64 0, .string ⟨#[]⟩, .slice none 0 0, .string ⟨#[]⟩, .string ⟨#[]⟩, .int .i64 (-1), .int .i64 (-1), .int .i64 (-1), .int .i64 (-1), .int .i64 (-1), .int .i64 (-1)] 37) = w' := by
  go_enter Try.func36, Try.ntmps36
  go_wp2
  exact bodyPost_ret (v := .agg #[.int .i64 k, .int .i64 0, .string ⟨#[]⟩, .slice none 0 0, .string ⟨#[]⟩, .string ⟨#[]⟩, .int .i64 (-1), .int .i64 (-1), .int .i64 (-1), .int .i64 (-1), .int .i64 (-1), .int .i64 (-1)]) (by simp [results, Try.results36, go_sem]) rfl ⟨rfl, rfl⟩
end Go.Proofs.Ytlbkoafeedlfaaa
