import Derived.Test.YtmllhebmaldgfaaRf7
/-
  The document's own arena: elements, first what is refused.
-/
namespace Go.Proofs.Ytmllhebmaldgfaa
open Go.RowKit

section
variable {w w' : World} {base bR : Nat} {os : List OneM} {G : Nat → Prop}

theorem refElement_space (space : Int) (name : ByteArray) (v : Value) (h0 : space < 0 ∨ 2 < space) :
    Calls Try.prog 36 #[.pointer (some ⟨bR, 0, none⟩), .int .i64 space, .string name, v] w fun e w' => e = .returned (.tuple #[.int .i64 0, .int .i64 1]) ∧ w = w' := by
  rcases h0 with h0 | h0
  · go_enter Try.func36, Try.ntmps36
    go_wp2
    go_ret2
    exact ⟨rfl, rfl⟩
  · have h1 : ¬ space < 0 := by omega
    go_enter Try.func36, Try.ntmps36
    go_wp2
    go_ret2
    exact ⟨rfl, rfl⟩

theorem refElement_many (space : Int) (name : ByteArray) (a : Option Addr) (cap n : Nat) (hs : 0 ≤ space ∧ space ≤ 2) (hn : n ≤ maxLen) (h : 1024 < n ∨ longS name = true) :
    Calls Try.prog 36 #[.pointer (some ⟨bR, 0, none⟩), .int .i64 space, .string name, .slice a n cap] w fun e w' => e = .returned (.tuple #[.int .i64 0, .int .i64 2]) ∧ w = w' := by
  have h1 : ¬ space < 0 := by omega
  have h2 : ¬ 2 < space := by omega
  unfold maxLen at hn
  unfold longS at h
  by_cases hc : 1024 < n
  · have hc' : (1024 : Int) < (n : Int) := by omega
    go_enter Try.func36, Try.ntmps36
    go_wp2
    go_ret2
    exact ⟨rfl, rfl⟩
  · have hc' : ¬ (1024 : Int) < (n : Int) := by omega
    have hl : 1048576 < name.size := by simpa [hc] using h
    have hl' : (1048576 : Int) < (name.size : Int) := by omega
    go_enter Try.func36, Try.ntmps36
    go_wp2
    go_ret2
    exact ⟨rfl, rfl⟩

end
end Go.Proofs.Ytmllhebmaldgfaa
