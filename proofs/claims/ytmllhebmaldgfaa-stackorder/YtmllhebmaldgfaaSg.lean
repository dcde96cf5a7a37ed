/-
  Elements that leave a stack, plain.
-/
import Derived.Test.YtmllhebmaldgfaaSf
namespace Go.Proofs.Ytmllhebmaldgfaa
open Go.RowKit

/-- The last place under n at which p holds. -/
def lastI (p : Int → Bool) (L : List Int) : Nat → Option Nat
  | 0 => none
  | n + 1 => match L[n]? with
    | some x => if p x then some n else lastI p L n
    | none => none
theorem lastI_lt {p : Int → Bool} {L : List Int} : ∀ {n i : Nat}, lastI p L n = some i → i < n ∧ ∃ x, L[i]? = some x ∧ p x = true
  | 0, i, h => by simp [lastI] at h
  | n + 1, i, h => by
    rw [lastI] at h
    cases hx : L[n]? with
    | none => rw [hx] at h; cases h
    | some x =>
      rw [hx] at h
      simp only at h
      split at h
      · cases h
        exact ⟨by omega, x, hx, by assumption⟩
      · obtain ⟨h1, h2⟩ := lastI_lt h
        exact ⟨by omega, h2⟩

def popToI (ks : List Key) (L : List Int) (name : ByteArray) : Option Nat := lastI (fun id => namedM (calOf ks id) name) L L.length
def popToL (ks : List Key) (L : List Int) (name : ByteArray) : List Int := match popToI ks L name with
  | some i => L.take i
  | none => L

/-- How many stay, of the first n. -/
def leaveN (p : Int → Bool) (L : List Int) : Nat → Nat
  | 0 => 0
  | n + 1 => match L[n]? with
    | some x => if p x then leaveN p L n else n + 1
    | none => n + 1
theorem leaveN_le (p : Int → Bool) (L : List Int) : ∀ n, leaveN p L n ≤ n
  | 0 => Nat.le_refl _
  | n + 1 => by
    rw [leaveN]
    have := leaveN_le p L n
    split
    · split <;> omega
    · omega

def impM (c : Cal) (but : ByteArray) : Bool := amongM c 0 impT && !namedM c but
def thorM (c : Cal) : Bool := amongM c 0 impT || amongM c 0 partT

/-- How many stay behind Implied, behind Thorough. -/
def impN (ks : List Key) (L : List Int) (but : ByteArray) : Nat := leaveN (fun id => impM (calOf ks id) but) L L.length
def thorN (ks : List Key) (L : List Int) : Nat := leaveN (fun id => thorM (calOf ks id)) L L.length

end Go.Proofs.Ytmllhebmaldgfaa
