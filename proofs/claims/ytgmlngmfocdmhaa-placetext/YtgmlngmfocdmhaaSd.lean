import Derived.Test.YtgmlngmfocdmhaaPd
import Derived.Deep.RegionHeld3
/-
  A stack of package stack in memory, beside its arena; its calls that only look at the numbers.
-/
namespace Go.Proofs.Ytgmlngmfocdmhaa
open Go.RowKit

def footS (bK bP : Nat) (p : PartM) (k : Nat) : Prop := k = bK ∨ footP bP p k

section
variable {w w' : World} {base bK bP bA : Nat} {p : PartM} {F G : Nat → Prop}
end

section
variable {w w' w1 : World} {base bK bP bA : Nat} {L : List Int} {p : PartM} {F G : Nat → Prop}
end

def atM (L : List Int) (i : Int) : Int := if 0 ≤ i then (L[i.toNat]?).getD (-1) else -1
theorem atM_in {L : List Int} {i : Nat} {x : Int} (h : L[i]? = some x) : atM L (i : Int) = x := by simp [atM, h]
theorem atM_out {L : List Int} {i : Int} (h : i < 0 ∨ (L.length : Int) ≤ i) : atM L i = -1 := by
  unfold atM
  split
  · rw [List.getElem?_eq_none (by omega)]; rfl
  · rfl
def topM (L : List Int) : Int := atM L ((L.length : Int) - 1)

section
variable {w : World} {base bK bP bA : Nat} {L : List Int} {p : PartM} {F : Nat → Prop}

def findM (L : List Int) (x : Int) : Int := if x ∈ L then (L.idxOf x : Int) else -1
theorem idxOf_at {L : List Int} (hn : L.Nodup) {j : Nat} {x : Int} (h : L[j]? = some x) : L.idxOf x = j := by
  induction L generalizing j with
  | nil => simp at h
  | cons y L ih =>
    cases j with
    | zero => simp at h; subst h; simp
    | succ j =>
      have h' : L[j]? = some x := by simpa using h
      have hm : x ∈ L := List.mem_of_getElem? h'
      have hne : y ≠ x := by
        intro e; subst e
        exact (List.nodup_cons.1 hn).1 hm
      rw [List.idxOf_cons]
      have : (y == x) = false := by simpa using hne
      rw [this]
      simp only [cond_false]
      rw [ih (List.nodup_cons.1 hn).2 h']
theorem FindR.eq {x r : Int} (h : FindR L x r) (hn : L.Nodup) : r = findM L x := by
  rcases h with ⟨rfl, h⟩ | ⟨j, rfl, h⟩
  · rw [findM, if_neg h]
  · rw [findM, if_pos (List.mem_of_getElem? h), idxOf_at hn h]
theorem findM_in {x : Int} (h : x ∈ L) : ∃ j : Nat, findM L x = (j : Int) ∧ L[j]? = some x ∧ j < L.length := by
  refine ⟨L.idxOf x, if_pos h, ?_, List.idxOf_lt_length_of_mem h⟩
  rw [List.getElem?_eq_getElem (List.idxOf_lt_length_of_mem h), List.getElem_idxOf]
theorem findM_out {x : Int} (h : x ∉ L) : findM L x = -1 := if_neg h

end
end Go.Proofs.Ytgmlngmfocdmhaa
/-
  A stack of package stack: what its elements are called; elements pushed, popped, put in, swapped and taken out.
-/
namespace Go.Proofs.Ytgmlngmfocdmhaa
open Go.RowKit

structure Cal where
  space : Int
  name : ByteArray
def Cal.agg (c : Cal) : Value := .agg #[.int .i64 c.space, .string c.name]
def cal0 : Cal := ⟨0, emptyS⟩

/-- What the element of a number is called. -/
def elOf (ks : List Key) (id : Int) : Option Cal := match keyAt ks id with
  | some q => if q.kind = 1 then some ⟨q.space, q.name⟩ else none
  | none => none
def calOf (ks : List Key) (id : Int) : Cal := (elOf ks id).getD cal0

theorem elOf_none {ks : List Key} {id : Int} (h : keyAt ks id = none) : elOf ks id = none := by simp [elOf, h]
theorem elOf_key {ks : List Key} {id : Int} {q : Key} (h : keyAt ks id = some q) : elOf ks id = if q.kind = 1 then some ⟨q.space, q.name⟩ else none := by simp [elOf, h]
theorem elOf_nat {ks : List Key} {id : Int} (h : (elOf ks id).isSome = true) : ∃ i : Nat, id = (i : Int) ∧ i < ks.length := by
  cases hk : keyAt ks id with
  | none => rw [elOf_none hk] at h; cases h
  | some q =>
    obtain ⟨i, rfl, hi⟩ := keyAt_some hk
    exact ⟨i, rfl, (List.getElem?_eq_some_iff.1 hi).1⟩

/-- Each number of the stack is an element's, and stands there once. -/
structure Good (ks : List Key) (L : List Int) : Prop where
  nodup : L.Nodup
  el : ∀ x ∈ L, (elOf ks x).isSome = true

theorem Good.nil (ks : List Key) : Good ks [] := ⟨List.nodup_nil, fun x hx => by cases hx⟩
theorem Good.len {ks : List Key} {L : List Int} (h : Good ks L) : L.length ≤ ks.length := by
  have h1 : (L.map Int.toNat).Nodup := by
    have key : ∀ l : List Int, l.Nodup → (∀ x ∈ l, (elOf ks x).isSome = true) → (l.map Int.toNat).Nodup := by
      intro l
      induction l with
      | nil => intro _ _; simp
      | cons a l ih =>
        intro hn he
        rw [List.map_cons, List.nodup_cons]
        refine ⟨fun hm => ?_, ih (List.nodup_cons.1 hn).2 (fun x hx => he x (List.mem_cons_of_mem _ hx))⟩
        obtain ⟨y, hy, e⟩ := List.mem_map.1 hm
        obtain ⟨i, rfl, _⟩ := elOf_nat (he a List.mem_cons_self)
        obtain ⟨j, rfl, _⟩ := elOf_nat (he y (List.mem_cons_of_mem _ hy))
        simp at e
        subst e
        exact (List.nodup_cons.1 hn).1 hy
    exact key L h.nodup h.el
  have := List.Nodup.length_le_of_subset h1 (l₂ := List.range ks.length) (fun x hx => by
    obtain ⟨y, hy, rfl⟩ := List.mem_map.1 hx
    obtain ⟨i, rfl, hi⟩ := elOf_nat (h.el y hy)
    simpa using hi)
  simpa using this
theorem Good.cal {ks : List Key} {L : List Int} (h : Good ks L) {x : Int} (hx : x ∈ L) : elOf ks x = some (calOf ks x) := by
  have := h.el x hx
  unfold calOf
  cases he : elOf ks x with
  | none => rw [he] at this; cases this
  | some c => rfl
theorem Good.sub {ks : List Key} {L L2 : List Int} (h : Good ks L) (hs : L2.Sublist L) : Good ks L2 := ⟨h.nodup.sublist hs, fun x hx => h.el x (hs.subset hx)⟩

theorem two_block (w : World) (b : Nat) (v0 v1 x0 x1 : Value) (t : TypeId) (h : w.heap[b]? = some (.cells #[x0, x1] t (0, 0))) : ((w.setCell ⟨b, 0, none⟩ v0).setCell ⟨b, 1, none⟩ v1).heap[b]? = some (.cells #[v0, v1] t (0, 0)) := by
  have h0 := heap_setCell_same w b 0 #[x0, x1] t v0 h
  have h1 := heap_setCell_same _ b 1 _ t v1 h0
  simpa using h1
section
variable {w : World} {base bK bA : Nat} {ks : List Key} {L : List Int} {F : Nat → Prop}

end
end Go.Proofs.Ytgmlngmfocdmhaa
/-
  A stack of package stack: New, elements pushed, popped, put in, swapped and taken out.
-/
namespace Go.Proofs.Ytgmlngmfocdmhaa
open Go.RowKit

def enterE (ks : List Key) (L : List Int) (id : Int) : Int := if (elOf ks id).isSome then (if id ∈ L then 1 else 0) else 6
def pushL (ks : List Key) (L : List Int) (id : Int) : List Int := if enterE ks L id = 0 then L ++ [id] else L
def popL (L : List Int) : List Int := L.take (L.length - 1)
def removeE (L : List Int) (id : Int) : Int := if id ∈ L then 0 else 6
def removeL (L : List Int) (id : Int) : List Int := if id ∈ L then L.take (L.idxOf id) ++ L.drop (L.idxOf id + 1) else L
def putE (ks : List Key) (L : List Int) (i id : Int) : Int := if enterE ks L id = 0 then (if i < 0 ∨ (L.length : Int) < i then 1 else 0) else enterE ks L id
def putL (ks : List Key) (L : List Int) (i id : Int) : List Int := if putE ks L i id = 0 then L.take i.toNat ++ id :: L.drop i.toNat else L
def swapE (ks : List Key) (L : List Int) (old id : Int) : Int := if old ∈ L then enterE ks L id else 6
def swapL (ks : List Key) (L : List Int) (old id : Int) : List Int := if swapE ks L old id = 0 then L.set (L.idxOf old) id else L

section
variable {w : World} {base bK bA : Nat} {ks : List Key} {L : List Int} {F FA : Nat → Prop}

end
end Go.Proofs.Ytgmlngmfocdmhaa
/-
  A stack of package stack: New, elements popped, put in, swapped and taken out.
-/
namespace Go.Proofs.Ytgmlngmfocdmhaa
open Go.RowKit

theorem topM_nil : topM [] = -1 := rfl
theorem topM_of {L : List Int} (h : L ≠ []) : ∃ x, L[L.length - 1]? = some x ∧ topM L = x := by
  have hl := List.length_pos_iff.2 h
  refine ⟨L[L.length - 1], List.getElem?_eq_getElem (by omega), ?_⟩
  unfold topM
  rw [show ((L.length : Int) - 1) = ((L.length - 1 : Nat) : Int) by omega]
  exact atM_in (List.getElem?_eq_getElem (by omega))

section
variable {w : World} {base bK bA : Nat} {ks : List Key} {L : List Int} {F FA : Nat → Prop}

theorem Good.pos (hg : Good ks L) {x : Int} (hx : x ∈ L) : 0 ≤ x := by
  obtain ⟨i, rfl, _⟩ := elOf_nat (hg.el x hx)
  omega

end
end Go.Proofs.Ytgmlngmfocdmhaa
