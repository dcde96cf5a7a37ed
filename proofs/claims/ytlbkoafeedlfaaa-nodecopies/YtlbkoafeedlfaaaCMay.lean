/-
  Above at all numbers; covers; whether a link may be made.
-/
import Derived.Test.YtlbkoafeedlfaaaCAbove2
import Derived.Test.YtlbkoafeedlfaaaCJoin
namespace Go.Proofs.Ytlbkoafeedlfaaa
open Go.RowKit

set_option maxHeartbeats 1000000 in
theorem above_no {w : World} {base bA bS g cap : Nat} {ns : List NodeM} (h : Ar w base bA bS g cap ns) (id other : Int) (hno : (hasM ns id && hasM ns other) = false) :
    Calls Try.prog 20 #[.pointer (some ⟨bA, 0, none⟩), .int .i64 id, .int .i64 other] w fun e w' => e = .returned (.bool false) ∧ Below w.heap.size w w' := by
  have h2 := (h.alloc (.cells #[.int .i64 other] 3)).alloc (.cells #[.bool false] 4)
  have HB := hide (((Below.refl _ w).alloc (Nat.le_refl _) (.cells #[.int .i64 other] 3)).alloc (by simp) (.cells #[.bool false] 4))
  have HH1 := hide (has_any h2 id)
  have HH2 := hide (has_any h2 other)
  clear h2 h
  cases hi : hasM ns id with
  | false =>
    rw [hi] at HH1
    clear hno
    go_enter Try.func20, Try.ntmps20
    go_wp2_with (go_at_call 54; refine (unhide HH1).mono ?_; rintro e w' ⟨rfl, rfl⟩)
    exact bodyPost_ret (v := .bool false) (by simp [results, Try.results20, go_sem]) rfl ⟨rfl, unhide HB⟩
  | true =>
    have ho : hasM ns other = false := by simpa [hi] using hno
    rw [hi] at HH1
    rw [ho] at HH2
    clear hno hi ho
    go_enter Try.func20, Try.ntmps20
    go_wp2_with fail
    refine (unhide HH1).mono ?_
    rintro e w' ⟨rfl, rfl⟩
    go_wp2_with fail
    refine (unhide HH2).mono ?_
    rintro e w' ⟨rfl, rfl⟩
    go_wp2
    exact bodyPost_ret (v := .bool false) (by simp [results, Try.results20, go_sem]) rfl ⟨rfl, unhide HB⟩

theorem above_yes {w : World} {base bA bS g cap : Nat} {ns : List NodeM} (h : Ar w base bA bS g cap ns) (i : Nat) (hi : i < ns.length) (other : Int) (path : List Nat) (hpath : PathOf (upF ns) i path) :
    Calls Try.prog 20 #[.pointer (some ⟨bA, 0, none⟩), .int .i64 i, .int .i64 other] w fun e w' => e = .returned (.bool (inPath path other)) ∧ Below w.heap.size w w' := by
  by_cases ho : 0 ≤ other ∧ other < ns.length
  · exact callsIn_wide.1 (above_in h i hi other ho path hpath)
  · have e : inPath path other = false := by
      simp only [inPath, List.any_eq_false]
      intro x hx e
      have h1 := path_lt hpath x hx
      have h2 : (x : Int) = other := by simpa using e
      omega
    rw [e]
    exact above_no h i other (by simp [hasM, hi]; omega)

def coversM (i : Nat) (n : NodeM) (p : Nat) (path : List Nat) : Bool := if n.first = -1 ∧ n.inner = -1 then i == p else inPath path i

set_option maxHeartbeats 1000000 in
theorem covers_any {w : World} {base bA bS g cap : Nat} {ns : List NodeM} (h : Ar w base bA bS g cap ns) (i : Nat) (n : NodeM) (hi : ns[i]? = some n) (p : Nat) (hp : p < ns.length) (path : List Nat) (hpath : PathOf (upF ns) p path) :
    Calls Try.prog 130 #[.pointer (some ⟨bA, 0, none⟩), .int .i64 i, .int .i64 p] w fun e w' => e = .returned (.bool (coversM i n p path)) ∧ Below w.heap.size w w' := by
  have hlt : i < ns.length := (List.getElem?_eq_some_iff.1 hi).1
  have hm := h.most
  obtain ⟨c0, c1, c2, c3, c4, c5, c6, c7, c8, c9, c10, c11⟩ := h.cells12 hi
  obtain ⟨ao, co, hav, _⟩ : ∃ a c, n.av = .slice a n.attrs.length c ∧ True := by
    rcases (h.attrs i n hi).2 with ⟨e, h0⟩ | ⟨g', off', cap', cur, e, _⟩
    · exact ⟨Option.none, 0, by rw [e, h0], trivial⟩
    · exact ⟨_, _, e, trivial⟩
  rw [hav] at c3
  have hA := h.cA
  have hS := h.cS
  have HA := hide (above_yes (h.alloc (.cells #[.int .i64 n.kind, .int .i64 n.space, .string n.name, .slice ao n.attrs.length co, .string n.data, .string n.system, .int .i64 n.parent, .int .i64 n.first, .int .i64 n.last, .int .i64 n.prev, .int .i64 n.next, .int .i64 n.inner] 37)) p hp i path hpath)
  have HB := hide ((Below.refl _ w).alloc (Nat.le_refl _) (.cells #[.int .i64 n.kind, .int .i64 n.space, .string n.name, .slice ao n.attrs.length co, .string n.data, .string n.system, .int .i64 n.parent, .int .i64 n.first, .int .i64 n.last, .int .i64 n.prev, .int .i64 n.next, .int .i64 n.inner] 37))
  clear h hi hpath hav
  by_cases h1 : n.first = -1
  · by_cases h2 : n.inner = -1
    · have e : coversM i n p path = ((i : Int) == (p : Int)) := by
        simp only [coversM, h1, h2, and_self, if_true]
        rw [Bool.eq_iff_iff]; simp; omega
      rw [e]
      have f1 : (n.first == -1) = true := by simp [h1]
      have f2 : (n.inner == -1) = true := by simp [h2]
      clear e h1 h2 HA
      go_enter Try.func130, Try.ntmps130
      go_wp2
      go_ret
      exact ⟨rfl, unhide HB⟩
    · have e : coversM i n p path = inPath path i := by simp [coversM, h2]
      rw [e]
      have f1 : (n.first == -1) = true := by simp [h1]
      have f2 : (n.inner == -1) = false := by simp [h2]
      clear e h1 h2
      go_enter Try.func130, Try.ntmps130
      go_wp2_with (go_at_call 20; refine (unhide HA).mono ?_; rintro e w' ⟨rfl, hb⟩)
      go_ret
      exact ⟨rfl, (unhide HB).trans (hb.mono (by simp))⟩
  · have e : coversM i n p path = inPath path i := by simp [coversM, h1]
    rw [e]
    have f1 : (n.first == -1) = false := by simp [h1]
    clear e h1
    go_enter Try.func130, Try.ntmps130
    go_wp2_with (go_at_call 20; refine (unhide HA).mono ?_; rintro e w' ⟨rfl, hb⟩)
    go_ret
    exact ⟨rfl, (unhide HB).trans (hb.mono (by simp))⟩

/-- The cells of a copied node. -/
def copyCells (n : NodeM) (ao : Option Addr) (co : Nat) : Array Value := #[.int .i64 n.kind, .int .i64 n.space, .string n.name, .slice ao n.attrs.length co, .string n.data, .string n.system, .int .i64 n.parent, .int .i64 n.first, .int .i64 n.last, .int .i64 n.prev, .int .i64 n.next, .int .i64 n.inner]

theorem av_form {w : World} {base bA bS g cap : Nat} {ns : List NodeM} (h : Ar w base bA bS g cap ns) {i : Nat} {n : NodeM} (hi : ns[i]? = some n) : ∃ a c, n.av = .slice a n.attrs.length c := by
  rcases (h.attrs i n hi).2 with ⟨e, h0⟩ | ⟨g', off', cap', cur, e, _⟩
  · exact ⟨Option.none, 0, by rw [e, h0]⟩
  · exact ⟨_, _, e⟩

set_option maxHeartbeats 2000000 in
/-- One of the three is no node. -/
theorem mayLink_none {w : World} {base bA bS g cap : Nat} {ns : List NodeM} (h : Ar w base bA bS g cap ns) (p c b : Int) (hno : (hasM ns p && hasM ns c && (b == -1 || hasM ns b)) = false) :
    Calls Try.prog 91 #[.pointer (some ⟨bA, 0, none⟩), .int .i64 p, .int .i64 c, .int .i64 b] w fun e w' => e = .returned (.int .i64 6) ∧ w = w' := by
  have HM := hide (made_yes h)
  have HH := hide (fun k => has_any h k)
  clear h
  cases hp : hasM ns p with
  | false =>
    go_enter Try.func91, Try.ntmps91
    go_wp2_with (first
      | (go_at_call 53; refine (unhide HM).mono ?_; rintro e w' ⟨rfl, rfl⟩)
      | (go_at_call 54; refine (unhide HH _).mono ?_; rintro e w' ⟨rfl, rfl⟩))
    go_ret
    exact ⟨rfl, rfl⟩
  | true =>
    cases hc : hasM ns c with
    | false =>
      go_enter Try.func91, Try.ntmps91
      go_wp2_with (first
        | (go_at_call 53; refine (unhide HM).mono ?_; rintro e w' ⟨rfl, rfl⟩)
        | (go_at_call 54; refine (unhide HH _).mono ?_; rintro e w' ⟨rfl, rfl⟩))
      go_ret
      exact ⟨rfl, rfl⟩
    | true =>
      have h1 : (b == -1) = false ∧ hasM ns b = false := by simpa [hp, hc] using hno
      obtain ⟨h1, h2⟩ := h1
      have h1' : (b != -1) = true := by simpa using h1
      go_enter Try.func91, Try.ntmps91
      go_wp2_with (first
        | (go_at_call 53; refine (unhide HM).mono ?_; rintro e w' ⟨rfl, rfl⟩)
        | (go_at_call 54; refine (unhide HH _).mono ?_; rintro e w' ⟨rfl, rfl⟩))
      go_ret
      exact ⟨rfl, rfl⟩

/-- What is asked of two nodes that are there: a kind that can't be; a link that can't be; a place that can't be. -/
def mayM (ns : List NodeM) (p : Nat) (np : NodeM) (c : Nat) (nc : NodeM) (b : Int) (path : List Nat) : Int :=
  if parentM np.kind = false ∨ nc.kind = 0 ∨ nc.kind = 5 then 10
  else if nc.parent ≠ -1 ∨ coversM c nc p path = true then 11
  else if b ≠ -1 ∧ (ns[b.toNat]?).map (·.parent) ≠ some (p : Int) then 1 else 0
end Go.Proofs.Ytlbkoafeedlfaaa
