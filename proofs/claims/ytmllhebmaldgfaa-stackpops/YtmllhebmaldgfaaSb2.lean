/-
  What is kept is told.
-/
import Derived.Test.YtmllhebmaldgfaaSb
namespace Go.Proofs.Ytmllhebmaldgfaa
open Go.RowKit

section
variable {w : World} {base bK bA : Nat} {ks : List Key} {L : List Int} {F FA : Nat → Prop}
set_option maxHeartbeats 4000000 in
/-- What is kept is told. -/
theorem look_there {bP bM : Nat} {p : PartM} {v : Value} {ms : List (Option Cal)} (h : StkAt w base bK bP bM bA p v ms) {i : Nat} {c : Cal} (hi : ms[i]? = some (some c)) : Calls Try.prog 68 #[.pointer (some ⟨bK, 0, none⟩), .int .i64 (i : Int)] w fun e w' =>
    e = .returned (.tuple #[kV c, .bool true]) ∧ Below w.heap.size w w' := by
  have hb0 := below_new w (.cells zRow 103)
  have h' := h.below hb0
  have HM := hide (made_s h')
  obtain ⟨s0, s1, s2⟩ := h'.cells
  obtain ⟨m0, _⟩ := h'.memo.cells
  obtain ⟨g, cap, rfl, hat⟩ := h'.memo.at hi
  have hlt : (i : Int) < (ms.length : Int) := by have := (List.getElem?_eq_some_iff.1 hi).1; omega
  have hi0 : (0 : Int) ≤ (i : Int) := by omega
  have hin0 : ¬ (i : Int) < 0 := by omega
  have a0 := hat 0 (by omega)
  have a1 := hat 1 (by omega)
  have a2 := hat 2 (by omega)
  have a3 := hat 3 (by omega)
  have a4 := hat 4 (by omega)
  have a5 := hat 5 (by omega)
  have a6 := hat 6 (by omega)
  have a7 := hat 7 (by omega)
  have hgne : g ≠ w.heap.size := by
    have := (h.memo.own.lt g rfl).2
    omega
  have hkv : kV c = .agg #[.int .i64 c.space, .string c.name, .bool (bAt c 5 0), .bool (bAt c 5 1), .bool (bAt c 5 2), .bool (bAt c 5 3), .bool (bAt c 5 4), .bool true] := rfl
  rw [hkv]
  clear hkv
  obtain ⟨cs, cn⟩ := c
  simp only [eCells, kRow, Nat.add_zero, List.getElem?_cons_zero, List.getElem?_cons_succ] at a0 a1 a2 a3 a4 a5 a6 a7
  unfold zRow at *
  generalize bAt ⟨cs, cn⟩ 5 0 = e0 at *
  generalize bAt ⟨cs, cn⟩ 5 1 = e1 at *
  generalize bAt ⟨cs, cn⟩ 5 2 = e2 at *
  generalize bAt ⟨cs, cn⟩ 5 3 = e3 at *
  generalize bAt ⟨cs, cn⟩ 5 4 = e4 at *
  clear h h' hi hat hb0
  go_enter Try.func68, Try.ntmps68
  go_wp2_with (go_at_call 55; refine (unhide HM).mono ?_; rintro e w1 ⟨rfl, rfl⟩)
  exact bodyPost_ret (v := .tuple #[.agg #[.int .i64 cs, .string cn, .bool e0, .bool e1, .bool e2, .bool e3, .bool e4, .bool true], .bool true]) (known_ret _ w.heap.size _ rfl (heap_alloc_new w _) _ _ rfl rfl) rfl ⟨rfl, below_new _ _⟩
end
end Go.Proofs.Ytmllhebmaldgfaa
