import Derived.Test.YtgmlngmfocdmhaaYa
import Derived.Test.YtgmlngmfocdmhaaNa
import Derived.Deep.LoopGhost
/-
  Package place: atEnd, isOf, there.
-/
namespace Go.Proofs.Ytgmlngmfocdmhaa
open Go.RowKit

theorem results_cell {fn : Func} {p : Tmp} {ty : TypeId} (h : fn.results = #[.cell p ty]) (tmps : Array Value) (P : Program) (w : World) :
    (results fn tmps).run P w = ((asAddr (tmps.getD p undef)).run P w).andThen fun a w₁ => (loadVar ty a).run P w₁ := by
  simp only [results, h]
  simp [Sem.run_bind, Result.andThen]
theorem spot_ret1 {f : Func} {p : Tmp} (hr : f.results = #[.cell p 29]) {W : World} {b : Nat} {x y : Int} (h : Box2 W b x y) (tmps : Array Value) (hp : tmps.getD p undef = .pointer (some ⟨b, 0, none⟩)) :
    (results f tmps).run Try.prog W = .ok (spotV x y) W := by
  obtain ⟨c0, c1, _⟩ := h.cells
  rw [results_cell hr tmps Try.prog W, hp]
  simp [go_sem, c0, c1, spotV]

theorem atEnd_any (w : World) (id : Int) : Calls Try.prog 29 #[.int .i64 id] w fun e w' => e = .returned (spotV id (-1)) ∧ Below w.heap.size w w' := by
  go_enter Try.func29, Try.ntmps29
  go_wp2
  exact bodyPost_ret (spot_ret1 (p := 2) Try.results29 (b := w.heap.size) (Box2.new w id (-1)) _ rfl) rfl ⟨rfl, below_new w _⟩

def isOfM (n : NodeM) (l : List ByteArray) : Bool := n.kind == 1 && n.space == 0 && hasT l n.name
def NumsAt (w : World) (b : Nat) (l : List Int) : Prop := ∀ j x, l[j]? = some x → w.cell? ⟨b, j, none⟩ = some (.int .i64 x)
set_option maxHeartbeats 1000000 in
theorem there_any {w : World} {base bA : Nat} {ns : List NodeM} {F : Nat → Prop} (h : ArS w base bA ns F) (l : List Int) (hl : l.length ≤ 1000) (b : Nat) (ht : NumsAt w b l) :
    Calls Try.prog 27 #[.pointer (some ⟨bA, 0, none⟩), .slice (some ⟨b, 0, none⟩) l.length l.length] w fun e w' => e = .returned (.bool (l.all fun k => hasM ns k)) ∧ w = w' := by
  obtain ⟨bS, g, cap, h, _⟩ := h
  have HL := hide (len_any h)
  have HT := hide ht
  have hlz : (l.length : Int) ≤ 1000 := by omega
  have hm := h.most
  clear h ht hl
  go_enter Try.func27, Try.ntmps27
  go_wp2
  go_loopg [6, 9] l.length (fun g _ s8 wr => ∃ j : Nat, j + g = l.length ∧ s8 = .int .i64 j ∧ wr = w ∧ (∀ i s, i < j → l[i]? = some s → hasM ns s = true))
  case atStart => exact ⟨0, by omega, rfl, rfl, fun i s hi => absurd hi (Nat.not_lt_zero _)⟩
  case round =>
    obtain ⟨j, hjg, rfl, rfl, hno⟩ := hrel
    have HN := hide hno
    clear hno
    by_cases hj : j < l.length
    · have hjz : (j : Int) < (l.length : Int) := by omega
      obtain ⟨y, hy⟩ : ∃ y, l[j]? = some y := ⟨_, List.getElem?_eq_getElem hj⟩
      have hcell := (unhide HT) j y hy
      have HY := hide hy
      clear hy
      have bad : hasM ns y = false → (l.all fun k => hasM ns k) = false := fun hb => by
        rw [List.all_eq_false]
        exact ⟨y, List.mem_of_getElem? (unhide HY), by rw [hb]; exact Bool.false_ne_true⟩
      have HBAD := hide bad
      clear bad
      generalize hnn : (ns.length : Int) = nn at *
      have HNN := hide hnn
      clear hnn
      by_cases h0 : y < 0
      · have HF := hide (show hasM ns y = false by unfold hasM; exact decide_eq_false (by omega))
        go_wp2_with (go_at_call 8; refine (unhide HL).mono ?_; rintro e w' ⟨rfl, rfl⟩)
        go_ret
        rw [(unhide HBAD) (unhide HF)]
        exact ⟨rfl, rfl⟩
      · by_cases h1 : nn ≤ y
        · have HF := hide (show hasM ns y = false by unfold hasM; exact decide_eq_false (by have := unhide HNN; omega))
          go_wp2_with (go_at_call 8; refine (unhide HL).mono ?_; rintro e w' ⟨rfl, rfl⟩)
          go_ret
          rw [(unhide HBAD) (unhide HF)]
          exact ⟨rfl, rfl⟩
        · have HF := hide (show hasM ns y = true by unfold hasM; exact decide_eq_true (by have := unhide HNN; omega))
          go_wp2_with (go_at_call 8; refine (unhide HL).mono ?_; rintro e w' ⟨rfl, rfl⟩)
          go_roundg (gk - 1)
          case measure => omega
          case rel =>
            refine ⟨j + 1, by omega, by go_num, rfl, fun i s hi hs => ?_⟩
            by_cases e : i = j
            · subst e; rw [unhide HY] at hs; cases hs; exact unhide HF
            · exact (unhide HN) i s (by omega) hs
    · have hjz : ¬ (j : Int) < (l.length : Int) := by omega
      obtain rfl : j = l.length := by omega
      go_wp2
      go_ret
      refine ⟨?_, rfl⟩
      have : (l.all fun k => hasM ns k) = true := by
        rw [List.all_eq_true]
        intro s hs
        obtain ⟨i, hi⟩ := List.getElem?_of_mem hs
        exact (unhide HN) i s (List.getElem?_eq_some_iff.1 hi).1 hi
      rw [this]
      rfl
end Go.Proofs.Ytgmlngmfocdmhaa
