/-
  PlaceZero: without an arena or a stack nothing is put. Package place: atEnd, isOf, there.
-/
import Derived.Test.YtmllhebmaldgfaaNode
import Derived.Test.YtmllhebmaldgfaaNa
import Derived.Deep.LoopGhost
namespace Go.Proofs.Ytmllhebmaldgfaa
open Go.RowKit

def spotV (p b : Int) : Value := .agg #[.int .i64 p, .int .i64 b]

/-- A place in a block of its own. -/
def Box2 (W : World) (b : Nat) (p q : Int) : Prop := W.heap[b]? = some (.cells #[.int .i64 p, .int .i64 q] 60 (0, 0))
theorem Box2.cells {W : World} {b : Nat} {p q : Int} (h : Box2 W b p q) : W.cell? ⟨b, 0, none⟩ = some (.int .i64 p) ∧ W.cell? ⟨b, 1, none⟩ = some (.int .i64 q) ∧ W.frozen? ⟨b, 0, none⟩ = false ∧ W.frozen? ⟨b, 1, none⟩ = false := by
  unfold Box2 at h
  refine ⟨by simp [World.cell?, h], by simp [World.cell?, h], by simp [World.frozen?, h], by simp [World.frozen?, h]⟩
theorem Box2.new (w : World) (p q : Int) : Box2 (w.alloc (.cells #[.int .i64 p, .int .i64 q] 60)) w.heap.size p q := heap_alloc_new w _
theorem Box2.below {w w' : World} {b : Nat} {p q : Int} (h : Box2 w b p q) (hb : Below w.heap.size w w') : Box2 w' b p q := (hb.block _ (lt_of_block h)).trans h
theorem Box2.alloc {w : World} {b : Nat} {p q : Int} (h : Box2 w b p q) (o : Obj) : Box2 (w.alloc o) b p q := h.below ((Below.refl _ _).alloc (Nat.le_refl _) _)
theorem spot_ret {f : Func} {p u : Tmp} (hr : f.results = #[.cell p 60, .tmp u]) {W : World} {b : Nat} {x y : Int} (h : Box2 W b x y) (tmps : Array Value) (v : Value) (hp : tmps.getD p undef = .pointer (some ⟨b, 0, none⟩)) (hu : tmps.getD u undef = v) :
    (results f tmps).run Try.prog W = .ok (.tuple #[spotV x y, v]) W := by
  obtain ⟨c0, c1, _⟩ := h.cells
  rw [results_cell_tmp hr tmps Try.prog W, hp, hu]
  simp [go_sem, c0, c1, spotV]

section
variable {w : World}
theorem len_nil (w : World) : Calls Try.prog 17 #[.pointer none] w fun e w' => e = .returned (.int .i64 0) ∧ w = w' := by
  go_enter Try.func17, Try.ntmps17
  go_wp2
  go_ret
  exact ⟨rfl, rfl⟩
theorem madeA_nil (w : World) : Calls Try.prog 82 #[.pointer none] w fun e w' => e = .returned (.bool false) ∧ w = w' := by
  have HL := hide (len_nil w)
  go_enter Try.func82, Try.ntmps82
  go_wp2_with (go_at_call 17; refine (unhide HL).mono ?_; rintro e w' ⟨rfl, rfl⟩)
  go_ret
  exact ⟨rfl, rfl⟩
theorem remove_nil (w : World) (id : Int) : Calls Try.prog 41 #[.pointer none, .int .i64 id] w fun e w' => e = .returned (.int .i64 7) ∧ w = w' := by
  go_enter Try.func41, Try.ntmps41
  go_wp2
  go_ret
  exact ⟨rfl, rfl⟩
theorem madeS_nil (w : World) : Calls Try.prog 83 #[.pointer none] w fun e w' => e = .returned (.bool false) ∧ w = w' := by
  have HL := hide (remove_nil w (-1))
  go_enter Try.func83, Try.ntmps83
  go_wp2_with (go_at_call 41; refine (unhide HL).mono ?_; rintro e w' ⟨rfl, rfl⟩)
  go_ret
  exact ⟨rfl, rfl⟩
theorem spot_nil (w : World) (v : Value) (id : Int) (b : Bool) : Calls Try.prog 30 #[.pointer none, v, .int .i64 id, .bool b] w fun e w' => e = .returned (.tuple #[spotV 0 0, .int .i64 7]) ∧ Below w.heap.size w w' := by
  have HL := hide (fun w => madeA_nil w)
  go_enter Try.func30, Try.ntmps30
  go_wp2_with (go_at_call 82; refine ((unhide HL) _).mono ?_; rintro e w' ⟨rfl, rfl⟩)
  exact bodyPost_ret (spot_ret (p := 8) (u := 9) Try.results30 (b := w.heap.size) (Box2.new w 0 0) _ _ rfl rfl) rfl ⟨rfl, (Below.refl _ _).alloc (Nat.le_refl _) _⟩
theorem put_nil (w : World) (p q id : Int) : Calls Try.prog 34 #[.pointer none, spotV p q, .int .i64 id] w fun e w' => e = .returned (.int .i64 7) ∧ Below w.heap.size w w' := by
  have HL := hide (fun w => madeA_nil w)
  unfold spotV
  go_enter Try.func34, Try.ntmps34
  go_wp2_with (go_at_call 82; refine ((unhide HL) _).mono ?_; rintro e w' ⟨rfl, rfl⟩)
  go_ret
  exact ⟨rfl, (Below.refl _ _).alloc (Nat.le_refl _) _⟩
theorem madeA_any {base bA : Nat} {ns : List NodeM} {F : Nat → Prop} (h : ArS w base bA ns F) (hn : 0 < ns.length) : Calls Try.prog 82 #[.pointer (some ⟨bA, 0, none⟩)] w fun e w' => e = .returned (.bool true) ∧ w = w' := by
  obtain ⟨bS, g, cap, h, _⟩ := h
  have HL := hide (len_any h)
  have h1 : ((ns.length : Int) != 0) = true := by rw [bne_iff_ne]; omega
  have h2 : ¬ ((ns.length : Int) = 0) := by omega
  clear h
  go_enter Try.func82, Try.ntmps82
  go_wp2_with (go_at_call 17; refine (unhide HL).mono ?_; rintro e w' ⟨rfl, rfl⟩)
  go_ret
  exact ⟨rfl, rfl⟩
theorem spot_nos {base bA : Nat} {ns : List NodeM} {F : Nat → Prop} (h : ArS w base bA ns F) (hn : 0 < ns.length) (id : Int) (b : Bool) : Calls Try.prog 30 #[.pointer (some ⟨bA, 0, none⟩), .pointer none, .int .i64 id, .bool b] w fun e w' => e = .returned (.tuple #[spotV 0 0, .int .i64 7]) ∧ Below w.heap.size w w' := by
  have HA := hide (madeA_any (h.below ((Below.refl _ w).alloc (Nat.le_refl _) (.cells #[.int .i64 0, .int .i64 0] 60))) hn)
  have HL := hide (fun w => madeS_nil w)
  clear h hn
  go_enter Try.func30, Try.ntmps30
  go_wp2_with (first | (go_at_call 82; refine (unhide HA).mono ?_; rintro e w' ⟨rfl, rfl⟩) | (go_at_call 83; refine ((unhide HL) _).mono ?_; rintro e w' ⟨rfl, rfl⟩))
  exact bodyPost_ret (spot_ret (p := 8) (u := 9) Try.results30 (b := w.heap.size) (Box2.new w 0 0) _ _ rfl rfl) rfl ⟨rfl, (Below.refl _ _).alloc (Nat.le_refl _) _⟩

theorem newE_any (w : World) : Calls Try.prog 26 #[] w fun e w' => ∃ bA F, e = .returned (.pointer (some ⟨bA, 0, none⟩)) ∧ ArS w' w.heap.size bA [blankM 0] F ∧ Below w.heap.size w w' := by
  refine (new_any w w.heap.size (Nat.le_refl _)).mono ?_
  rintro e w' ⟨F, rfl, h1, h2, h3⟩
  exact ⟨_, F, rfl, h1, h2⟩

end
end Go.Proofs.Ytmllhebmaldgfaa

namespace Go.Proofs.Ytmllhebmaldgfaa
open Go.RowKit

theorem results_cell {fn : Func} {p : Tmp} {ty : TypeId} (h : fn.results = #[.cell p ty]) (tmps : Array Value) (P : Program) (w : World) :
    (results fn tmps).run P w = ((asAddr (tmps.getD p undef)).run P w).andThen fun a w₁ => (loadVar ty a).run P w₁ := by
  simp only [results, h]
  simp [Sem.run_bind, Result.andThen]
theorem spot_ret1 {f : Func} {p : Tmp} (hr : f.results = #[.cell p 60]) {W : World} {b : Nat} {x y : Int} (h : Box2 W b x y) (tmps : Array Value) (hp : tmps.getD p undef = .pointer (some ⟨b, 0, none⟩)) :
    (results f tmps).run Try.prog W = .ok (spotV x y) W := by
  obtain ⟨c0, c1, _⟩ := h.cells
  rw [results_cell hr tmps Try.prog W, hp]
  simp [go_sem, c0, c1, spotV]

theorem atEnd_any (w : World) (id : Int) : Calls Try.prog 85 #[.int .i64 id] w fun e w' => e = .returned (spotV id (-1)) ∧ Below w.heap.size w w' := by
  go_enter Try.func85, Try.ntmps85
  go_wp2
  exact bodyPost_ret (spot_ret1 (p := 2) Try.results85 (b := w.heap.size) (Box2.new w id (-1)) _ rfl) rfl ⟨rfl, below_new w _⟩

def isOfM (n : NodeM) (l : List ByteArray) : Bool := n.kind == 1 && n.space == 0 && hasT l n.name
set_option maxHeartbeats 1000000 in
theorem isOf_any {w : World} (n : NodeM) (v : Value) (l : List ByteArray) (hl : l.length ≤ 1000) (b : Nat) (ht : TabAt w b l) :
    Calls Try.prog 122 #[nodeV n v, .slice (some ⟨b, 0, none⟩) l.length l.length] w fun e w' => e = .returned (.bool (isOfM n l)) ∧ Below w.heap.size w w' := by
  unfold isOfM
  obtain ⟨nk, nsp, nm, av, da, sy, pa, fi, la, pr, ne, inn, att⟩ := n
  simp only [nodeV, NodeM.cells]
  by_cases hk : nk = 1
  · by_cases hs : nsp = 0
    · subst hk; subst hs
      have hr : ((1 : Int) == 1 && (0 : Int) == 0 && hasT l nm) = hasT l nm := by simp
      rw [hr]
      clear hr
      have hlz : (l.length : Int) ≤ 1000 := by omega
      have HT := hide (ht.below (below_new w (.cells #[.int .i64 1, .int .i64 0, .string nm, v, .string da, .string sy, .int .i64 pa, .int .i64 fi, .int .i64 la, .int .i64 pr, .int .i64 ne, .int .i64 inn] 44)))
      unfold hasT
      clear ht hl
      go_enter Try.func122, Try.ntmps122
      go_wp2
      go_loopg [6, 17] l.length (fun g _ s8 wr => ∃ j : Nat, j + g = l.length ∧ s8 = .int .i64 j ∧ wr = w.alloc (.cells #[.int .i64 1, .int .i64 0, .string nm, v, .string da, .string sy, .int .i64 pa, .int .i64 fi, .int .i64 la, .int .i64 pr, .int .i64 ne, .int .i64 inn] 44) ∧ (∀ i s, i < j → l[i]? = some s → (nm.toList == s.toList) = false))
      case atStart => exact ⟨0, by omega, rfl, rfl, fun i s hi => absurd hi (Nat.not_lt_zero _)⟩
      case round =>
        obtain ⟨j, hjg, rfl, rfl, hno⟩ := hrel
        have HN := hide hno
        clear hno
        by_cases hj : j < l.length
        · have hjz : (j : Int) < (l.length : Int) := by omega
          obtain ⟨y, hy⟩ : ∃ y, l[j]? = some y := ⟨_, List.getElem?_eq_getElem hj⟩
          have hcell := (unhide HT).cells j y hy
          have HY := hide hy
          clear hy
          cases hq : (nm.toList == y.toList) with
          | true =>
            have HQ := hide hq
            go_wp2
            go_ret
            refine ⟨?_, below_new _ _⟩
            rw [List.any_eq_true.2 ⟨y, List.mem_of_getElem? (unhide HY), unhide HQ⟩]
            rfl
          | false =>
            have HQ := hide hq
            go_wp2
            go_roundg (gk - 1)
            case measure => omega
            case rel =>
              refine ⟨j + 1, by omega, by go_num, rfl, fun i s hi hs => ?_⟩
              by_cases e : i = j
              · subst e; rw [unhide HY] at hs; cases hs; exact unhide HQ
              · exact (unhide HN) i s (by omega) hs
        · have hjz : ¬ (j : Int) < (l.length : Int) := by omega
          obtain rfl : j = l.length := by omega
          go_wp2
          go_ret
          refine ⟨?_, below_new _ _⟩
          have : (l.any fun x => nm.toList == x.toList) = false := by
            rw [List.any_eq_false]
            intro s hs
            obtain ⟨i, hi⟩ := List.getElem?_of_mem hs
            rw [(unhide HN) i s (List.getElem?_eq_some_iff.1 hi).1 hi]
            exact Bool.false_ne_true
          rw [this]
          rfl
    · have hs2 : (nsp != 0) = true := by simp [hs]
      have hr : (nk == 1 && nsp == 0 && hasT l nm) = false := by simp [hs]
      subst hk
      rw [hr]
      clear hr ht hl
      go_enter Try.func122, Try.ntmps122
      go_wp2
      go_ret
      exact ⟨rfl, below_new _ _⟩
  · have hk2 : (nk != 1) = true := by simp [hk]
    have hr : (nk == 1 && nsp == 0 && hasT l nm) = false := by simp [hk]
    rw [hr]
    clear hr ht hl
    go_enter Try.func122, Try.ntmps122
    go_wp2
    go_ret
    exact ⟨rfl, below_new _ _⟩

def NumsAt (w : World) (b : Nat) (l : List Int) : Prop := ∀ j x, l[j]? = some x → w.cell? ⟨b, j, none⟩ = some (.int .i64 x)
set_option maxHeartbeats 1000000 in
theorem there_any {w : World} {base bA : Nat} {ns : List NodeM} {F : Nat → Prop} (h : ArS w base bA ns F) (l : List Int) (hl : l.length ≤ 1000) (b : Nat) (ht : NumsAt w b l) :
    Calls Try.prog 84 #[.pointer (some ⟨bA, 0, none⟩), .slice (some ⟨b, 0, none⟩) l.length l.length] w fun e w' => e = .returned (.bool (l.all fun k => hasM ns k)) ∧ w = w' := by
  obtain ⟨bS, g, cap, h, _⟩ := h
  have HL := hide (len_any h)
  have HT := hide ht
  have hlz : (l.length : Int) ≤ 1000 := by omega
  have hm := h.most
  clear h ht hl
  go_enter Try.func84, Try.ntmps84
  go_wp2
  go_loopg [6, 9] l.length (fun g _ s8 wr => ∃ j : Nat, j + g = l.length ∧ s8 = .int .i64 j ∧ wr = w ∧ (∀ i s, i < j → l[i]? = some s → hasM ns s = true))
  case atStart => exact ⟨0, by omega, rfl, rfl, fun i s hi => absurd hi (Nat.not_lt_zero _)⟩
  case round =>
    obtain ⟨j, hjg, rfl, rfl, hno⟩ := hrel
    have HN := hide hno
    clear hno
    by_cases hj : j < l.length
    · have hjz : (j : Int) < (l.length : Int) := by omega
      obtain ⟨y, hy⟩ : ∃ y, l[j]? = some y := ⟨_, List.getElem?_eq_getElem hj⟩
      have hcell := (unhide HT) j y hy
      have HY := hide hy
      clear hy
      have bad : hasM ns y = false → (l.all fun k => hasM ns k) = false := fun hb => by
        rw [List.all_eq_false]
        exact ⟨y, List.mem_of_getElem? (unhide HY), by rw [hb]; exact Bool.false_ne_true⟩
      have HBAD := hide bad
      clear bad
      generalize hnn : (ns.length : Int) = nn at *
      have HNN := hide hnn
      clear hnn
      by_cases h0 : y < 0
      · have HF := hide (show hasM ns y = false by unfold hasM; exact decide_eq_false (by omega))
        go_wp2_with (go_at_call 17; refine (unhide HL).mono ?_; rintro e w' ⟨rfl, rfl⟩)
        go_ret
        rw [(unhide HBAD) (unhide HF)]
        exact ⟨rfl, rfl⟩
      · by_cases h1 : nn ≤ y
        · have HF := hide (show hasM ns y = false by unfold hasM; exact decide_eq_false (by have := unhide HNN; omega))
          go_wp2_with (go_at_call 17; refine (unhide HL).mono ?_; rintro e w' ⟨rfl, rfl⟩)
          go_ret
          rw [(unhide HBAD) (unhide HF)]
          exact ⟨rfl, rfl⟩
        · have HF := hide (show hasM ns y = true by unfold hasM; exact decide_eq_true (by have := unhide HNN; omega))
          go_wp2_with (go_at_call 17; refine (unhide HL).mono ?_; rintro e w' ⟨rfl, rfl⟩)
          go_roundg (gk - 1)
          case measure => omega
          case rel =>
            refine ⟨j + 1, by omega, by go_num, rfl, fun i s hi hs => ?_⟩
            by_cases e : i = j
            · subst e; rw [unhide HY] at hs; cases hs; exact unhide HF
            · exact (unhide HN) i s (by omega) hs
    · have hjz : ¬ (j : Int) < (l.length : Int) := by omega
      obtain rfl : j = l.length := by omega
      go_wp2
      go_ret
      refine ⟨?_, rfl⟩
      have : (l.all fun k => hasM ns k) = true := by
        rw [List.all_eq_true]
        intro s hs
        obtain ⟨i, hi⟩ := List.getElem?_of_mem hs
        exact (unhide HN) i s (List.getElem?_eq_some_iff.1 hi).1 hi
      rw [this]
      rfl
end Go.Proofs.Ytmllhebmaldgfaa
