/-
  A pile of package stack in memory, and its methods.
-/
import Derived.Test.YtaiejlgoldmjdaaPa
import Derived.Deep.LoopGhost
import Derived.Deep.QuietTactic
import Derived.BigQuiet
namespace Go.Proofs.Ytaiejlgoldmjdaa
open Go.RowKit

theorem setCell_far (w : World) (a : Addr) (v : Value) {k : Nat} (h : k ≠ a.block) : (w.setCell a v).heap[k]? = w.heap[k]? := Below.heap_setCell _ _ _ _ h

/-- A pile at block b. -/
structure PileAt (w : World) (base b : Nat) (p : PartM) : Prop where
  box : w.heap[b]? = some (.cells #[p.val] 72 (0, 0))
  part : PartAt w base p
  lo : base ≤ b

/-- Its blocks. -/
def footP (b : Nat) (p : PartM) (k : Nat) : Prop := k = b ∨ p.own = some k

section
variable {w w' w1 : World} {base b : Nat} {p p' : PartM}
theorem PileAt.cell (h : PileAt w base b p) : w.cell? ⟨b, 0, none⟩ = some p.val := cell_of_one h.box
theorem PileAt.free (h : PileAt w base b p) : w.frozen? ⟨b, 0, none⟩ = false := free_of_one h.box
theorem PileAt.lt (h : PileAt w base b p) : b < w.heap.size := lt_of_block h.box
theorem PileAt.ne (h : PileAt w base b p) : p.own ≠ some b := by
  intro e
  obtain ⟨_, _, cu, hc⟩ := h.part.own_lt e
  rw [h.box] at hc
  cases hc
theorem PileAt.foot_lt (h : PileAt w base b p) {k : Nat} (hk : footP b p k) : base ≤ k ∧ k < w.heap.size := by
  rcases hk with rfl | hk
  · exact ⟨h.lo, h.lt⟩
  · have := h.part.own_lt hk
    exact ⟨this.1, this.2.1⟩
theorem PileAt.mod {F : Nat → Prop} (h : PileAt w base b p) (hm : Mod F w w') (hF : ∀ k, footP b p k → ¬ F k) : PileAt w' base b p :=
  ⟨(hm.block b h.lt (hF b (.inl rfl))).trans h.box, h.part.mod hm (fun k hk => hF k (.inr hk)), h.lo⟩
theorem PileAt.below (h : PileAt w base b p) (hb : Below w.heap.size w w') : PileAt w' base b p := h.mod (Mod.of_below (F := fun _ => False) hb) (fun _ _ e => e)
/-- Another list: its block was written, or it has a new one. -/
theorem PileAt.set (h : PileAt w base b p) (hm : Mod (fun k => p.own = some k) w w1) (hp : PartAt w1 base p') : PileAt (w1.setCell ⟨b, 0, none⟩ p'.val) base b p' ∧ Mod (footP b p) w (w1.setCell ⟨b, 0, none⟩ p'.val) := by
  have hb1 : w1.heap[b]? = _ := (hm.block b h.lt h.ne).trans h.box
  refine ⟨⟨?_, hp.kept (fun k hk => setCell_far _ _ _ (fun e => ?_)), h.lo⟩, (hm.mono (fun _ _ hk => .inr hk)).trans (Mod.setCell _ _ _ (.inl rfl))⟩
  · have := heap_setCell_same w1 b 0 #[p.val] 72 p'.val hb1
    simpa using this
  · simp only at e
    subst e
    obtain ⟨_, _, cu, hc⟩ := hp.own_lt hk
    rw [hb1] at hc
    cases hc
end

/-- What a method made of a pile. -/
def UpdP (w w' : World) (base b : Nat) (p : PartM) (L : List Int) : Prop := ∃ p', PileAt w' base b p' ∧ p'.xs = L ∧ Mod (footP b p) w w' ∧ ∀ k, footP b p' k → footP b p k ∨ w.heap.size ≤ k

section
variable {w : World} {base b : Nat} {p : PartM}

theorem size_any (h : PileAt w base b p) : Calls Try.prog 63 #[.pointer (some ⟨b, 0, none⟩)] w fun e w' => e = .returned (.int .i64 p.xs.length) ∧ w = w' := by
  have hc := h.cell
  unfold PartM.val at hc
  clear h
  go_enter Try.func63, Try.ntmps63
  go_wp2
  go_ret
  exact ⟨rfl, rfl⟩

theorem at_any (h : PileAt w base b p) (i : Nat) (x : Int) (hi : p.xs[i]? = some x) : Calls Try.prog 69 #[.pointer (some ⟨b, 0, none⟩), .int .i64 i] w fun e w' => e = .returned (.int .i64 x) ∧ w = w' := by
  have hc := h.cell
  unfold PartM.val at hc
  have hlt := (List.getElem?_eq_some_iff.1 hi).1
  obtain ⟨g, off, ha, hg⟩ := h.part.nums i x hi
  rw [ha] at hc
  have hz : (i : Int) < (p.xs.length : Int) := by omega
  generalize p.xs.length = n at *
  clear h hi ha
  go_enter Try.func69, Try.ntmps69
  go_wp2
  go_ret
  exact ⟨rfl, rfl⟩

/-- r is where x stands in L. -/
def FindR (L : List Int) (x r : Int) : Prop := (r = -1 ∧ x ∉ L) ∨ ∃ j : Nat, r = (j : Int) ∧ L[j]? = some x

set_option maxHeartbeats 1000000 in
theorem index_any (w : World) (a : Option Addr) (L : List Int) (cap : Nat) (hin : NumsIn w a L) (hl : L.length ≤ 100000) (x : Int) :
    Calls Try.prog 91 #[.slice a L.length cap, .int .i64 x] w fun e w' => (∃ r, e = .returned (.int .i64 r) ∧ FindR L x r) ∧ w = w' := by
  have HIN := hide hin
  have hlz : (L.length : Int) ≤ 100000 := by omega
  clear hin hl
  go_enter Try.func91, Try.ntmps91
  go_wp2
  go_loopg [5, 8] L.length (fun g _ s8 wr => ∃ j : Nat, j + g = L.length ∧ s8 = .int .i64 j ∧ wr = w ∧ (∀ i s, i < j → L[i]? = some s → s ≠ x))
  case atStart => exact ⟨0, by omega, rfl, rfl, fun i s hi => absurd hi (Nat.not_lt_zero _)⟩
  case round =>
    obtain ⟨j, hjg, rfl, rfl, hno⟩ := hrel
    have HN := hide hno
    clear hno
    by_cases hj : j < L.length
    · have hjz : (j : Int) < (L.length : Int) := by omega
      obtain ⟨y, hy⟩ : ∃ y, L[j]? = some y := ⟨_, List.getElem?_eq_getElem hj⟩
      obtain ⟨g, off, rfl, hcell⟩ := (unhide HIN) j y hy
      have HY := hide hy
      clear hy
      cases hq : (x == y) with
      | true =>
        have HQ := hide hq
        go_wp2
        go_ret
        refine ⟨⟨_, rfl, .inr ⟨j, rfl, ?_⟩⟩, rfl⟩
        rw [unhide HY]
        have := unhide HQ
        simp at this
        rw [this]
      | false =>
        have HQ := hide hq
        go_wp2
        go_roundg (gk - 1)
        case measure => omega
        case rel =>
          refine ⟨j + 1, by omega, by go_num, rfl, fun i s hi hs => ?_⟩
          by_cases e : i = j
          · subst e; rw [unhide HY] at hs; cases hs
            have := unhide HQ
            simp at this
            exact fun e => this e.symm
          · exact (unhide HN) i s (by omega) hs
    · have hjz : ¬ (j : Int) < (L.length : Int) := by omega
      obtain rfl : j = L.length := by omega
      go_wp2
      go_ret
      refine ⟨⟨_, rfl, .inl ⟨rfl, fun hm => ?_⟩⟩, rfl⟩
      obtain ⟨i, hi⟩ := List.getElem?_of_mem hm
      exact (unhide HN) i x (List.getElem?_eq_some_iff.1 hi).1 hi rfl

theorem place_any (h : PileAt w base b p) (hl : p.xs.length ≤ 100000) (x : Int) : Calls Try.prog 50 #[.pointer (some ⟨b, 0, none⟩), .int .i64 x] w fun e w' => (∃ r, e = .returned (.int .i64 r) ∧ FindR p.xs x r) ∧ w = w' := by
  have hc := h.cell
  have HI := hide (index_any w p.a p.xs p.cap h.part.nums hl x)
  unfold PartM.val at hc
  clear h hl
  go_enter Try.func50, Try.ntmps50
  go_wp2_with (go_at_call 91; refine (unhide HI).mono ?_; rintro e w' ⟨⟨r, rfl, hr⟩, rfl⟩)
  go_ret
  exact ⟨⟨r, rfl, hr⟩, rfl⟩

set_option maxHeartbeats 1000000 in
theorem push_any (h : PileAt w base b p) (hl : p.xs.length ≤ 100000) (x : Int) : Calls Try.prog 57 #[.pointer (some ⟨b, 0, none⟩), .int .i64 x] w fun e w' => e = .returned (.tuple #[]) ∧ UpdP w w' base b p (p.xs ++ [x]) := by
  have hc := h.cell
  have hf := h.free
  have hlt := h.lt
  have hne := h.ne
  have HH := hide h
  have HL := hide hl
  clear h hl
  go_enter Try.func57, Try.ntmps57
  go_wp2_with (at_builtin; go_must (refine wpList_part_append (base := base) (p := p) (by rfl) _ _ (by rfl) (by rfl) (some ⟨w.heap.size, 0, none⟩) [x] 1 (by rfl) (by exact (unhide HH).part.below ((Below.refl _ _).alloc (Nat.le_refl _) _)) (by have := (unhide HH).lo; simp; omega) (by exact one_num w x) (by have := unhide HL; simp; omega) ?_); intro q' w3 g1 g2 g3 g4 g5; have HN1 := hide g1; have HN2 := hide g2; have HN3 := hide g3; have HN4 := hide g4; have hc3 : w3.cell? ⟨b, 0, none⟩ = some p.val := ((g3.cell_far ⟨b, 0, none⟩ (by simp; omega) (by intro e; first | exact hne e | exact hne e.symm)).trans (((Below.refl w.heap.size w).alloc (Nat.le_refl _) _).cell hlt |>.trans hc)); have hf3 : w3.frozen? ⟨b, 0, none⟩ = false := ((g3.frozen_far ⟨b, 0, none⟩ (by simp; omega) (by intro e; first | exact hne e | exact hne e.symm)).trans (((Below.refl w.heap.size w).alloc (Nat.le_refl _) _).frozen hlt |>.trans hf)); clear g1 g2 g3 g4 g5; obtain ⟨qa, qc, qx⟩ := q'; simp only [PartM.val])
  all_goals go_end0
  all_goals
    have B1 := (Below.refl w.heap.size w).alloc (Nat.le_refl _) (.cells #[.int .i64 x] 3)
    have M1 : Mod (fun k => p.own = some k) w w3 := (Mod.of_below B1).trans (Mod.grown (unhide HN3) (fun k hk => hk))
    obtain ⟨R1, R2⟩ := (unhide HH).set M1 (unhide HN1)
    refine ⟨rfl, _, R1, unhide HN2, R2, ?_⟩
    rintro k (rfl | hk)
    · exact .inl (.inl rfl)
    · rcases unhide HN4 with e | e
      · exact .inl (.inr (by rw [← e]; exact hk))
      · rw [e] at hk
        simp at hk
        exact .inr (by omega)

theorem PartAt.cut (h : PartAt w base p) (n : Nat) (hn : n ≤ p.xs.length) : PartAt w base ⟨p.a, p.cap, p.xs.take n⟩ := by
  have hl := h.len
  refine ⟨by simp; omega, h.most, h.lies.imp id ?_⟩
  rintro ⟨g, off, cur, ha, hb, hg, hs, hc⟩
  refine ⟨g, off, cur, ha, hb, hg, hs, fun j x hj => ?_⟩
  simp only at hj
  rw [List.getElem?_take] at hj
  split at hj
  · exact hc j x hj
  · cases hj

set_option maxHeartbeats 1000000 in
theorem cut_any (h : PileAt w base b p) (hl : p.xs.length ≤ 100000) (n : Nat) (hn : n ≤ p.xs.length) : Calls Try.prog 62 #[.pointer (some ⟨b, 0, none⟩), .int .i64 n] w fun e w' => e = .returned (.tuple #[]) ∧ UpdP w w' base b p (p.xs.take n) := by
  have hc := h.cell
  have hf := h.free
  have hcap := h.part.len
  have hmost := h.part.most
  have HH := hide h
  have hmin : min n p.xs.length = n := by omega
  have HM := hide hmin
  unfold PartM.val at hc
  unfold maxLen at hmost
  have HP := hide (h.part.cut n hn)
  have e0 : (PartM.mk p.a p.cap (p.xs.take n)).val = .slice p.a n p.cap := by unfold PartM.val; simp [hmin]
  have HE := hide e0
  have hnz : (n : Int) ≤ (p.cap : Int) := by omega
  have R := h.set (Mod.refl _ w) (h.part.cut n hn)
  rw [e0] at R
  have HR := hide R
  obtain ⟨pa, pc, px⟩ := p
  simp only at *
  generalize px.length = m at *
  clear h e0 hmin R
  cases pa with
  | none =>
    go_enter Try.func62, Try.ntmps62
    go_wp2
    go_end0
    exact ⟨rfl, _, (unhide HR).1, rfl, (unhide HR).2, fun k hk => .inl hk⟩
  | some ad =>
    go_enter Try.func62, Try.ntmps62
    go_wp2
    go_end0
    exact ⟨rfl, _, (unhide HR).1, rfl, (unhide HR).2, fun k hk => .inl hk⟩
end
end Go.Proofs.Ytaiejlgoldmjdaa
