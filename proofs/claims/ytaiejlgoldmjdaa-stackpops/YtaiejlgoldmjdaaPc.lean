/-
  A pile of package stack: an item swapped, put in and taken out.
-/
import Derived.Test.YtaiejlgoldmjdaaPb
namespace Go.Proofs.Ytaiejlgoldmjdaa
open Go.RowKit

section
variable {w : World} {base b : Nat} {p : PartM}

theorem PartAt.put {g off : Nat} (h : PartAt w base p) (ha : p.a = some ⟨g, off, none⟩) (i : Nat) (hi : i < p.xs.length) (x : Int) : PartAt (w.setCell ⟨g, off + i, none⟩ (.int .i64 x)) base ⟨p.a, p.cap, p.xs.set i x⟩ := by
  have hl := h.len
  refine ⟨by simpa using hl, h.most, ?_⟩
  obtain ⟨g', off', cur, ha', hb, hg, hs, hc⟩ := h.cellsAll (by omega)
  rw [ha] at ha'
  cases ha'
  refine .inr ⟨g, off, _, ha, hb, heap_setCell_same w g (off + i) cur 3 (.int .i64 x) hg, by simpa using hs, fun j y hj => ?_⟩
  simp only at hj
  by_cases e : i = j
  · subst e
    rw [List.getElem?_set_self hi] at hj
    cases hj
    rw [Array.getElem?_setIfInBounds_self_of_lt (by omega)]
  · rw [List.getElem?_set_ne e] at hj
    have := hc j y hj
    rw [Array.getElem?_setIfInBounds_ne (by omega)]
    exact this

set_option maxHeartbeats 1000000 in
theorem swap_any (h : PileAt w base b p) (i : Nat) (hi : i < p.xs.length) (x : Int) : Calls Try.prog 72 #[.pointer (some ⟨b, 0, none⟩), .int .i64 i, .int .i64 x] w fun e w' => e = .returned (.tuple #[]) ∧ UpdP w w' base b p (p.xs.set i x) := by
  have hc := h.cell
  have HH := hide h
  have HI := hide hi
  obtain ⟨g, off, ha, hg⟩ := h.part.nums i _ (List.getElem?_eq_getElem hi)
  have hfz : w.frozen? ⟨g, off + i, none⟩ = false := by
    obtain ⟨g', off', cur, ha', hb, hg', hs, hcc⟩ := h.part.cellsAll (by have := h.part.len; omega)
    rw [ha] at ha'
    cases ha'
    simp [World.frozen?, hg']
  have own : p.own = some g := by
    unfold PartM.own
    rw [if_neg (by have := h.part.len; omega), ha]
    rfl
  have hne : g ≠ b := by
    intro e
    exact h.ne (by rw [own, e])
  have R : PileAt (w.setCell ⟨g, off + i, none⟩ (.int .i64 x)) base b ⟨p.a, p.cap, p.xs.set i x⟩ := by
    refine ⟨?_, h.part.put ha i hi x, h.lo⟩
    rw [setCell_far _ _ _ (fun e => hne e.symm), h.box]
    unfold PartM.val
    simp
  have HR := hide R
  have HO := hide own
  have hz : (i : Int) < (p.xs.length : Int) := by omega
  unfold PartM.val at hc
  rw [ha] at hc
  generalize p.xs[i] = y at hg
  generalize p.xs.length = n at *
  clear h R own hi
  go_enter Try.func72, Try.ntmps72
  go_wp2
  go_end0
  refine ⟨rfl, _, unhide HR, rfl, Mod.setCell _ _ _ (.inr (unhide HO)), ?_⟩
  rintro k (hk | hk)
  · exact .inl (.inl hk)
  · exact .inl (.inr hk)

theorem below_dn {B : Nat} {a w : World} (h : Below B a w) (n : Nat) : Below B a (w.drewN n) := ⟨h.os, h.tape, h.output, h.size, h.block⟩

/-- What is below a place, and the rest. -/
def lowP (p : PartM) (i : Nat) : PartM := ⟨p.a, i, p.xs.take i⟩
def RestIs (w : World) (v : Value) (L : List Int) : Prop := ∃ a c, v = .slice a L.length c ∧ NumsIn w a L ∧ L.length ≤ c ∧ c ≤ maxLen
theorem rest_mk {a : Option Addr} {n c : Nat} {L : List Int} (h : L.length = n) (hN : NumsIn w a L) (hc : n ≤ c) (hm : c ≤ maxLen) : RestIs w (.slice a n c) L := ⟨a, c, by rw [h], hN, by omega, hm⟩

set_option maxHeartbeats 2000000 in
theorem parts_any (h : PileAt w base b p) (i : Nat) (hi : i ≤ p.xs.length) : Calls Try.prog 95 #[.pointer (some ⟨b, 0, none⟩), .int .i64 i] w fun e w' =>
    (∃ v, e = .returned (.tuple #[(lowP p i).val, v]) ∧ RestIs w v (p.xs.drop i)) ∧ Below w.heap.size w w' := by
  have hc := h.cell
  have hlen := h.part.len
  have hnone : p.a = none → p.cap = 0 := by
    intro e
    rcases h.part.lies with h0 | ⟨g, off, cur, ha, _⟩
    · exact h0
    · rw [e] at ha; cases ha
  have HN : Hid (NumsIn w p.a p.xs) := hide h.part.nums
  have hcap : (p.xs.length : Int) ≤ (p.cap : Int) := by omega
  have hiz : (i : Int) ≤ (p.xs.length : Int) := by omega
  have hiz2 : (i : Int) ≤ (p.cap : Int) := by omega
  have hm : min i p.xs.length = i := by omega
  have hmost := h.part.most
  have e1 : (lowP p i).val = .slice p.a i i := by unfold lowP PartM.val; simp [hm]
  rw [e1]
  unfold PartM.val at hc
  unfold maxLen at hmost
  obtain ⟨pa, pc, px⟩ := p
  simp only at *
  have HL : Hid (∀ ad, pa = some ad → NumsIn w (if pc = i then some ad else some (ad.add i)) (px.drop i)) := hide (by
    rintro ad rfl
    by_cases e : pc = i
    · rw [if_pos e]
      intro j x hj
      rw [List.drop_of_length_le (by omega)] at hj
      simp at hj
    · rw [if_neg e]
      obtain ⟨g, off, cur, ha, _⟩ := h.part.cellsAll (by simp only; omega)
      simp only [Option.some.injEq] at ha
      subst ha
      rw [add_at]
      exact (unhide HN).drop i)
  have HZ : Hid (px.length ≤ i → ∀ a, NumsIn w a (px.drop i)) := hide (by
    intro e a j x hj
    rw [List.drop_of_length_le (by omega)] at hj
    simp at hj)
  generalize hnl : px.length = n at *
  have HNL := hide hnl
  clear h e1 hm hnl
  cases pa with
  | none =>
    have h0 : pc = 0 := hnone rfl
    subst h0
    obtain rfl : n = 0 := by omega
    obtain rfl : i = 0 := by omega
    go_enter Try.func95, Try.ntmps95
    go_wp2_with fail
    go_quiet (fail)
    all_goals go_wp2
    all_goals go_ret2
    all_goals exact ⟨⟨_, rfl, rest_mk (by rw [List.length_drop, unhide HNL]) (unhide HZ (Nat.le_refl _) _) (by omega) (by unfold maxLen; omega)⟩, below_dn (Below.refl _ w) _⟩
  | some ad =>
    clear hnone
    go_enter Try.func95, Try.ntmps95
    go_wp2_with fail
    go_quiet (fail)
    all_goals go_wp2
    all_goals go_ret2
    all_goals
      have q := (unhide HL) _ rfl
      first | rw [if_pos (by assumption)] at q | rw [if_neg (by assumption)] at q
      exact ⟨⟨_, rfl, rest_mk (by rw [List.length_drop, unhide HNL]) q (by omega) (by unfold maxLen; omega)⟩, below_dn (Below.refl _ w) _⟩
end
end Go.Proofs.Ytaiejlgoldmjdaa
