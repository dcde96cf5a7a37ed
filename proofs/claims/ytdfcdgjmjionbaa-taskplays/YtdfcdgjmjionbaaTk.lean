/-
  New.
-/
import Derived.Test.YtdfcdgjmjionbaaTj
namespace Go.Proofs.Ytdfcdgjmjionbaa
open Go.RowKit Go.Lib

def emptyC : Obj := .chan 4096 #[] false 0 0 false
/-- A queue whose first lines are made. -/
structure Half (w wx : World) (cs : List Nat) (n : Nat) : Prop where
  bel : Below w.heap.size w wx
  len : cs.length = n
  apart : Apart cs
  row : wx.heap[w.heap.size]? = some (.cells (cs.map chanV ++ List.replicate (4 - n) (Value.chan none)).toArray 56 (0, 0))
  each : ∀ (j c : Nat), cs[j]? = some c → w.heap.size < c ∧ wx.heap[c]? = some emptyC
theorem Half.drew {w wx : World} {cs : List Nat} {n : Nat} (h : Half w wx cs n) : Half w wx.drew cs n := ⟨h.bel.drew, h.len, h.apart, h.row, h.each⟩
/-- One line more. -/
theorem Half.add {w wx w2 : World} {cs : List Nat} {n c : Nat} (h : Half w wx cs n) (hn : n < 4) (hb : Below wx.heap.size wx w2) (hc : wx.heap.size ≤ c) (hcc : w2.heap[c]? = some emptyC) :
    Half w (w2.setCell ⟨w.heap.size, n, none⟩ (chanV c)) (cs ++ [c]) (n + 1) := by
  have hl := lt_of_block h.row
  have hrow := heap_setCell_same _ _ n _ _ (chanV c) ((hb.block _ hl).trans h.row)
  have hlen := h.len
  have hother : ∀ k, k ≠ w.heap.size → (w2.setCell ⟨w.heap.size, n, none⟩ (chanV c)).heap[k]? = w2.heap[k]? := fun k hk => Below.heap_setCell _ _ _ _ hk
  refine ⟨(h.bel.trans (hb.mono h.bel.size)).setCell (Nat.le_refl _) _, by simp [hlen], ?_, ?_, ?_⟩
  · intro i j d hi hj
    by_cases e : i < cs.length
    · rw [List.getElem?_append_left e] at hi
      by_cases e2 : j < cs.length
      · rw [List.getElem?_append_left e2] at hj
        exact h.apart i j d hi hj
      · rw [List.getElem?_append_right (by omega)] at hj
        have h1 := (List.getElem?_eq_some_iff.1 hj)
        have h2 := h1.1
        simp at h2
        simp [h2] at hj
        subst hj
        have := lt_of_block (h.each i c hi).2
        omega
    · rw [List.getElem?_append_right (by omega)] at hi
      have h2 := (List.getElem?_eq_some_iff.1 hi).1
      simp at h2
      simp [h2] at hi
      subst hi
      by_cases e2 : j < cs.length
      · rw [List.getElem?_append_left e2] at hj
        have := lt_of_block (h.each j c hj).2
        omega
      · have h3 := (List.getElem?_eq_some_iff.1 hj).1
        simp at h3
        omega
  · rw [hrow]
    congr 2
    rw [List.setIfInBounds_toArray]
    congr 1
    rw [List.set_append_right _ _ (by simp [hlen]), List.map_append]
    simp only [List.length_map, hlen, Nat.sub_self]
    obtain ⟨m, hm⟩ : ∃ m, 4 - n = m + 1 := ⟨4 - n - 1, by omega⟩
    rw [hm, show 4 - (n + 1) = m by omega, List.replicate_succ]
    simp
  · intro j d hj
    by_cases e : j < cs.length
    · rw [List.getElem?_append_left e] at hj
      obtain ⟨h1, h2⟩ := h.each j d hj
      exact ⟨h1, (hother d (by omega)).trans ((hb.block d (lt_of_block h2)).trans h2)⟩
    · rw [List.getElem?_append_right (by omega)] at hj
      have h3 := (List.getElem?_eq_some_iff.1 hj).1
      simp at h3
      simp [h3] at hj
      subst hj
      exact ⟨by omega, (hother c (by omega)).trans hcc⟩
theorem Half.que {w wx : World} {cs : List Nat} (h : Half w wx cs 4) {base : Nat} (hb : base ≤ w.heap.size) : QueS wx base w.heap.size [[], [], [], []] (fun k => w.heap.size ≤ k ∧ k < wx.heap.size) := by
  have hl := lt_of_block h.row
  refine ⟨fun k hk => ⟨by omega, hk.2⟩, ⟨Nat.le_refl _, hl⟩, rfl, cs, h.len, h.apart, by rw [h.row]; simp, fun i c l hi hlq => ?_⟩
  have hl0 : l = [] := by
    have : i < 4 := by have := (List.getElem?_eq_some_iff.1 hlq).1; simpa using this
    match i, this with
    | 0, _ => simpa using hlq.symm
    | 1, _ => simpa using hlq.symm
    | 2, _ => simpa using hlq.symm
    | 3, _ => simpa using hlq.symm
  subst hl0
  obtain ⟨h1, h2⟩ := h.each i c hi
  exact ⟨⟨by omega, lt_of_block h2⟩, by simp, [], 0, 0, by rw [h2]; rfl, rfl, fun j p t hj => by simp at hj⟩

set_option maxRecDepth 10000 in
theorem new_any (w : World) (base : Nat) (hbase : base ≤ w.heap.size) : Calls Try.prog 9 #[] w fun e w' => ∃ bq F, e = .returned (.pointer (some ⟨bq, 0, none⟩)) ∧ QueS w' base bq [[], [], [], []] F ∧ Below w.heap.size w w' ∧ (∀ k, F k → w.heap.size ≤ k) := by
  have HH0 : Hid (Half w (w.alloc (.cells #[.chan none, .chan none, .chan none, .chan none] 56)) [] 0) := hide ⟨below_new _ _, rfl, fun i j c hi => by simp at hi, heap_alloc_new w _, fun j c hj => by simp at hj⟩
  go_enter Try.func9, Try.ntmps9
  go_wp2
  go_loopg [5] 4 (fun k s5 wx => ∃ (i : Nat) (z : Int) (cs : List Nat), s5 = .int .i64 z ∧ i + k = 4 ∧ z = (i : Int) ∧ Half w wx cs i)
  case atStart => exact ⟨0, 0, [], rfl, by omega, rfl, unhide HH0⟩
  case round =>
    obtain ⟨i, z, cs, rfl, hik, hz, hh⟩ := hrel
    have HH := hide hh
    by_cases hi4 : i < 4
    · have hzl : z < 4 := by omega
      have hz0 : 0 ≤ z := by omega
      have hzt : z.toNat = i := by omega
      have kc : wr.cell? ⟨w.heap.size, i, none⟩ = some (.chan none) := by
        rw [cell_of_row _ _ i _ _ _ hh.row]
        rw [List.getElem?_toArray, List.getElem?_append_right (by simp [hh.len])]
        simp [hh.len, List.getElem?_replicate]; omega
      have kl := lt_of_block hh.row
      have kf : wr.frozen? ⟨w.heap.size, i, none⟩ = false := by simp [World.frozen?, hh.row]
      have hw1 : IntKind.i64.wrap (z + 1) = z + 1 := wrap_fit _ (by omega) (by omega)
      have HI := hide hi4
      have HZ := hide hz
      clear hh hi4 hz
      go_wp2
      go_region_with (go_at_call 23; refine (newLine_any _).mono ?_; rintro e w2 ⟨c, rfl, hb, hc, hcc⟩; have hb1 := hb.mono (B := wr.heap.size) (Nat.le_refl _); have hb2 : Below wr.heap.size wr w2 := (by first | exact hb1 | exact (Below.refl _ wr).drew.trans hb1); have hrow := (hb2.block _ kl).trans (unhide HH).row; have HA := hide ((unhide HH).add (unhide HI) hb2 hc hcc); have m0 : w2.cell? ⟨w.heap.size, i, none⟩ = some (.chan none) := ((hb2.cell (p := ⟨w.heap.size, i, none⟩) kl).trans kc); have mf : w2.frozen? ⟨w.heap.size, i, none⟩ = false := (by simp [World.frozen?, hrow]); clear hb hb1 hb2 hc hcc hrow; unfold lineV)
      all_goals go_wp2
      all_goals go_roundg (gk - 1)
      all_goals first
        | exact ⟨i + 1, _, _, rfl, by have := unhide HI; omega, by have := unhide HZ; omega, unhide HA⟩
        | (have := unhide HI; omega)
        | skip
    · obtain rfl : i = 4 := by omega
      have hzl : ¬ z < 4 := by omega
      clear hh hi4 hz
      go_wp2
      go_ret
      exact ⟨w.heap.size, rfl, _, (unhide HH).que hbase, (unhide HH).bel, fun k hk => hk.1⟩
end Go.Proofs.Ytdfcdgjmjionbaa
