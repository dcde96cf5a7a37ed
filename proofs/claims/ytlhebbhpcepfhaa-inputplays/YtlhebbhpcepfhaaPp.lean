/-
  A stream that was made behind w0: its calls, all places hidden.
-/
import Derived.Test.YtlhebbhpcepfhaaPn
namespace Go.Proofs.Ytlhebbhpcepfhaa
open Go.RowKit

/-- The stream m, made behind w0. -/
def Live (w0 w : World) (bS : Nat) (m : StrM) : Prop := (∃ F, StrS w w0.heap.size bS m F) ∧ Below w0.heap.size w0 w

section
variable {w0 w w' : World} {bS : Nat} {m : StrM}

theorem Live.more (h : Live w0 w bS m) (hb : Below w.heap.size w w') : Live w0 w' bS m := by
  obtain ⟨⟨F, h⟩, hB⟩ := h
  exact ⟨⟨F, h.below hb⟩, hB.trans (hb.mono hB.size)⟩
theorem Live.upd {F : Nat → Prop} {m2 : StrM} (h : StrS w w0.heap.size bS m F) (hB : Below w0.heap.size w0 w) (hu : UpdS F w w' w0.heap.size bS m2) : Live w0 w' bS m2 := by
  obtain ⟨F', h1, h2, _⟩ := hu
  exact ⟨⟨F', h1⟩, hB.trans (h2.below hB.size (fun k hk => (h.lt hk).1))⟩
theorem Live.below (h : Live w0 w bS m) : Below w0.heap.size w0 w := h.2

theorem live_new (w : World) : Calls Try.prog 9 #[] w fun e w' => ∃ bS F, e = .returned (.pointer (some ⟨bS, 0, none⟩)) ∧ StrS w' w.heap.size bS newM F ∧ Below w.heap.size w w' := by
  refine (new_s w w.heap.size (Nat.le_refl _)).mono ?_
  rintro e w' ⟨bS, F, rfl, h1, h2, _⟩
  exact ⟨bS, F, rfl, h1, h2⟩
theorem live_mark (h : Live w0 w bS m) : Calls Try.prog 20 #[.pointer (some ⟨bS, 0, none⟩)] w fun e w' => e = .returned (.int .i64 (markM m).1) ∧ Live w0 w' bS (markM m).2 := by
  obtain ⟨⟨F, h⟩, hB⟩ := h
  exact (mark_s h).mono fun _ _ ⟨a, b⟩ => ⟨a, Live.upd h hB b⟩
theorem live_unmark (h : Live w0 w bS m) : Calls Try.prog 23 #[.pointer (some ⟨bS, 0, none⟩)] w fun e w' => e = .returned (.int .i64 (unmarkM m).1) ∧ Live w0 w' bS (unmarkM m).2 := by
  obtain ⟨⟨F, h⟩, hB⟩ := h
  exact (unmark_s h).mono fun _ _ ⟨a, b⟩ => ⟨a, Live.upd h hB b⟩
theorem live_end (h : Live w0 w bS m) : Calls Try.prog 17 #[.pointer (some ⟨bS, 0, none⟩)] w fun e w' => e = .returned (.int .i64 (if m.ended then 5 else 0)) ∧ Live w0 w' bS (finM m) := by
  obtain ⟨⟨F, h⟩, hB⟩ := h
  exact (end_s h).mono fun _ _ ⟨a, b⟩ => ⟨a, Live.upd h hB b⟩
theorem live_drop (h : Live w0 w bS m) : Calls Try.prog 25 #[.pointer (some ⟨bS, 0, none⟩)] w fun e w' => e = .returned (.int .i64 (if m.dropped then 5 else 0)) ∧ Live w0 w' bS (dropM m) := by
  obtain ⟨⟨F, h⟩, hB⟩ := h
  exact (drop_s h).mono fun _ _ ⟨a, b⟩ => ⟨a, Live.upd h hB b⟩
theorem live_next (h : Live w0 w bS m) : Calls Try.prog 22 #[.pointer (some ⟨bS, 0, none⟩)] w fun e w' => e = .returned (.tuple #[.int .i32 (peekM m).1, .bool (peekM m).2]) ∧ Live w0 w' bS (nextM m) := by
  obtain ⟨⟨F, h⟩, hB⟩ := h
  exact (next_s h).mono fun _ _ ⟨a, b⟩ => ⟨a, Live.upd h hB b⟩
theorem live_peek (h : Live w0 w bS m) : Calls Try.prog 24 #[.pointer (some ⟨bS, 0, none⟩)] w fun e w' => e = .returned (.tuple #[.int .i32 (peekM m).1, .bool (peekM m).2]) ∧ Live w0 w' bS m := by
  have h' := h
  obtain ⟨⟨F, h⟩, hB⟩ := h
  refine (peek_s h).mono ?_
  rintro e w1 ⟨rfl, n, rfl⟩
  exact ⟨rfl, h'.more (below_dw _ _)⟩
theorem live_len (h : Live w0 w bS m) : Calls Try.prog 12 #[.pointer (some ⟨bS, 0, none⟩)] w fun e w' => e = .returned (.int .i64 (m.len : Int)) ∧ w = w' := by
  obtain ⟨⟨F, h⟩, hB⟩ := h
  exact len_s h
theorem live_marks (h : Live w0 w bS m) : Calls Try.prog 13 #[.pointer (some ⟨bS, 0, none⟩)] w fun e w' => e = .returned (.int .i64 ((m.parts.length : Int) - 1)) ∧ w = w' := by
  obtain ⟨⟨F, h⟩, hB⟩ := h
  exact marks_s h
/-- Code points that lay there ahead of the stream. -/
theorem live_feed (h : Live w0 w bS m) (a : Option Addr) (l : List Int) (c : Nat) (hr : RunesIn w0 a l) : Calls Try.prog 16 #[.pointer (some ⟨bS, 0, none⟩), .slice a l.length c] w fun e w' => e = .returned (.int .i64 (feedM m l).1) ∧ Live w0 w' bS (feedM m l).2 := by
  obtain ⟨⟨F, h⟩, hB⟩ := h
  refine (feed_s h a l c (hr.below hB) (fun b off hl ha hk => ?_)).mono fun _ _ ⟨a, b⟩ => ⟨a, Live.upd h hB b⟩
  obtain ⟨b', off', ha', hc'⟩ := hr 0 _ (List.getElem?_eq_getElem (List.length_pos_iff.2 hl))
  rw [ha] at ha'
  cases ha'
  have h1 := World.block_lt_of_cell? w0 _ hc'
  have h2 := (h.lt hk).1
  simp at h1
  omega
end

/-- A list in new memory is no part of an elder stream. -/
theorem fresh_part {w w' : World} {base bS : Nat} {m : StrM} {F : Nat → Prop} {p : PartM} (h : StrS w base bS m F) (hp : PartAt w' w.heap.size p) : ∀ b off, p.xs ≠ [] → p.a = some ⟨b, off, none⟩ → ¬ F b := by
  intro b off hx ha hk
  have h1 := (h.lt hk).2
  have hc : 0 < p.cap := Nat.lt_of_lt_of_le (List.length_pos_iff.2 hx) hp.len
  obtain ⟨g, off', cur, ha', hb, _⟩ := hp.cellsAll hc
  rw [ha] at ha'
  cases ha'
  omega

def fedM (l : List Int) : StrM := (feedM newM l).2
theorem fed_eq {l : List Int} (hl : l.length ≤ 1048576) : feedM newM l = (0, ⟨[(endsM false l).1], (endsM false l).2, false, false⟩) := by
  have h0 : newM.len = 0 := rfl
  unfold feedM
  rw [h0, Nat.add_zero, if_neg (by simp [newM]), if_pos hl]
  simp [newM]
theorem plainM_len (l : List Int) : (plainM l).length ≤ 5000 := by unfold plainM; rw [List.length_take]; omega
end Go.Proofs.Ytlhebbhpcepfhaa
