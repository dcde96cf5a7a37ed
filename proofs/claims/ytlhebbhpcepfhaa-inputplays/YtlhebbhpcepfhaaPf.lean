/-
  End, Drop, Peek, Next, New of package input.
-/
import Derived.Test.YtlhebbhpcepfhaaPe
namespace Go.Proofs.Ytlhebbhpcepfhaa
open Go.RowKit

theorem quietC {P : Program} {f : FuncId} {args : Array Value} {w : World} {n : Nat} {v : Value} (h : Calls P f args (w.drewN n) fun e w' => e = .returned v ∧ w.drewN n = w') : Calls P f args (w.drewN n) fun e w'' => e = .returned v ∧ ∃ m, w'' = w.drewN m :=
  Calls.quiet_of_same (h.mono fun _ _ ⟨a, b⟩ => ⟨a, b.symm⟩)
theorem below_dn {B : Nat} {a w : World} (h : Below B a w) (n : Nat) : Below B a (w.drewN n) := ⟨h.os, h.tape, h.output, h.size, h.block⟩
theorem below_dw (w : World) (n : Nat) : Below w.heap.size w (w.drewN n) := below_dn (Below.refl _ _) n

section
variable {w : World} {base bS bP pcap bC : Nat} {ps : List PartM} {cr ended dropped : Bool}

theorem end_at (h : StrAt w base bS bP pcap bC ps cr ended dropped) : Calls Try.prog 17 #[.pointer (some ⟨bS, 0, none⟩)] w fun e w' => e = .returned (.int .i64 (if ended then 5 else 0)) ∧ w' = if ended then w else w.setCell ⟨bS, 2, none⟩ (.bool true) := by
  obtain ⟨h0, h1, h2, h3, h4⟩ := h.cells
  have H := hide (made_any h)
  have hlt := h.lt.1
  have hf := h4 2
  clear h h4
  cases ended
  · go_enter Try.func17, Try.ntmps17
    go_wp2_with (go_at_call 35; go_must (refine (unhide H).mono ?_); rintro e w' ⟨rfl, rfl⟩)
    go_ret
    exact ⟨rfl, rfl⟩
  · go_enter Try.func17, Try.ntmps17
    go_wp2_with (go_at_call 35; go_must (refine (unhide H).mono ?_); rintro e w' ⟨rfl, rfl⟩)
    go_ret
    exact ⟨rfl, rfl⟩

theorem make_one : ∀ w, (Instr.makeSlice 45 (.int .i64 1) (.int .i64 1)).run Try.prog w = .ok (.slice (some ⟨w.heap.size, 0, none⟩) 1 1) (w.alloc (.cells #[.slice none 0 0] 28)) := fun _ => by kernel_rfl

theorem drop_at (h : StrAt w base bS bP pcap bC ps cr ended dropped) : Calls Try.prog 25 #[.pointer (some ⟨bS, 0, none⟩)] w fun e w' => e = .returned (.int .i64 (if dropped then 5 else 0)) ∧
    w' = if dropped then w else (((w.alloc (.cells #[.slice none 0 0] 28)).setCell ⟨bS, 0, none⟩ (.slice (some ⟨w.heap.size, 0, none⟩) 1 1)).setCell ⟨bS, 2, none⟩ (.bool true)).setCell ⟨bS, 3, none⟩ (.bool true) := by
  obtain ⟨h0, h1, h2, h3, h4⟩ := h.cells
  have H := hide (made_any h)
  have hlt := h.lt.1
  have f0 := h4 0
  have f2 := h4 2
  have f3 := h4 3
  have hmk := make_one
  clear h h4
  cases dropped
  · go_enter Try.func25, Try.ntmps25
    go_wp2_with (go_at_call 35; go_must (refine (unhide H).mono ?_); rintro e w' ⟨rfl, rfl⟩)
    go_ret
    exact ⟨rfl, rfl⟩
  · go_enter Try.func25, Try.ntmps25
    go_wp2_with (go_at_call 35; go_must (refine (unhide H).mono ?_); rintro e w' ⟨rfl, rfl⟩)
    go_ret
    exact ⟨rfl, rfl⟩

def peekP (p : PartM) (n : Nat) (ended : Bool) : Int × Bool := match p.xs with
  | x :: _ => (x, true)
  | [] => if n = 1 ∧ ended = true then (-1, true) else (0, false)

set_option maxHeartbeats 1000000 in
theorem peek_at (h : StrAt w base bS bP pcap bC ps cr ended dropped) {p : PartM} (hp : ps[ps.length - 1]? = some p) : Calls Try.prog 24 #[.pointer (some ⟨bS, 0, none⟩)] w fun e w' =>
    e = .returned (.tuple #[.int .i32 (peekP p ps.length ended).1, .bool (peekP p ps.length ended).2]) ∧ ∃ n, w' = w.drewN n := by
  obtain ⟨h0, h1, h2, h3, h4⟩ := h.cells
  have H : Hid (∀ n, StrAt (w.drewN n) base bS bP pcap bC ps cr ended dropped) := hide (fun n => h.below (below_dw w n))
  have hc := (h.cellP hp).1
  have hpos : (0 : Int) < (ps.length : Int) := by have := h.pos; omega
  have hf : (ps.length : Int) ≤ 22 := by have := h.few; omega
  have hi : ((ps.length : Int) - 1).toNat = ps.length - 1 := by omega
  have h9 : ¬ ((ps.length : Int) - 1 < 0) := by omega
  have h8 : (ps.length : Int) - 1 < (ps.length : Int) := by omega
  have hru := hide ((h.parts _ p hp).runes)
  obtain ⟨pa, pc, xs⟩ := p
  unfold PartM.val at hc
  simp only at hc hru
  clear h h4 hp
  cases xs with
  | nil =>
    have hl : ¬ (0 : Int) < (([] : List Int).length : Int) := by simp
    by_cases hn : ps.length = 1
    · cases ended
      · rw [show peekP ⟨pa, pc, []⟩ ps.length false = (0, false) by simp [peekP]]
        have h1e : ((ps.length : Int) - 1 == 0) = true := by simp; omega
        clear hn
        go_enter Try.func24, Try.ntmps24
        go_wp2_with (go_at_call 35; go_must (refine (made_any ((unhide H) 0)).mono ?_); rintro e w' ⟨rfl, rfl⟩)
        go_quiet ((go_at_call 36; exact quietC (last_any ((unhide H) _))))
        go_wp2_with (go_at_call 13; go_must (refine (marks_any ((unhide H) _)).mono ?_); rintro e w' ⟨rfl, rfl⟩)
        go_ret2
        exact ⟨rfl, _, rfl⟩
      · rw [show peekP ⟨pa, pc, []⟩ ps.length true = (-1, true) by simp [peekP, hn]]
        have h1e : ((ps.length : Int) - 1 == 0) = true := by simp; omega
        clear hn
        go_enter Try.func24, Try.ntmps24
        go_wp2_with (go_at_call 35; go_must (refine (made_any ((unhide H) 0)).mono ?_); rintro e w' ⟨rfl, rfl⟩)
        go_quiet ((go_at_call 36; exact quietC (last_any ((unhide H) _))))
        go_wp2_with (go_at_call 13; go_must (refine (marks_any ((unhide H) _)).mono ?_); rintro e w' ⟨rfl, rfl⟩)
        go_ret2
        exact ⟨rfl, _, rfl⟩
    · rw [show peekP ⟨pa, pc, []⟩ ps.length ended = (0, false) by simp [peekP, hn]]
      have h1e : ((ps.length : Int) - 1 == 0) = false := by simp; omega
      go_enter Try.func24, Try.ntmps24
      go_wp2_with (go_at_call 35; go_must (refine (made_any ((unhide H) 0)).mono ?_); rintro e w' ⟨rfl, rfl⟩)
      go_quiet ((go_at_call 36; exact quietC (last_any ((unhide H) _))))
      go_wp2_with (go_at_call 13; go_must (refine (marks_any ((unhide H) _)).mono ?_); rintro e w' ⟨rfl, rfl⟩)
      go_ret2
      exact ⟨rfl, _, rfl⟩
  | cons x xs =>
    obtain ⟨b, off, ha, hx⟩ := unhide hru 0 x rfl
    simp at hx
    subst ha
    show Calls Try.prog 24 #[.pointer (some ⟨bS, 0, none⟩)] w fun e w' => e = .returned (.tuple #[.int .i32 x, .bool true]) ∧ ∃ n, w' = w.drewN n
    have hl : (0 : Int) < ((x :: xs).length : Int) := by simp only [List.length_cons]; omega
    go_enter Try.func24, Try.ntmps24
    go_wp2_with (go_at_call 35; go_must (refine (made_any ((unhide H) 0)).mono ?_); rintro e w' ⟨rfl, rfl⟩)
    go_quiet ((go_at_call 36; exact quietC (last_any ((unhide H) _))))
    go_wp2
    go_ret2
    exact ⟨rfl, _, rfl⟩

/-- The rest of a part. -/
theorem part_tail {w : World} {base b off pc : Nat} {x : Int} {xs : List Int} (h : PartAt w base ⟨some ⟨b, off, none⟩, pc, x :: xs⟩) :
    PartAt w base ⟨some (if pc = 1 then ⟨b, off, none⟩ else ⟨b, off + 1, none⟩), pc - 1, xs⟩ ∧ ∀ k, (PartM.own ⟨some (if pc = 1 then ⟨b, off, none⟩ else ⟨b, off + 1, none⟩), pc - 1, xs⟩) = some k → PartM.own ⟨some ⟨b, off, none⟩, pc, x :: xs⟩ = some k := by
  have hl := h.len
  simp only [List.length_cons] at hl
  have hm := h.most
  simp only at hm
  by_cases h1 : pc = 1
  · subst h1
    obtain rfl : xs = [] := List.eq_nil_of_length_eq_zero (by omega)
    exact ⟨PartAt.nil _ _ _, fun k hk => by simp [PartM.own] at hk⟩
  · obtain ⟨g, off', cur, ha, hbb, hg, hsz, hc⟩ := h.cellsAll (by simp only; omega)
    cases ha
    simp only at hsz
    refine ⟨⟨by simp only; omega, by simp only; omega, .inr ⟨b, off + 1, cur, by simp [h1], hbb, hg, by simp only; omega, fun j y hj => ?_⟩⟩, fun k hk => ?_⟩
    · have := hc (j + 1) y (by simpa using hj)
      rw [show off + 1 + j = off + (j + 1) by omega]
      exact this
    · unfold PartM.own at hk ⊢
      simp only [h1, if_false] at hk
      rw [if_neg (by omega)] at hk
      simp only at hk ⊢
      rw [if_neg (by omega)]
      simpa using hk

set_option maxHeartbeats 1000000 in
theorem skip_at (h : StrAt w base bS bP pcap bC ps cr ended dropped) {p : PartM} (hp : ps[ps.length - 1]? = some p) (hx : p.xs ≠ []) : Calls Try.prog 39 #[.pointer (some ⟨bS, 0, none⟩)] w fun e w' =>
    e = .returned (.tuple #[]) ∧ ∃ p' w1, w' = w1.setCell ⟨bP, ps.length - 1, none⟩ p'.val ∧ Below w.heap.size w w1 ∧ PartAt w base p' ∧ p'.xs = p.xs.tail ∧ ∀ k, p'.own = some k → p.own = some k := by
  obtain ⟨h0, h1, h2, h3, h4⟩ := h.cells
  have H := hide h
  obtain ⟨hc, hfz⟩ := h.cellP hp
  have hpos : (0 : Int) < (ps.length : Int) := by have := h.pos; omega
  have hf : (ps.length : Int) ≤ 22 := by have := h.few; omega
  have hi : ((ps.length : Int) - 1).toNat = ps.length - 1 := by omega
  have h9 : ¬ ((ps.length : Int) - 1 < 0) := by omega
  have h8 : (ps.length : Int) - 1 < (ps.length : Int) := by omega
  have hlt := h.lt.2.1
  have hPA := h.parts _ p hp
  obtain ⟨pa, pc, xs⟩ := p
  unfold PartM.val at hc
  simp only at hc hx
  cases xs with
  | nil => exact absurd rfl hx
  | cons x xs =>
    obtain ⟨b, off, ha, _⟩ := hPA.runes 0 x rfl
    simp only at ha
    subst ha
    have HT := hide (part_tail hPA)
    have hlen := hPA.len
    have hmo := hPA.most
    simp only at hlen hmo
    unfold maxLen at hmo
    have hl : (0 : Int) < ((x :: xs).length : Int) := by simp only [List.length_cons]; omega
    clear h h4 hp hPA hx
    by_cases hp1 : pc = 1
    · go_enter Try.func39, Try.ntmps39
      go_wp2_with (go_at_call 36; go_must (refine (last_any (unhide H)).mono ?_); rintro e w' ⟨rfl, rfl⟩)
      go_region
      all_goals
        go_end0
        refine ⟨rfl, _, w.drew, ?_, (Below.refl _ w).drew, (unhide HT).1, rfl, (unhide HT).2⟩
        unfold PartM.val
        simp [hp1]
        rfl
    · have hp2 : ¬ pc - 1 = 0 := by omega
      go_enter Try.func39, Try.ntmps39
      go_wp2_with (go_at_call 36; go_must (refine (last_any (unhide H)).mono ?_); rintro e w' ⟨rfl, rfl⟩)
      go_region
      all_goals
        go_end0
        refine ⟨rfl, _, w.drew, ?_, (Below.refl _ w).drew, (unhide HT).1, rfl, (unhide HT).2⟩
        unfold PartM.val
        simp [hp1]
        rfl

theorem skip_none (h : StrAt w base bS bP pcap bC ps cr ended dropped) {p : PartM} (hp : ps[ps.length - 1]? = some p) (hx : p.xs = []) : Calls Try.prog 39 #[.pointer (some ⟨bS, 0, none⟩)] w fun e w' => e = .returned (.tuple #[]) ∧ w = w' := by
  obtain ⟨h0, h1, h2, h3, h4⟩ := h.cells
  have H := hide h
  have hc := (h.cellP hp).1
  have hpos : (0 : Int) < (ps.length : Int) := by have := h.pos; omega
  have hf : (ps.length : Int) ≤ 22 := by have := h.few; omega
  have hi : ((ps.length : Int) - 1).toNat = ps.length - 1 := by omega
  have h9 : ¬ ((ps.length : Int) - 1 < 0) := by omega
  have h8 : (ps.length : Int) - 1 < (ps.length : Int) := by omega
  unfold PartM.val at hc
  rw [hx] at hc
  have hl : ¬ (0 : Int) < (([] : List Int).length : Int) := by simp
  clear h h4 hp hx
  go_enter Try.func39, Try.ntmps39
  go_wp2_with (go_at_call 36; go_must (refine (last_any (unhide H)).mono ?_); rintro e w' ⟨rfl, rfl⟩)
  go_end0
  exact ⟨rfl, rfl⟩
end
end Go.Proofs.Ytlhebbhpcepfhaa
