/-
  A stream of package input in memory, and its calls that only read.
-/
import Derived.Test.YtlhebbhpcepfhaaPc
namespace Go.Proofs.Ytlhebbhpcepfhaa
open Go.RowKit

def lenP (ps : List PartM) : Nat := (ps.map fun p => p.xs.length).sum

/-- A stream at block bS: its parts' row at bP, the memory of its line ends at bC. -/
structure StrAt (w : World) (base bS bP pcap bC : Nat) (ps : List PartM) (cr ended dropped : Bool) : Prop where
  box : w.heap[bS]? = some (.cells #[.slice (some ⟨bP, 0, none⟩) ps.length pcap, .func (.func 41) #[] #[.pointer (some ⟨bC, 0, none⟩)], .bool ended, .bool dropped] 52 (0, 0))
  row : w.ownsRow base 28 1 (.slice (some ⟨bP, 0, none⟩) ps.length pcap) ps.length (ps.map PartM.val)
  mem : Cr w bC cr
  parts : ∀ (i : Nat) p, ps[i]? = some p → PartAt w base p
  apart : ∀ (i j : Nat) p q, i ≠ j → ps[i]? = some p → ps[j]? = some q → p.own = none ∨ p.own ≠ q.own
  pos : 0 < ps.length
  few : ps.length ≤ 22
  lo : base ≤ bS ∧ base ≤ bC

/-- The blocks of a stream. -/
def footS (bS bP bC : Nat) (ps : List PartM) (k : Nat) : Prop := k = bS ∨ k = bP ∨ k = bC ∨ ∃ p ∈ ps, p.own = some k

section
variable {w w' : World} {base bS bP pcap bC : Nat} {ps : List PartM} {cr ended dropped : Bool}

theorem StrAt.cells (h : StrAt w base bS bP pcap bC ps cr ended dropped) : w.cell? ⟨bS, 0, none⟩ = some (.slice (some ⟨bP, 0, none⟩) ps.length pcap) ∧ w.cell? ⟨bS, 1, none⟩ = some (.func (.func 41) #[] #[.pointer (some ⟨bC, 0, none⟩)]) ∧
    w.cell? ⟨bS, 2, none⟩ = some (.bool ended) ∧ w.cell? ⟨bS, 3, none⟩ = some (.bool dropped) ∧ ∀ j, w.frozen? ⟨bS, j, none⟩ = false := by
  have hb := h.box
  exact ⟨by simp [World.cell?, hb], by simp [World.cell?, hb], by simp [World.cell?, hb], by simp [World.cell?, hb], fun j => by simp [World.frozen?, hb]⟩
theorem StrAt.blockP (h : StrAt w base bS bP pcap bC ps cr ended dropped) : ∃ cur, w.heap[bP]? = some (.cells cur 28 (0, 0)) ∧ ps.length ≤ pcap ∧ pcap ≤ maxLen ∧ base ≤ bP := by
  rcases h.row.2 with ⟨h', _⟩ | ⟨g', cap', cur, h', hb, hg, h1, h2, _⟩
  · simp at h'
  · simp only [Value.slice.injEq, Option.some.injEq, Addr.mk.injEq, and_true, true_and] at h'
    obtain ⟨rfl, rfl⟩ := h'
    exact ⟨cur, hg, h1, h2, hb⟩
theorem StrAt.cellP (h : StrAt w base bS bP pcap bC ps cr ended dropped) {i : Nat} {p : PartM} (hi : ps[i]? = some p) : w.cell? ⟨bP, i, none⟩ = some p.val ∧ w.frozen? ⟨bP, i, none⟩ = false := by
  have hlt := (List.getElem?_eq_some_iff.1 hi).1
  refine ⟨?_, h.row.frozenAt i⟩
  rw [h.row.cellAt i (by omega)]
  simp [hi]
theorem StrAt.ne (h : StrAt w base bS bP pcap bC ps cr ended dropped) : bS ≠ bP ∧ bS ≠ bC ∧ bP ≠ bC := by
  obtain ⟨cur, hp, _⟩ := h.blockP
  have hb := h.box
  have hm := h.mem
  unfold Cr at hm
  refine ⟨?_, ?_, ?_⟩ <;> rintro rfl
  · rw [hb] at hp; cases hp
  · rw [hb] at hm; cases hm
  · rw [hp] at hm; cases hm
theorem StrAt.neP (h : StrAt w base bS bP pcap bC ps cr ended dropped) {i : Nat} {p : PartM} (hi : ps[i]? = some p) : p.own ≠ some bS ∧ p.own ≠ some bP ∧ p.own ≠ some bC := by
  obtain ⟨cur, hp, _⟩ := h.blockP
  have hb := h.box
  refine ⟨fun e => ?_, fun e => ?_, cr_own (h.parts i p hi) h.mem⟩
  · obtain ⟨_, _, cu, hc⟩ := (h.parts i p hi).own_lt e; rw [hb] at hc; cases hc
  · obtain ⟨_, _, cu, hc⟩ := (h.parts i p hi).own_lt e; rw [hp] at hc; cases hc
theorem StrAt.lt (h : StrAt w base bS bP pcap bC ps cr ended dropped) : bS < w.heap.size ∧ bP < w.heap.size ∧ bC < w.heap.size := by
  obtain ⟨cur, hp, _⟩ := h.blockP
  exact ⟨lt_of_block h.box, lt_of_block hp, h.mem.lt⟩
theorem StrAt.foot_lt (h : StrAt w base bS bP pcap bC ps cr ended dropped) {k : Nat} (hk : footS bS bP bC ps k) : base ≤ k ∧ k < w.heap.size := by
  obtain ⟨cur, hp, _, _, hbp⟩ := h.blockP
  rcases hk with rfl | rfl | rfl | ⟨p, hpm, hk⟩
  · exact ⟨h.lo.1, h.lt.1⟩
  · exact ⟨hbp, h.lt.2.1⟩
  · exact ⟨h.lo.2, h.lt.2.2⟩
  · obtain ⟨i, hi⟩ := List.mem_iff_getElem?.1 hpm
    have := (h.parts i p hi).own_lt hk
    exact ⟨this.1, this.2.1⟩
theorem ownsRow_kept {e : TypeId} {size : Nat} {v : Value} {n : Nat} {xs : List Value} (h : w.ownsRow base e size v n xs) (hk : ∀ k, v.ownBlock = some k → w'.heap[k]? = w.heap[k]?) : w'.ownsRow base e size v n xs := by
  refine ⟨h.1, ?_⟩
  rcases h.2 with hn | ⟨g', cap', cur, rfl, hbb, hgg, rest⟩
  · exact .inl hn
  · exact .inr ⟨g', cap', cur, rfl, hbb, by rw [hk g' rfl]; exact hgg, rest⟩
/-- Where its blocks stay as they are, it stays as it is. -/
theorem StrAt.same (h : StrAt w base bS bP pcap bC ps cr ended dropped) (hb : ∀ k, footS bS bP bC ps k → w'.heap[k]? = w.heap[k]?) : StrAt w' base bS bP pcap bC ps cr ended dropped :=
  ⟨by rw [hb bS (.inl rfl)]; exact h.box, ownsRow_kept h.row (fun k hk => by simp [Value.ownBlock] at hk; subst hk; exact hb _ (.inr (.inl rfl))), by unfold Cr; rw [hb bC (.inr (.inr (.inl rfl)))]; exact h.mem,
    fun i p hi => (h.parts i p hi).kept (fun k hk => hb k (.inr (.inr (.inr ⟨p, List.mem_of_getElem? hi, hk⟩)))), h.apart, h.pos, h.few, h.lo⟩
theorem StrAt.below (h : StrAt w base bS bP pcap bC ps cr ended dropped) (hb : Below w.heap.size w w') : StrAt w' base bS bP pcap bC ps cr ended dropped := h.same fun _ hk => hb.block _ (h.foot_lt hk).2
theorem StrAt.mod {F : Nat → Prop} (h : StrAt w base bS bP pcap bC ps cr ended dropped) (hm : Mod F w w') (hF : ∀ k, footS bS bP bC ps k → ¬ F k) : StrAt w' base bS bP pcap bC ps cr ended dropped :=
  h.same fun k hk => hm.block k (h.foot_lt hk).2 (hF k hk)
end

section
variable {w : World} {base bS bP pcap bC : Nat} {ps : List PartM} {cr ended dropped : Bool}

theorem made_any (h : StrAt w base bS bP pcap bC ps cr ended dropped) : Calls Try.prog 35 #[.pointer (some ⟨bS, 0, none⟩)] w fun e w' => e = .returned (.bool true) ∧ w = w' := by
  obtain ⟨h0, _, _, _, _⟩ := h.cells
  have hp := hide h.pos
  clear h
  go_enter Try.func35, Try.ntmps35
  go_wp2
  go_ret
  exact ⟨by simpa using unhide hp, rfl⟩
theorem last_any (h : StrAt w base bS bP pcap bC ps cr ended dropped) : Calls Try.prog 36 #[.pointer (some ⟨bS, 0, none⟩)] w fun e w' => e = .returned (.int .i64 ((ps.length : Int) - 1)) ∧ w = w' := by
  obtain ⟨h0, _, _, _, _⟩ := h.cells
  have hp : (0 : Int) < (ps.length : Int) := by have := h.pos; omega
  have hf : (ps.length : Int) ≤ 22 := by have := h.few; omega
  clear h
  go_enter Try.func36, Try.ntmps36
  go_wp2
  go_ret
  exact ⟨rfl, rfl⟩
theorem marks_any (h : StrAt w base bS bP pcap bC ps cr ended dropped) : Calls Try.prog 13 #[.pointer (some ⟨bS, 0, none⟩)] w fun e w' => e = .returned (.int .i64 ((ps.length : Int) - 1)) ∧ w = w' := by
  have H := hide h
  clear h
  go_enter Try.func13, Try.ntmps13
  go_wp2_with (first
    | (go_at_call 35; go_must (refine (made_any (unhide H)).mono ?_); rintro e w' ⟨rfl, rfl⟩)
    | (go_at_call 36; go_must (refine (last_any (unhide H)).mono ?_); rintro e w' ⟨rfl, rfl⟩))
  go_ret
  exact ⟨rfl, rfl⟩

theorem lenP_append (a b : List PartM) : lenP (a ++ b) = lenP a + lenP b := by simp [lenP]
theorem lenP_take (ps : List PartM) (i : Nat) {p : PartM} (hi : ps[i]? = some p) : lenP (ps.take (i + 1)) = lenP (ps.take i) + p.xs.length := by
  obtain ⟨hlt, rfl⟩ := List.getElem?_eq_some_iff.1 hi
  rw [List.take_succ_eq_append_getElem hlt, lenP_append]
  simp [lenP]
theorem lenP_le (ps : List PartM) (i : Nat) : lenP (ps.take i) ≤ lenP ps := by
  have h : lenP ps = lenP (ps.take i) + lenP (ps.drop i) := by rw [← lenP_append, List.take_append_drop]
  omega

set_option maxHeartbeats 1000000 in
theorem len_any (h : StrAt w base bS bP pcap bC ps cr ended dropped) (hmo : lenP ps ≤ 1048576) : Calls Try.prog 12 #[.pointer (some ⟨bS, 0, none⟩)] w fun e w' => e = .returned (.int .i64 (lenP ps : Int)) ∧ w = w' := by
  obtain ⟨h0, _, _, _, _⟩ := h.cells
  have hf : (ps.length : Int) ≤ 22 := by have := h.few; omega
  have H := hide h
  clear h
  go_enter Try.func12, Try.ntmps12
  go_wp2_with (go_at_call 35; go_must (refine (made_any (unhide H)).mono ?_); rintro e w' ⟨rfl, rfl⟩)
  go_loop [3, 14] (fun s3 s14 => ∃ i : Nat, i ≤ ps.length ∧ s14 = .int .i64 i ∧ s3 = .int .i64 (lenP (ps.take i) : Int)) (fun _ s14 => ps.length - (intOf s14).toNat)
  case atStart => exact ⟨0, Nat.zero_le _, rfl, rfl⟩
  case round =>
    obtain ⟨i, hi, rfl, rfl⟩ := hrel
    by_cases hil : i < ps.length
    · have hiz : (i : Int) < (ps.length : Int) := by omega
      obtain ⟨p, hp⟩ : ∃ p, ps[i]? = some p := ⟨_, List.getElem?_eq_getElem hil⟩
      have hc := ((unhide H).cellP hp).1
      have hn := lenP_take ps i hp
      have hle := lenP_le ps (i + 1)
      have HN := hide hn
      unfold PartM.val at hc
      obtain ⟨pa, pc, xs⟩ := p
      simp only at hc HN hn
      have hs : (lenP (ps.take i) : Int) + (xs.length : Int) ≤ 1048576 := by omega
      have hs0 : 0 ≤ (lenP (ps.take i) : Int) := by omega
      clear hn hle hp hmo
      go_wp2
      go_round
      case rel => exact ⟨i + 1, by omega, by go_num, by rw [unhide HN]; go_num⟩
      case measure => simp [intOf]; omega
    · obtain rfl : i = ps.length := by omega
      have hiz : ¬ (ps.length : Int) < (ps.length : Int) := by omega
      rw [List.take_length]
      go_wp2
      go_ret
      exact ⟨rfl, rfl⟩

theorem room_any (h : StrAt w base bS bP pcap bC ps cr ended dropped) (hmo : lenP ps ≤ 1048576) (a : Option Addr) (n c : Nat) : Calls Try.prog 37 #[.pointer (some ⟨bS, 0, none⟩), .slice a n c] w fun e w' => e = .returned (.bool (decide (n + lenP ps ≤ 1048576))) ∧ w = w' := by
  have hl := hide (len_any h hmo)
  have hs : IntKind.i64.wrap (1048576 - (lenP ps : Int)) = 1048576 - (lenP ps : Int) := by rw [IntKind.wrap_i64]; omega
  have hd : decide (n + lenP ps ≤ 1048576) = decide ((n : Int) ≤ 1048576 - (lenP ps : Int)) := by rw [Bool.eq_iff_iff]; simp; omega
  rw [hd]
  clear h hd
  go_enter Try.func37, Try.ntmps37
  go_wp2_with (go_at_call 12; go_must (refine (unhide hl).mono ?_); rintro e w' ⟨rfl, rfl⟩)
  go_ret
  exact ⟨rfl, rfl⟩
end
end Go.Proofs.Ytlhebbhpcepfhaa
