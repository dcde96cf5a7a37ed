/-
  The program's escape: a text escaped behind what a builder holds. strings.Builder's String; the program's Escape.
-/
import Derived.Test.YtmnmaenmoaehlaaGreatDoorSZai
namespace Go.Proofs.YtmnmaenmoaehlaaGreatDoor
open Go.RowKit Go.Lib

theorem oneL_len (attr : Bool) (c : UInt8) : (oneL attr c).length ≤ 6 := by
  unfold oneL ampL quotL ltL gtL
  cases attr
  all_goals (repeat' split)
  all_goals simp
theorem esc_len (attr : Bool) : ∀ (n : Nat) (l : List UInt8), l.length ≤ n → (escL attr l).length ≤ 6 * l.length := by
  intro n
  induction n with
  | zero => intro l h; cases l with
    | nil => simp [escL]
    | cons c t => simp at h
  | succ n ih =>
    intro l h
    match l, h with
    | [], _ => simp [escL]
    | [c], _ => have := oneL_len attr c; simpa [escL] using this
    | c :: d :: t, h =>
      have h1 := oneL_len attr c
      have h2 := ih (d :: t) (by simp at h ⊢; omega)
      have h3 := ih t (by simp at h ⊢; omega)
      rw [escL]
      split
      · simp [nbspL]; omega
      · simp at h2 ⊢; omega
theorem wordL_len (attr : Bool) (r : Int) : (wordL attr r).length ≤ 6 := by
  unfold wordL ampL quotL ltL gtL nbspL
  cases attr
  all_goals (repeat' split)
  all_goals simp

/-- The state of the loop of escape at the place j: what is told (out) and what is left over from done on. -/
structure EscAt (attr : Bool) (l : List UInt8) (done j : Nat) (out : List UInt8) : Prop where
  le : done ≤ j
  lej : j ≤ l.length
  len : out.length ≤ 6 * done
  eq : escL attr l = out ++ ((l.drop done).take (j - done) ++ escL attr (l.drop j))

theorem EscAt.start (attr : Bool) (l : List UInt8) : EscAt attr l 0 0 [] := ⟨Nat.le_refl _, by omega, by simp, by simp⟩
theorem EscAt.skip {attr : Bool} {l : List UInt8} {done j q : Nat} {out : List UInt8} {r : Int} (h : EscAt attr l done j out) (hs : StepR attr (l.drop j) r q) (hw : wordL attr r = []) : EscAt attr l done (j + q) out := by
  have h1 := hs.le
  rw [List.length_drop] at h1
  have h2 := h.le
  have h3 := h.lej
  refine ⟨by omega, by have := hs.pos; omega, h.len, ?_⟩
  rw [h.eq, hs.same hw]
  have e1 : (l.drop done).take (j + q - done) = (l.drop done).take (j - done) ++ (l.drop j).take q := by
    have e : j + q - done = (j - done) + q := by omega
    rw [e, List.take_add, List.drop_drop]
    congr 3
    omega
  rw [e1, List.drop_drop]
  simp only [List.append_assoc]
theorem EscAt.tell {attr : Bool} {l : List UInt8} {done j q : Nat} {out : List UInt8} {r : Int} (h : EscAt attr l done j out) (hs : StepR attr (l.drop j) r q) (hw : wordL attr r ≠ []) : EscAt attr l (j + wideN r) (j + q) ((out ++ (l.drop done).take (j - done)) ++ wordL attr r) := by
  have h1 := hs.le
  rw [List.length_drop] at h1
  have h2 := h.le
  have h3 := h.lej
  have h4 := h.len
  obtain ⟨e1, e2⟩ := hs.word hw
  subst e1
  have h5 := hs.pos
  have h6 := wordL_len attr r
  refine ⟨Nat.le_refl _, by omega, ?_, ?_⟩
  · simp only [List.length_append, List.length_take, List.length_drop]; omega
  · rw [h.eq, e2, List.drop_drop]; simp
theorem EscAt.done {attr : Bool} {l : List UInt8} {done : Nat} {out : List UInt8} (h : EscAt attr l done l.length out) : escL attr l = out ++ l.drop done := by
  rw [h.eq, List.drop_length, escL, List.append_nil]
  congr 1
  exact List.take_of_length_le (by simp)

theorem extract_list (s : ByteArray) (a b : Nat) : (s.extract a b).data.toList = (s.data.toList.drop a).take (b - a) := by
  simp [ByteArray.data_extract]
theorem below_dn {B : Nat} {a w : World} (h : Below B a w) (n : Nat) : Below B a (w.drewN n) := ⟨h.os, h.tape, h.output, h.size, h.block⟩
theorem len_data (s : ByteArray) : s.data.toList.length = s.size := by show _ = s.data.size; simp

theorem kept_iterAt {e : TypeId} {b : Option Nat} {a w : World} (h : OthersKept e b a w) {k : Nat} (hk : a.heap.size ≤ k) (s : ByteArray) (pos : Nat) : OthersKept e b a (w.iterAt k s pos) := by
  intro i x hi hb hx
  have hlt : i < a.heap.size := (Array.getElem?_eq_some_iff.1 hi).1
  rw [iterAt_other w k i s pos (by omega)]
  exact h i x hi hb hx
theorem kept_iter {b : Nat} {w w' : World} (h : OthersKept 5 (some b) w w') {k : Nat} {s : ByteArray} {pos : Nat} (hk : w.heap[k]? = some (.stringIter s pos)) (hb : b < k) : w'.heap[k]? = some (.stringIter s pos) :=
  h k _ hk (by intro e; injection e with e; omega) (fun c fz e => by cases e)
theorem word_size (attr : Bool) (r : Int) : (wordS attr r).size ≤ 6 := by
  have h := wordL_len attr r
  have : (wordS attr r).size = (wordL attr r).length := by unfold wordS; show Array.size _ = _; simp
  omega
theorem word_data (attr : Bool) (r : Int) : (wordS attr r).data.toList = wordL attr r := by unfold wordS; simp
theorem word_nil {attr : Bool} {r : Int} (h : wordL attr r = []) : wordS attr r = ⟨#[]⟩ := by unfold wordS; rw [h]
theorem word_ne {attr : Bool} {r : Int} (h : wordL attr r ≠ []) : ((wordS attr r).toList == []) = false := by
  rw [toList_data, word_data]
  cases hc : wordL attr r with
  | nil => exact absurd hc h
  | cons _ _ => rfl

set_option maxHeartbeats 4000000 in
set_option maxRecDepth 10000 in
theorem escape_any {pre : List Value} {T : TypeId} {o B b : Nat} {l : List UInt8} {w : World} (ok : BOk pre T o) (s : ByteArray) (attr : Bool) (h : IsBld pre T o B b l w) (hlen : l.length + 6 * s.size ≤ 140737488355328) (hBw : B ≤ w.heap.size) :
    Calls Tryz.prog 94 #[.pointer (some ⟨b, o, none⟩), .string s, .bool attr] w fun e w' => e = .returned (.tuple #[]) ∧ Bld pre T B b (.pointer (some ⟨b, o, none⟩)) (l ++ escL attr s.data.toList) w' ∧ Below B w w' ∧ OthersKept 5 (some b) w w' := by
  have HOK := hidE ok
  have HS := hidE h
  have hsz : (s.size : Int) ≤ 140737488355328 := by omega
  have HLEN := hidE hlen
  clear h ok hlen
  go_enter Tryz.func94, Tryz.ntmps94
  go_wp2
  go_loopg [6, 7, 8, 9] s.size (fun k s6 _ _ _ wx => ∃ (j done : Nat) (out : List UInt8), s6 = .int .i64 done ∧ j + k = s.size ∧ EscAt attr s.data.toList done j out ∧ wx.heap[w.heap.size]? = some (.stringIter s j) ∧ IsBld pre T o B b (l ++ out) wx ∧ Below B w wx ∧ OthersKept 5 (some b) w wx)
  case atStart => exact ⟨0, 0, [], rfl, by omega, EscAt.start attr _, World.iter_heap w s 0, by rw [List.append_nil]; exact (unhidE HS).alloc _, (Below.refl B w).alloc hBw _, (OthersKept.refl 5 (some b) w).alloc _⟩
  case round =>
    obtain ⟨j, done, out, rfl, hjk, hE, hit, hB, hb, hk⟩ := hrel
    have hd1 := hE.le
    have hd3 := hE.len
    have hBx : B ≤ wr.heap.size := Nat.le_trans hBw hb.size
    have hlt : b < w.heap.size := (unhidE HS).lt
    by_cases hj : j < s.size
    · have hjz : (j : Int) < (s.size : Int) := by omega
      have hjz' : (j : Int) ≤ (s.size : Int) := by omega
      have hdz : (done : Int) ≤ (j : Int) := by omega
      have hnx := fun ty => run_next_any_at (P := Tryz.prog) wr w.heap.size s j ty hit hj
      have hst := decode_step attr s j hj
      obtain ⟨r, q, hq⟩ : ∃ r q, Utf8.decode s j = (r, q) := ⟨_, _, rfl⟩
      rw [hq] at hst hnx
      have hst' : StepR attr (s.data.toList.drop j) (r : Int) q := hst
      have hqp := hst'.pos
      have hqle := hst'.le
      rw [List.length_drop, len_data] at hqle
      have hit1 := iterAt_heap wr w.heap.size s j (j + q) hit
      have hB1 := hB.iterAt hit (j + q)
      have hb1 := below_iterAt hb hBw s (j + q)
      have hk1 := kept_iterAt hk (Nat.le_refl _) s (j + q)
      clear hst hB hb hk hq hit
      have hnx' : ∀ ty, (Instr.next (.pointer (some ⟨w.heap.size, 0, none⟩)) true ty).run Tryz.prog wr = .ok (.tuple #[.bool true, .int .i64 j, .int .i32 r]) (wr.iterAt w.heap.size s (j + q)) := hnx
      clear hnx
      generalize wr.iterAt w.heap.size s (j + q) = w1 at hit1 hB1 hb1 hk1 hnx'
      have hB1x : B ≤ w1.heap.size := Nat.le_trans hBw hb1.size
      have HE := hidE hE
      have HST := hidE hst'
      have HI := hidE hit1
      have HB := hidE hB1
      have HBB := hidE hb1
      have HK := hidE hk1
      clear hE hst' hit1 hB1 hb1 hk1
      by_cases hw : wordL attr (r : Int) = []
      · have hrf := fun W => reference_any (r : Int) attr W
        rw [word_nil hw] at hrf
        have HRF := hidE hrf
        have HW := hidE hw
        clear hrf hw
        go_wp2_with (go_at_call 112; refine (unhidE HRF _).mono ?_; rintro e w2 ⟨rfl, rfl⟩)
        go_roundg (gk - q)
        case measure => omega
        case rel => exact ⟨j + q, done, out, rfl, by omega, (unhidE HE).skip (unhidE HST) (unhidE HW), unhidE HI, unhidE HB, unhidE HBB, unhidE HK⟩
      · have HRF := hidE (fun W => reference_any (r : Int) attr W)
        have hne := word_ne hw
        have HRL := hidE (fun W => runeLen_word attr (r : Int) hw W)
        have HW := hidE hw
        have hwd := word_data attr (r : Int)
        have hws := word_size attr (r : Int)
        generalize wordS attr (r : Int) = ws at HRF hne hwd hws
        have HWD := hidE hwd
        have hex := extract_list s done j
        have hxs : (s.extract done j).size = j - done := by rw [ByteArray.size_extract]; omega
        have HEX := hidE hex
        have HXS := hidE hxs
        clear hw hwd hex hxs
        have hwi : (wideN (r : Int) : Int) ≤ 2 := by unfold wideN; split <;> simp
        have hwi0 : (0 : Int) ≤ (wideN (r : Int) : Int) := by omega
        generalize hwN : wideN (r : Int) = wn at HRL hwi hwi0
        have HWN := hidE hwN
        clear hwN
        go_wp2_with (first
          | (go_at_call 112; refine (unhidE HRF _).mono ?_; rintro e w2 ⟨rfl, rfl⟩)
          | (go_at_call 113; refine (unhidE HRL _).mono ?_; rintro e w5 ⟨rfl, rfl⟩)
          | (go_at_call 111; have _x := unhidE HB3; refine (write_any (unhidE HOK) ws (.inr (unhidE HB3)) (by rw [List.length_append, List.length_append, unhidE HEX, List.length_take, List.length_drop, len_data]; have := unhidE HLEN; omega) (Nat.le_trans hB1x (unhidE HBB3).size)).mono ?_; rintro e w4 ⟨rfl, hB4, hb4, hk4⟩; have HB4 := hidE hB4; have HBB4 := hidE hb4; have HK4 := hidE hk4; clear hB4 hb4 hk4)
          | (go_at_call 111; refine (write_any (unhidE HOK) (s.extract done j) (unhidE HB) (by rw [List.length_append, unhidE HXS]; have := unhidE HLEN; omega) hB1x).mono ?_; rintro e w3 ⟨rfl, hB3, hb3, hk3⟩; have HB3 := hidE hB3; have HBB3 := hidE hb3; have HK3 := hidE hk3; clear hB3 hb3 hk3))
        go_roundg (gk - q)
        case measure => omega
        case rel =>
          have hbw : Below B w w5 := ((unhidE HBB).trans (unhidE HBB3)).trans (unhidE HBB4)
          refine ⟨j + q, j + wn, (out ++ (s.data.toList.drop done).take (j - done)) ++ wordL attr (r : Int), by push_cast; rfl, by omega, ?_, kept_iter (unhidE HK4) (kept_iter (unhidE HK3) (unhidE HI) hlt) hlt, .inr ?_, hbw, ((unhidE HK).trans (unhidE HK3)).trans (unhidE HK4)⟩
          · rw [← unhidE HWN]; exact (unhidE HE).tell (unhidE HST) (unhidE HW)
          · have := unhidE HB4
            rw [unhidE HEX, unhidE HWD] at this
            rw [show l ++ ((out ++ (s.data.toList.drop done).take (j - done)) ++ wordL attr (r : Int)) = l ++ out ++ (s.data.toList.drop done).take (j - done) ++ wordL attr (r : Int) by simp only [List.append_assoc]]
            exact this
    · obtain rfl : j = s.size := by have := hE.lej; rw [len_data] at this; omega
      have hnx := fun ty => run_next_end_at (P := Tryz.prog) wr w.heap.size s s.size ty hit (Nat.lt_irrefl _)
      have hdz : (done : Int) ≤ (s.size : Int) := by omega
      have hfin : escL attr s.data.toList = out ++ s.data.toList.drop done := by
        have h2 := hE
        rw [← len_data s] at h2
        exact h2.done
      have hex := extract_list s done s.size
      have htk : (s.data.toList.drop done).take (s.size - done) = s.data.toList.drop done := List.take_of_length_le (by rw [List.length_drop, len_data]; omega)
      rw [htk] at hex
      have hxs : (s.extract done s.size).size = s.size - done := by rw [ByteArray.size_extract]; omega
      have HFIN := hidE hfin
      have HEX := hidE hex
      have HXS := hidE hxs
      have HB := hidE hB
      have HBB := hidE hb
      have HK := hidE hk
      clear hfin hex htk hxs hE hit hB hb hk
      go_wp2_with (go_at_call 111; refine (write_any (unhidE HOK) (s.extract done s.size) (unhidE HB) (by rw [List.length_append, unhidE HXS]; have := unhidE HLEN; omega) hBx).mono ?_; rintro e w3 ⟨rfl, hB3, hb3, hk3⟩; have HB3 := hidE hB3; have HBB3 := hidE hb3; have HK3 := hidE hk3; clear hB3 hb3 hk3)
      go_end0
      refine ⟨rfl, ?_, (unhidE HBB).trans (unhidE HBB3), (unhidE HK).trans (unhidE HK3)⟩
      have := unhidE HB3
      rw [unhidE HEX] at this
      rw [unhidE HFIN, ← List.append_assoc]
      exact this
end Go.Proofs.YtmnmaenmoaehlaaGreatDoor

namespace Go.Proofs.YtmnmaenmoaehlaaGreatDoor
open Go.RowKit Go.Lib

set_option maxHeartbeats 1000000 in
set_option maxRecDepth 100000 in
theorem string_nil {pre : List Value} {T : TypeId} {o B b : Nat} {p : Value} {w : World} (ok : BOk pre T o) (h : Bld pre T B b p [] w) (hBw : B ≤ w.heap.size) :
    Calls Tryz.prog 48 #[.pointer (some ⟨b, o, none⟩)] w fun e w' => e = .returned (.string ⟨#[]⟩) ∧ Below B w w' := by
  have hlt := h.lt
  obtain ⟨v, hbk, hown, hne⟩ := h.ex
  have hbk' : w.drew.heap[b]? = some (.cells (pre ++ [p, v]).toArray T (0, 0)) := hbk
  have c1 : w.drew.cell? ⟨b, o + 1, none⟩ = some v := by
    rw [cell_of_heap hbk']; exact pre_at1 ok.len _ _
  have hUS : ∀ W p, (Builtin.unsafeString_ #[122, 3] 9 #[.pointer p, .int .i64 0]).run Tryz.prog W = .ok (.string .empty) W := fun W p => Lib.run_unsafeString_none W _ _ _ p
  have mixed : Tryz.prog.follows Departure.mixedOrders = true := by kernel_rfl
  rcases hown.2 with ⟨rfl, _⟩ | ⟨g, cap, cur, fz, rfl, hbg, hg, _⟩
  · have hSD : (Builtin.unsafeSliceData_ #[101] 122 #[.slice none 0 0]).run Tryz.prog w.drew = .ok (.pointer none) w.drew := rfl
    have HBB := hidE (Below.drew (Below.refl B w))
    clear hown hne hbk hbk' h
    go_enter Tryz.func48, Tryz.ntmps48
    go_wp2
    go_region_o
    all_goals (go_wp2; go_ret; exact ⟨rfl, unhidE HBB⟩)
  · by_cases hc0 : cap = 0
    · subst hc0
      have hSD : (Builtin.unsafeSliceData_ #[101] 122 #[.slice (some ⟨g, 0, none⟩) 0 0]).run Tryz.prog w.drew = .ok (.pointer (some ⟨w.drew.heap.size, 0, none⟩)) (w.drew.alloc (.view ⟨g, 0, none⟩ 5)) :=
        Lib.run_unsafeSliceData_zero w.drew _ _ 5 Tryz.underlying122 ⟨g, 0, none⟩ 0 (5, cur.size) (by have hg' : w.drew.heap[g]? = some (.cells cur 5 fz) := hg; simp [World.shape?, hg'])
      have c2 : (w.drew.alloc (.view ⟨g, 0, none⟩ 5)).cell? ⟨b, o + 1, none⟩ = some (.slice (some ⟨g, 0, none⟩) 0 0) := by
        have : (w.drew.alloc (.view ⟨g, 0, none⟩ 5)).heap[b]? = _ := (Lib.alloc_old w.drew _ b hlt).trans hbk
        rw [Lib.cell_of_heap this]; exact pre_at1 ok.len _ _
      have c3 : (w.alloc (.view ⟨g, 0, none⟩ 5)).drew.cell? ⟨b, o + 1, none⟩ = some (.slice (some ⟨g, 0, none⟩) 0 0) := c2
      have c0 : w.cell? ⟨b, o + 1, none⟩ = some (.slice (some ⟨g, 0, none⟩) 0 0) := c1
      have c1' : w.drew.cell? ⟨b, o + 1, none⟩ = some (.slice (some ⟨g, 0, none⟩) 0 0) := c1
      clear c1
      have HBB := hidE ((Below.drew (Below.refl B w)).alloc hBw (.view ⟨g, 0, none⟩ 5))
      clear hown hne hbk hbk' h hg hbg
      go_enter Tryz.func48, Tryz.ntmps48
      go_wp2
      go_region_o
      all_goals (go_wp2; go_ret; exact ⟨rfl, unhidE HBB⟩)
    · have hSD : (Builtin.unsafeSliceData_ #[101] 122 #[.slice (some ⟨g, 0, none⟩) 0 cap]).run Tryz.prog w.drew = .ok (.pointer (some ⟨g, 0, none⟩)) w.drew :=
        Lib.run_unsafeSliceData_row _ _ _ _ _ _ hc0
      have c1' : w.drew.cell? ⟨b, o + 1, none⟩ = some (.slice (some ⟨g, 0, none⟩) 0 cap) := c1
      have HBB := hidE (Below.drew (Below.refl B w))
      clear hown hne hbk hbk' h hg hbg hc0 c1
      go_enter Tryz.func48, Tryz.ntmps48
      go_wp2
      go_region_o
      all_goals (go_wp2; go_ret; exact ⟨rfl, unhidE HBB⟩)

theorem string_any {pre : List Value} {T : TypeId} {o B b : Nat} {p : Value} {l : List UInt8} {w : World} (ok : BOk pre T o) (h : Bld pre T B b p l w) (hBw : B ≤ w.heap.size) :
    Calls Tryz.prog 48 #[.pointer (some ⟨b, o, none⟩)] w fun e w' => e = .returned (.string ⟨l.toArray⟩) ∧ Below B w w' := by
  cases l with
  | nil => exact string_nil ok h hBw
  | cons x r => exact string_row ok h (by simp)

theorem bokE : BOk [] 103 0 := ⟨rfl, by kernel_rfl, by decide⟩
def escS (attr : Bool) (s : ByteArray) : ByteArray := ⟨(escL attr s.data.toList).toArray⟩
theorem fresh_bld (w : World) : IsBld [] 103 0 w.heap.size w.heap.size [] (w.alloc (.cells #[.pointer none, .slice none 0 0] 103)) :=
  .inl ⟨Nat.le_refl _, .slice none 0 0, heap_alloc_new w _, World.ownsRowF_nil _ _ _ _, by simp [Value.ownBlock]⟩

end Go.Proofs.YtmnmaenmoaehlaaGreatDoor
