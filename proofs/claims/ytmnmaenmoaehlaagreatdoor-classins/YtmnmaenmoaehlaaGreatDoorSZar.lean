/-
  strings.ContainsAny of zero and return; what is plain, by the program. Package write's writer: the text so far in memory; put: texts one behind the other. An attribute as text.
-/
import Derived.Test.YtmnmaenmoaehlaaGreatDoorSZaq
import Derived.Laws.RangeAny
import Derived.Lib.QuoteLoop
import Derived.Lib.OthersKept
import Derived.Test.YtmnmaenmoaehlaaGreatDoorSZaj
import Derived.Defers
import Derived.Test.YtmnmaenmoaehlaaGreatDoorSZad
namespace Go.Proofs.YtmnmaenmoaehlaaGreatDoor
open Go.RowKit Go.Lib

theorem dec_high (l : List UInt8) (x : UInt8) (hx : l[0]? = some x) (h : 128 ≤ x.toNat) : 128 ≤ (decodeL l).1 ∧ Utf8.valid ((decodeL l).1 : Int) = true := by
  rw [decodeL_N]
  have h0 : (l.getD 0 0) = x := by rw [List.getD, hx]; rfl
  rw [h0]
  have hlt := x.toNat_lt
  have hv := decodeN_valid l.length x.toNat (l.getD 1 0).toNat (l.getD 2 0).toNat (l.getD 3 0).toNat hlt
  refine ⟨?_, by
    generalize (decodeN l.length x.toNat (l.getD 1 0).toNat (l.getD 2 0).toNat (l.getD 3 0).toNat).1 = r at hv
    unfold Utf8.valid; simp; omega⟩
  unfold decodeN
  have hb1 := (l.getD 1 0).toNat_lt
  have hb2 := (l.getD 2 0).toNat_lt
  have hb3 := (l.getD 3 0).toNat_lt
  generalize (l.getD 1 0).toNat = b1 at *
  generalize (l.getD 2 0).toNat = b2 at *
  generalize (l.getD 3 0).toNat = b3 at *
  clear hv
  repeat' split
  all_goals (try simp only)
  all_goals omega
theorem dec_none (l : List UInt8) (x : UInt8) (hx : l[0]? = some x) (h : 128 ≤ x.toNat) : ((l.take (decodeL l).2).any fun b => b == 0 || b == 13) = false := by
  have hne : l ≠ [] := by rintro rfl; cases hx
  obtain ⟨h1, _⟩ := dec_high l x hx h
  by_cases hb : badU l
  · have hb2 : (decodeL l).1 = 65533 ∧ (decodeL l).2 = 1 := hb
    rw [hb2.2]
    cases l with
    | nil => cases hx
    | cons y t =>
      cases hx
      simp only [List.take_succ_cons, List.take_zero, List.any_cons, List.any_nil, Bool.or_false]
      rw [Bool.or_eq_false_iff]
      constructor
      · rw [beq_eq_false_iff_ne]; rintro rfl; simp at h
      · rw [beq_eq_false_iff_ne]; rintro rfl; simp at h
  · rw [← encode_decode l hne hb, enc_zero _ (decodeL_rune l)]
    simp
    omega
theorem noAny_more {l : List UInt8} {i n : Nat} (h : NoAny l [0, 13] i) (hn : (((l.drop i).take n).any fun b => b == 0 || b == 13) = false) : NoAny l [0, 13] (i + n) := by
  intro j b hj hb
  by_cases c : j < i
  · exact h j b c hb
  · rw [List.any_eq_false] at hn
    have hm : b ∈ (l.drop i).take n := by
      refine List.mem_of_getElem? (i := j - i) ?_
      rw [List.getElem?_take, if_pos (by omega), List.getElem?_drop, show i + (j - i) = j by omega, hb]
    have := hn b hm
    simp at this ⊢
    exact this

set_option maxHeartbeats 8000000 in
set_option maxRecDepth 1000000 in
/-- s of at most 8 bytes. -/
theorem iany_short (s : ByteArray) (w : World) (h8 : s.size ≤ 8) : Calls Tryz.prog 115 #[.string s, .string zr] w fun e w' => e = .returned (.int .i64 (Lib.indexAny s.data.toList [0, 13])) ∧ Below w.heap.size w w' := by
  have hn := len_data s
  have HN := hide hn
  clear hn
  have HS := hide (fun W => Any.strings_shouldUseASCIISet (P := Tryz.prog) { Tryz.lays153 with } s.size W)
  have h8z : decide ((8 : Int) < (s.size : Int)) = false := decide_eq_false (by omega)
  have HI := hide (fun W (r : Int) (h : Utf8.valid r = true) (h1 : 128 ≤ r) => irune_any r W h h1)
  have HL := hide (fun W (r : Nat) (h : r < 128) => irune_low r W h)
  unfold zr at HI HL ⊢
  go_enter Tryz.func115, Tryz.ntmps115
  go_wp2_with (go_at_call 123; refine ((unhide HS) _).mono ?_; rintro e w' ⟨rfl, hw⟩; rw [hw, h8z]; clear hw)
  go_loopg [9, 10] s.size (fun g _ _ wx => ∃ i : Nat, i + g = s.size ∧ wx.heap[w.heap.size]? = some (.stringIter s i) ∧ Below w.heap.size w wx ∧ Lib.NoAny s.data.toList [0, 13] i)
  case atStart => exact ⟨0, by omega, World.iter_heap w s 0, (Below.refl _ w).alloc (Nat.le_refl _) _, Lib.NoAny.zero _ _⟩
  case round =>
    obtain ⟨i, hig, hit, hb, hno⟩ := hrel
    have HB := hide hb
    have HO := hide hno
    clear hb hno
    by_cases hi : i < s.size
    · have HIT := hide hit
      obtain ⟨x, hx⟩ : ∃ x, s.data.toList[i]? = some x := ⟨_, List.getElem?_eq_getElem (by rw [unhide HN]; exact hi)⟩
      have hnx := fun ty => run_next_any_at (P := Tryz.prog) _ w.heap.size s i ty hit hi
      have hdr := decodeL_drop s i
      have hx0 : (s.data.toList.drop i)[0]? = some x := by rw [List.getElem?_drop]; exact hx
      have HI2 : Hid (_ = _) := hide (iterAt_heap _ w.heap.size s i (i + (Utf8.decode s i).2) hit)
      have HB2 := hide (below_iterAt (unhide HB) (Nat.le_refl _) s (i + (Utf8.decode s i).2))
      clear hit
      rcases Nat.lt_or_ge x.toNat 128 with hlo | hhi
      · have hd : Utf8.decode s i = (x.toNat, 1) := by
          rw [← hdr]
          cases hl : s.data.toList.drop i with
          | nil => rw [hl] at hx0; cases hx0
          | cons y t => rw [hl] at hx0; cases hx0; exact decodeL_ascii x t hlo
        rw [hd] at hnx HI2 HB2
        simp only at hnx HI2 HB2
        have hix : x.toNat.toUInt8 = x := by simp
        have HC := hide (fun W => hix ▸ unhide HL W x.toNat hlo)
        clear hdr hx0 hd hix
        cases hin : ([0, 13] : List UInt8).contains x
        · have hlt : ¬ ((0 : Int) ≤ Lib.indexByte [0, 13] x) := by
            have := Lib.contains_iff_indexByte [0, 13] x
            rw [hin] at this
            exact of_decide_eq_false this.symm
          have HNA := hide ((unhide HO).succ hx hin)
          clear hx hin
          go_wp2_with (go_at_call 122; refine ((unhide HC) _).mono ?_; rintro e w' ⟨rfl, hw⟩; rw [hw]; clear hw)
          go_roundg (gk - 1)
          case measure => omega
          case rel => exact ⟨i + 1, by omega, unhide HI2, unhide HB2, unhide HNA⟩
        · have hge : (0 : Int) ≤ Lib.indexByte [0, 13] x := by
            have := Lib.contains_iff_indexByte [0, 13] x
            rw [hin] at this
            exact of_decide_eq_true this.symm
          have HNA := hide (Lib.indexAny_hit (unhide HO) hx hin)
          clear hx hin
          go_wp2_with (go_at_call 122; refine ((unhide HC) _).mono ?_; rintro e w' ⟨rfl, hw⟩; rw [hw]; clear hw)
          go_ret
          exact ⟨by rw [unhide HNA]; rfl, unhide HB2⟩
      · obtain ⟨hr, hv⟩ := dec_high _ x hx0 hhi
        have hnn := dec_none _ x hx0 hhi
        have hle : (decodeL (s.data.toList.drop i)).2 ≤ (s.data.toList.drop i).length := decodeL_le _ (by intro e; rw [e] at hx0; cases hx0)
        have hwd := decodeL_width (s.data.toList.drop i)
        rw [List.length_drop, unhide HN] at hle
        rw [hdr] at hr hv hle hwd hnn
        have HNA := hide (noAny_more (unhide HO) hnn)
        generalize Utf8.decode s i = d at hnx HI2 HB2 hr hv hle hwd HNA
        obtain ⟨r, n⟩ := d
        simp only at hnx HI2 HB2 hr hv hle hwd HNA
        have HC := hide (fun W => unhide HI W (r : Int) hv (by omega))
        clear hdr hx0 hnn hv hx
        go_wp2_with (go_at_call 122; refine ((unhide HC) _).mono ?_; rintro e w2 ⟨rfl, hb2⟩; have HB3 := hide hb2; clear hb2)
        go_roundg (gk - n)
        case measure => omega
        case rel => exact ⟨i + n, by omega, by rw [(unhide HB3).block _ (by rw [iterAt_size]; exact (Array.getElem?_eq_some_iff.1 (unhide HIT)).1)]; exact unhide HI2, (unhide HB2).trans ((unhide HB3).mono (unhide HB2).size), unhide HNA⟩
    · have hnx := fun ty => run_next_end_at (P := Tryz.prog) _ w.heap.size s i ty hit hi
      obtain rfl : i = s.size := by omega
      have HNA : Hid (Lib.indexAny s.data.toList [0, 13] = -1) := hide (Lib.indexAny_none (by rw [unhide HN]; exact unhide HO))
      go_wp2
      go_ret
      exact ⟨by rw [unhide HNA]; rfl, unhide HB⟩
theorem iany_any (s : ByteArray) (w : World) (hs : s.size < 4294967281) : Calls Tryz.prog 115 #[.string s, .string zr] w fun e w' => e = .returned (.int .i64 (Lib.indexAny s.data.toList [0, 13])) ∧ Below w.heap.size w w' := by
  by_cases h8 : s.size ≤ 8
  · exact iany_short s w h8
  have h116 : (Tryz.prog.info? (Tryz.lays153_ren.t 116)).map (fun i => (i.zero, i.size)) = some (some (.agg (Array.replicate 256 (.bool false))), 256) := by kernel_rfl
  refine (Any.strings_IndexAny_long Tryz.lays153 (zero_of_info h116).1 (zero_of_info h116).2 s zr w (by show 2 ≤ 2; omega) (by omega) hs (by show 2 < _; omega) ?_).mono fun e w' ⟨h1, h2⟩ => ⟨h1, ?_⟩
  · intro j b hb
    have : b ∈ zr.data.toList := List.mem_of_getElem? hb
    have h2 : zr.data.toList = [0, 13] := rfl
    rw [h2] at this
    simp at this
    rcases this with rfl | rfl <;> decide
  · rw [h2]
    exact ((Below.refl _ _).alloc (Nat.le_refl _) _).alloc (by simp) _
def hasZr (l : List UInt8) : Bool := l.any fun b => b == 0 || b == 13
theorem indexAny_zr (l : List UInt8) : decide (0 ≤ Lib.indexAny l [0, 13]) = hasZr l := by
  induction l with
  | nil => rfl
  | cons b t ih =>
    unfold hasZr at ih ⊢
    rw [List.any_cons, ← ih, Lib.indexAny]
    have hge := Lib.indexAny_ge [0, 13] t
    by_cases c : ([0, 13] : List UInt8).contains b
    · rw [if_pos c]
      have : (b == 0 || b == 13) = true := by simpa using c
      rw [this]; rfl
    · rw [if_neg c]
      have : (b == 0 || b == 13) = false := by
        cases h : (b == 0 || b == 13) with
        | false => rfl
        | true => exact absurd (by simpa using h) c
      rw [this, Bool.false_or]
      by_cases d : Lib.indexAny t [0, 13] = -1
      · rw [d]; rfl
      · have h2 : (Lib.indexAny t [0, 13] == -1) = false := by rw [beq_eq_false_iff_ne]; exact d
        rw [h2]
        have h3 : 0 ≤ Lib.indexAny t [0, 13] := by omega
        rw [decide_eq_true h3]
        simp
        omega
theorem cany_any (s : ByteArray) (w : World) (hs : s.size < 4294967281) : Calls Tryz.prog 101 #[.string s, .string zr] w fun e w' => e = .returned (.bool (hasZr s.data.toList)) ∧ Below w.heap.size w w' := by
  rw [← indexAny_zr]
  have HI := hide (iany_any s w hs)
  generalize Lib.indexAny s.data.toList [0, 13] = k at HI ⊢
  go_enter Tryz.func101, Tryz.ntmps101
  go_wp2_with (go_at_call 115; refine (unhide HI).mono ?_; rintro e w1 ⟨rfl, hb⟩; have HB := hide hb; clear hb)
  go_ret
  exact ⟨rfl, unhide HB⟩

/-- What the program's text keeps of the library's variables. -/
structure GV (w : World) : Prop where
  tabs : Lib.Utf8Tabs (Tryz.lays196_ren.g 3) (Tryz.lays196_ren.g 4) w
  cell : ∃ m, w.cell? ⟨Tryz.lays144_ren.g 1, 0, none⟩ = some (.int .i64 m)
theorem GV.below {w w' : World} (h : GV w) (hb : Below w.heap.size w w') : GV w' := by
  obtain ⟨m, hm⟩ := h.cell
  refine ⟨Utf8Tabs_below h.tabs hb, m, ?_⟩
  rw [hb.cell]
  · exact hm
  · rcases Nat.lt_or_ge (Tryz.lays144_ren.g 1) w.heap.size with h' | h'
    · exact h'
    · simp [World.cell?, Array.getElem?_eq_none h'] at hm

theorem cplain_any (s : ByteArray) (w : World) (hs : s.size < 4294967281) (hg : GV w) : Calls Tryz.prog 81 #[.string s] w fun e w' => e = .returned (.bool (plainU s.data.toList)) ∧ Below w.heap.size w w' := by
  have HV := hide (Any.utf8_ValidString Tryz.lays196 s w (by omega) hg.tabs)
  have HC := hide (fun W => cany_any s W hs)
  clear hg
  unfold zr at HC
  unfold hasZr at HC
  unfold plainU
  cases hv : validD s.data.toList
  · rw [hv] at HV
    go_enter Tryz.func81, Tryz.ntmps81
    go_wp2_with (first | (go_at_call 100; refine (unhide HV).mono ?_; rintro e w1 ⟨rfl, hb⟩; have HB := hide hb; clear hb))
    go_ret
    exact ⟨rfl, unhide HB⟩
  · rw [hv] at HV
    generalize (s.data.toList.any fun b => b == 0 || b == 13) = k at HC ⊢
    go_enter Tryz.func81, Tryz.ntmps81
    go_wp2_with (go_at_call 100; refine (unhide HV).mono ?_; rintro e w1 ⟨rfl, hb⟩; have HB := hide hb; clear hb)
    go_wp2_with (go_at_call 101; refine ((unhide HC) _).mono ?_; rintro e w2 ⟨rfl, hb⟩; have HB2 := hide hb; clear hb)
    go_ret
    exact ⟨rfl, (unhide HB).trans ((unhide HB2).mono (unhide HB).size)⟩
end Go.Proofs.YtmnmaenmoaehlaaGreatDoor

namespace Go.Proofs.YtmnmaenmoaehlaaGreatDoor
open Go.RowKit Go.Lib

/-- The writer in the block bw: the arena, the flag, the text so far. -/
def Wr (bA : Nat) (sc : Bool) (B bw : Nat) (l : List UInt8) (w : World) : Prop :=
  IsBld [.pointer (some ⟨bA, 0, none⟩), .bool sc] 105 2 B bw l w
theorem bokW (bA : Nat) (sc : Bool) : BOk [.pointer (some ⟨bA, 0, none⟩), .bool sc] 105 2 := ⟨rfl, by kernel_rfl, by decide⟩
/-- What a call of the writer leaves: all that lies below B, and of the rest all but the writer and rows of bytes. -/
structure Nx (B bw : Nat) (w w' : World) : Prop where
  below : Below B w w'
  kept : OthersKept 5 (some bw) w w'
section
variable {B bw : Nat} {a w w' : World}
theorem Nx.refl (B bw : Nat) (w : World) : Nx B bw w w := ⟨Below.refl _ _, OthersKept.refl _ _ _⟩
theorem Nx.trans (h : Nx B bw a w) (k : Nx B bw w w') : Nx B bw a w' := ⟨h.below.trans k.below, h.kept.trans k.kept⟩
theorem Nx.alloc (h : Nx B bw a w) (hB : B ≤ a.heap.size) (o : Obj) : Nx B bw a (w.alloc o) := ⟨h.below.alloc (Nat.le_trans hB h.below.size) o, h.kept.alloc o⟩
theorem Nx.drewN (h : Nx B bw a w) (n : Nat) : Nx B bw a (w.drewN n) := ⟨below_dn h.below n, h.kept⟩
theorem Nx.size (h : Nx B bw a w) : a.heap.size ≤ w.heap.size := h.below.size
theorem Nx.new (h : Below a.heap.size a w) (hB : B ≤ a.heap.size) : Nx B bw a w :=
  ⟨h.mono hB, fun k _ hk _ _ => (h.block k (lt_of_block hk)).trans hk⟩
theorem Nx.set (h : Nx B bw a w) (hB : B ≤ a.heap.size) {k : Nat} (hk : a.heap.size ≤ k) (i : Nat) (v : Value) : Nx B bw a (w.setCell ⟨k, i, none⟩ v) :=
  ⟨h.below.setCell (p := ⟨k, i, none⟩) (Nat.le_trans hB hk) v, fun j o hj hb ho => by
    have hlt : j < a.heap.size := (Array.getElem?_eq_some_iff.1 hj).1
    rw [Below.heap_setCell _ _ _ _ (by show j ≠ k; omega)]
    exact h.kept j o hj hb ho⟩
theorem Nx.block (h : Nx B bw a w) {k : Nat} {c : Array Value} {t : TypeId} {fz : Nat × Nat} (hk : a.heap[k]? = some (.cells c t fz)) (hb : k ≠ bw) (ht : t ≠ 5) : w.heap[k]? = some (.cells c t fz) :=
  h.kept k _ hk (by intro e; injection e with e; exact hb e) (fun c' fz' e => by cases e; exact ht rfl)
end

theorem Bld.more {pre : List Value} {T : TypeId} {B b : Nat} {p : Value} {l : List UInt8} {w w' : World} (h : Bld pre T B b p l w) (hb : Below w.heap.size w w') : Bld pre T B b p l w' := by
  have hlt := h.lt
  obtain ⟨v, hk, hown, hne⟩ := h.ex
  exact ⟨h.base, v, (hb.block _ hlt).trans hk, hown.kept (row := none) ⟨hb.os, hb.tape, hb.output, hb.size, fun k hk _ => hb.block k hk⟩ (by cases hv : v.ownBlock <;> simp), hne⟩
theorem Wr.more {bA : Nat} {sc : Bool} {B bw : Nat} {l : List UInt8} {w w' : World} (h : Wr bA sc B bw l w) (hb : Below w.heap.size w w') : Wr bA sc B bw l w' := h.elim (fun h => .inl (h.more hb)) (fun h => .inr (h.more hb))
theorem Wr.lt {bA : Nat} {sc : Bool} {B bw : Nat} {l : List UInt8} {w : World} (h : Wr bA sc B bw l w) : bw < w.heap.size := IsBld.lt h
theorem Wr.drewN {bA : Nat} {sc : Bool} {B bw : Nat} {l : List UInt8} {w : World} (h : Wr bA sc B bw l w) (n : Nat) : Wr bA sc B bw l (w.drewN n) := IsBld.drewN h n
theorem Wr.alloc {bA : Nat} {sc : Bool} {B bw : Nat} {l : List UInt8} {w : World} (h : Wr bA sc B bw l w) (o : Obj) : Wr bA sc B bw l (w.alloc o) := IsBld.alloc h o

def catL (ps : List ByteArray) : List UInt8 := ps.flatMap (·.data.toList)
theorem catL_take (ps : List ByteArray) (j : Nat) (s : ByteArray) (h : ps[j]? = some s) : catL (ps.take (j + 1)) = catL (ps.take j) ++ s.data.toList := by
  unfold catL
  rw [List.take_add_one, h]
  simp
theorem catL_le (ps : List ByteArray) (j : Nat) : (catL (ps.take j)).length ≤ (catL ps).length := by
  have h : catL ps = catL (ps.take j) ++ catL (ps.drop j) := by unfold catL; rw [← List.flatMap_append, List.take_append_drop]
  rw [h, List.length_append]; omega

set_option maxHeartbeats 2000000 in
theorem put_any {bA : Nat} {sc : Bool} {B bw g : Nat} {l : List UInt8} {w : World} (ps : List ByteArray) (h : Wr bA sc B bw l w) (hg : w.heap[g]? = some (.cells (sRow ps) 9 (0, 0))) (hgb : g ≠ bw) (hp : ps.length ≤ 1000) (hlen : l.length + (catL ps).length ≤ 140737488355328) (hB : B ≤ w.heap.size) :
    Calls Tryz.prog 93 #[.pointer (some ⟨bw, 0, none⟩), .slice (some ⟨g, 0, none⟩) ps.length ps.length] w fun e w' => e = .returned (.tuple #[]) ∧ Wr bA sc B bw (l ++ catL ps) w' ∧ Nx B bw w w' := by
  have HG := hidE hg
  have HW := hidE h
  have HLEN := hidE hlen
  have hpz : (ps.length : Int) ≤ 1000 := by omega
  clear h hg hlen
  go_enter Tryz.func93, Tryz.ntmps93
  go_wp2
  go_loopg [5, 8] ps.length (fun k _ s8 wx => ∃ j : Nat, s8 = .int .i64 j ∧ j + k = ps.length ∧ Wr bA sc B bw (l ++ catL (ps.take j)) wx ∧ Nx B bw w wx)
  case atStart => exact ⟨0, rfl, by omega, by simpa [catL] using unhidE HW, Nx.refl _ _ _⟩
  case round =>
    obtain ⟨j, rfl, hjk, hw, hn⟩ := hrel
    by_cases hj : j < ps.length
    · have hjz : (j : Int) < (ps.length : Int) := by omega
      obtain ⟨s, hs⟩ : ∃ s, ps[j]? = some s := ⟨_, List.getElem?_eq_getElem hj⟩
      have hcell : wr.cell? ⟨g, j, none⟩ = some (.string s) := by
        rw [cell_row _ g j _ _ _ (hn.block (unhidE HG) hgb (by decide))]
        simp [sRow, hs]
      have hct := catL_take ps j s hs
      have hle := catL_le ps (j + 1)
      rw [hct, List.length_append, len_data] at hle
      have HC : Hid (Calls Tryz.prog 111 #[.pointer (some ⟨bw, 2, none⟩), .string s] wr _) := hidE (write_any (bokW bA sc) s hw (by rw [List.length_append]; have := unhidE HLEN; omega) (Nat.le_trans hB hn.size))
      have HN := hidE hn
      have HCT := hidE hct
      clear hw hn hct hle hs
      go_wp2_with (go_at_call 111; refine (unhidE HC).mono ?_; rintro e w3 ⟨rfl, hB3, hb3, hk3⟩; have HB3 := hidE hB3; have HN3 := hidE ((unhidE HN).trans ⟨hb3, hk3⟩); clear hB3 hb3 hk3)
      go_roundg (gk - 1)
      case measure => omega
      case rel => exact ⟨j + 1, by go_num, by omega, .inr (by rw [unhidE HCT, ← List.append_assoc]; exact unhidE HB3), unhidE HN3⟩
    · have hjz : ¬ (j : Int) < (ps.length : Int) := by omega
      obtain rfl : j = ps.length := by omega
      rw [List.take_length] at hw
      have HW2 := hidE hw
      have HN := hidE hn
      clear hw hn
      go_wp2
      go_end0
      exact ⟨rfl, unhidE HW2, unhidE HN⟩
set_option maxHeartbeats 2000000 in
theorem put_deferred {bA : Nat} {sc : Bool} {B bw g : Nat} {l : List UInt8} {w : World} (ps : List ByteArray) (h : Wr bA sc B bw l w) (hg : w.heap[g]? = some (.cells (sRow ps) 9 (0, 0))) (hgb : g ≠ bw) (hp : ps.length ≤ 1000) (hlen : l.length + (catL ps).length ≤ 140737488355328) (hB : B ≤ w.heap.size) (u : FrameMode) :
    CallsD Tryz.prog 93 #[.pointer (some ⟨bw, 0, none⟩), .slice (some ⟨g, 0, none⟩) ps.length ps.length] u w fun e u' w' => u' = u ∧ (e = .returned (.tuple #[]) ∧ Wr bA sc B bw (l ++ catL ps) w' ∧ Nx B bw w w') := by
  have HG := hidE hg
  have HW := hidE h
  have HLEN := hidE hlen
  have hpz : (ps.length : Int) ≤ 1000 := by omega
  clear h hg hlen
  go_enter_d Tryz.func93, Tryz.ntmps93
  go_wp2
  go_loopg [5, 8] ps.length (fun k _ s8 wx => ∃ j : Nat, s8 = .int .i64 j ∧ j + k = ps.length ∧ Wr bA sc B bw (l ++ catL (ps.take j)) wx ∧ Nx B bw w wx)
  case atStart => exact ⟨0, rfl, by omega, by simpa [catL] using unhidE HW, Nx.refl _ _ _⟩
  case round =>
    obtain ⟨j, rfl, hjk, hw, hn⟩ := hrel
    by_cases hj : j < ps.length
    · have hjz : (j : Int) < (ps.length : Int) := by omega
      obtain ⟨s, hs⟩ : ∃ s, ps[j]? = some s := ⟨_, List.getElem?_eq_getElem hj⟩
      have hcell : wr.cell? ⟨g, j, none⟩ = some (.string s) := by
        rw [cell_row _ g j _ _ _ (hn.block (unhidE HG) hgb (by decide))]
        simp [sRow, hs]
      have hct := catL_take ps j s hs
      have hle := catL_le ps (j + 1)
      rw [hct, List.length_append, len_data] at hle
      have HC : Hid (Calls Tryz.prog 111 #[.pointer (some ⟨bw, 2, none⟩), .string s] wr _) := hidE (write_any (bokW bA sc) s hw (by rw [List.length_append]; have := unhidE HLEN; omega) (Nat.le_trans hB hn.size))
      have HN := hidE hn
      have HCT := hidE hct
      clear hw hn hct hle hs
      go_wp2_with (go_at_call 111; refine (unhidE HC).mono ?_; rintro e w3 ⟨rfl, hB3, hb3, hk3⟩; have HB3 := hidE hB3; have HN3 := hidE ((unhidE HN).trans ⟨hb3, hk3⟩); clear hB3 hb3 hk3)
      go_roundg (gk - 1)
      case measure => omega
      case rel => exact ⟨j + 1, by go_num, by omega, .inr (by rw [unhidE HCT, ← List.append_assoc]; exact unhidE HB3), unhidE HN3⟩
    · have hjz : ¬ (j : Int) < (ps.length : Int) := by omega
      obtain rfl : j = ps.length := by omega
      rw [List.take_length] at hw
      have HW2 := hidE hw
      have HN := hidE hn
      clear hw hn
      go_wp2
      exact ⟨rfl, _, results_none rfl _ _ _, rfl, unhidE HW2, unhidE HN⟩
end Go.Proofs.YtmnmaenmoaehlaaGreatDoor

namespace Go.Proofs.YtmnmaenmoaehlaaGreatDoor
open Go.RowKit Go.Lib

def xlinkB : ByteArray := ⟨#[120, 108, 105, 110, 107, 58]⟩
def xmlB : ByteArray := ⟨#[120, 109, 108, 58]⟩
def xmlnsB : ByteArray := ⟨#[120, 109, 108, 110, 115, 58]⟩
def aheadB (x : AttrM) : ByteArray := if x.space = 3 then xlinkB else if x.space = 4 then xmlB else if x.space = 5 then (if x.name.toList == [120, 109, 108, 110, 115] then ⟨#[]⟩ else xmlnsB) else ⟨#[]⟩

set_option maxHeartbeats 1000000 in
theorem ahead_any (x : AttrM) (w : World) : Calls Tryz.prog 134 #[.agg #[.int .i64 x.space, .string x.pre, .string x.name, .string x.val]] w fun e w' => e = .returned (.string (aheadB x)) ∧ Below w.heap.size w w' := by
  have HB := hidE (below_new w (.cells #[.int .i64 x.space, .string x.pre, .string x.name, .string x.val] 93))
  unfold aheadB xlinkB xmlB xmlnsB
  by_cases h3 : x.space = 3
  · rw [if_pos h3]
    rw [h3] at HB ⊢
    clear h3
    go_enter Tryz.func134, Tryz.ntmps134
    go_wp2
    go_ret
    exact ⟨rfl, unhidE HB⟩
  · rw [if_neg h3]
    by_cases h4 : x.space = 4
    · rw [if_pos h4]
      rw [h4] at HB ⊢
      clear h3 h4
      go_enter Tryz.func134, Tryz.ntmps134
      go_wp2
      go_ret
      exact ⟨rfl, unhidE HB⟩
    · rw [if_neg h4]
      by_cases h5 : x.space = 5
      · rw [if_pos h5]
        rw [h5] at HB ⊢
        clear h3 h4 h5
        cases hq : (x.name.toList == [120, 109, 108, 110, 115]) with
        | true =>
          go_enter Tryz.func134, Tryz.ntmps134
          go_wp2
          go_ret
          exact ⟨rfl, unhidE HB⟩
        | false =>
          go_enter Tryz.func134, Tryz.ntmps134
          go_wp2
          go_ret
          exact ⟨rfl, unhidE HB⟩
      · rw [if_neg h5]
        have q3 : (x.space == 3) = false := by simpa using h3
        have q4 : (x.space == 4) = false := by simpa using h4
        have q5 : (x.space == 5) = false := by simpa using h5
        go_enter Tryz.func134, Tryz.ntmps134
        go_wp2
        go_ret
        exact ⟨rfl, unhidE HB⟩

theorem ahead_len (x : AttrM) : (aheadB x).data.toList.length ≤ 6 := by
  unfold aheadB xlinkB xmlB xmlnsB
  repeat' split
  all_goals simp
theorem below_dr {a w' : World} (h : Below a.drew.heap.size a.drew w') : Below a.heap.size a w' := ⟨h.os, h.tape, h.output, h.size, h.block⟩
def attrL (x : AttrM) : List UInt8 := catL [⟨#[32]⟩, aheadB x, x.name, ⟨#[61, 34]⟩] ++ escL true x.val.data.toList ++ [34]

theorem attr_cat (x : AttrM) : (catL [⟨#[32]⟩, aheadB x, x.name, ⟨#[61, 34]⟩]).length ≤ x.name.size + 20 := by
  have h1 := ahead_len x
  have h2 := len_data x.name
  have e : catL [⟨#[32]⟩, aheadB x, x.name, ⟨#[61, 34]⟩] = [32] ++ ((aheadB x).data.toList ++ (x.name.data.toList ++ [61, 34])) := by simp [catL]
  rw [e]
  simp only [List.length_append, List.length_cons, List.length_nil]
  omega
theorem attr_put {bA : Nat} {sc : Bool} {B bw : Nat} {l : List UInt8} {w w1 : World} (x : AttrM) (h : Wr bA sc B bw l w) (hlen : l.length + 6 * x.val.size + x.name.size + 100 ≤ 140737488355328) (hB : B ≤ w.heap.size)
    (hb1 : Below (w.alloc (.cells #[.int .i64 x.space, .string x.pre, .string x.name, .string x.val] 93)).heap.size (w.alloc (.cells #[.int .i64 x.space, .string x.pre, .string x.name, .string x.val] 93)) w1) :
    Calls Tryz.prog 93 #[.pointer (some ⟨bw, 0, none⟩), .slice (some ⟨w1.heap.size, 0, none⟩) 4 4] (w1.alloc (.cells #[.string ⟨#[32]⟩, .string (aheadB x), .string x.name, .string ⟨#[61, 34]⟩] 9)) fun e w' => e = .returned (.tuple #[]) ∧ Wr bA sc B bw (l ++ catL [⟨#[32]⟩, aheadB x, x.name, ⟨#[61, 34]⟩]) w' ∧ Nx B bw w w' ∧ w'.heap[w.heap.size]? = some (.cells #[.int .i64 x.space, .string x.pre, .string x.name, .string x.val] 93 (0, 0)) := by
  have hltw := h.lt
  have hcat := attr_cat x
  have hn1 : Nx B bw w (w.alloc (.cells #[.int .i64 x.space, .string x.pre, .string x.name, .string x.val] 93)) := (Nx.refl B bw w).alloc hB _
  have hn2 := hn1.trans (Nx.new (B := B) (bw := bw) hb1 (Nat.le_trans hB hn1.size))
  have hw1 : Wr bA sc B bw l w1 := (h.alloc _).more hb1
  have hwl := hw1.lt
  have hbk : w1.heap[w.heap.size]? = some (.cells #[.int .i64 x.space, .string x.pre, .string x.name, .string x.val] 93 (0, 0)) := (hb1.block _ (by simp)).trans (heap_alloc_new w _)
  have hsz : w.heap.size < w1.heap.size := lt_of_block hbk
  have hp := put_any [⟨#[32]⟩, aheadB x, x.name, ⟨#[61, 34]⟩] (hw1.alloc (.cells #[.string ⟨#[32]⟩, .string (aheadB x), .string x.name, .string ⟨#[61, 34]⟩] 9)) (g := w1.heap.size) (heap_alloc_new w1 _) (by omega) (by simp) (by omega) (Nat.le_trans hB (hn2.alloc hB _).size)
  refine hp.mono ?_
  rintro e w' ⟨rfl, h1, h2⟩
  refine ⟨rfl, h1, (hn2.alloc hB _).trans h2, ?_⟩
  exact h2.block ((alloc_old w1 _ _ hsz).trans hbk) (by omega) (by decide)

end Go.Proofs.YtmnmaenmoaehlaaGreatDoor
