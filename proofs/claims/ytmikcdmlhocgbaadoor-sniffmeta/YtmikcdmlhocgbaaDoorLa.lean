/-
  Package label's small calls: a byte as a small letter, whether a text is a label, whether it is among labels.
-/
import Derived.Test.YtmikcdmlhocgbaaDoorRows
import Derived.WalkKit
import Derived.WalkSpells
import Derived.WalkLawsBesides
import Derived.WalkMore
import Derived.Laws.RangeAny
import Derived.Laws.IdiomStrings
import Derived.Deep.LoopGhost
import Derived.Deep.QuietTactic
import Derived.BigQuiet
import Derived.Lib.OthersKept
import Derived.Lib.IndexBytes
namespace Go.Proofs.YtmikcdmlhocgbaaDoor
open Go.RowKit Go.Lib

theorem hide {p : Prop} (h : p) : Hid p := h
theorem unhide {p : Prop} (h : Hid p) : p := h

def low (c : UInt8) : UInt8 := if 65 ≤ c.toNat ∧ c.toNat ≤ 90 then c + 32 else c
theorem low_cap (c : UInt8) (h1 : 65 ≤ c.toNat) (h2 : c.toNat ≤ 90) : ((low c).toNat : Int) = (c.toNat : Int) + 32 := by
  have e : low c = c + 32 := by unfold low; rw [if_pos ⟨h1, h2⟩]
  rw [e, UInt8.toNat_add]
  have : (32 : UInt8).toNat = 32 := rfl
  omega
theorem low_other (c : UInt8) (h : ¬ (65 ≤ c.toNat ∧ c.toNat ≤ 90)) : low c = c := by unfold low; rw [if_neg h]
theorem len_data (s : ByteArray) : s.data.toList.length = s.size := by show _ = s.data.size; simp

theorem below_dn {B : Nat} {a w : World} (h : Below B a w) (n : Nat) : Below B a (w.drewN n) := ⟨h.os, h.tape, h.output, h.size, h.block⟩
theorem below_iterAt {B : Nat} {a w : World} (h : Below B a w) (k : Nat) (hk : B ≤ k) (s : ByteArray) (pos : Nat) : Below B a (w.iterAt k s pos) :=
  h.trans ⟨rfl, rfl, rfl, by simp [World.iterAt], fun j hj => by simp only [World.iterAt]; rw [Array.getElem?_setIfInBounds_ne (by omega)]⟩

theorem lsmall_any (c : UInt8) (w : World) : Calls Tryd.prog 77 #[.int .u8 c.toNat] w fun e w' => e = .returned (.int .u8 ((low c).toNat : Int)) ∧ w' = w := by
  by_cases h1 : (65 : Int) ≤ (c.toNat : Int)
  · by_cases h2 : (c.toNat : Int) ≤ 90
    · have HE := hide (low_cap c (by omega) (by omega))
      go_enter Tryd.func77, Tryd.ntmps77
      go_wp2
      go_ret
      exact ⟨congrArg (fun v => Ending.returned (Value.int .u8 v)) (by rw [unhide HE]; omega), rfl⟩
    · have HE := hide (low_other c (by omega))
      go_enter Tryd.func77, Tryd.ntmps77
      go_wp2
      go_ret
      exact ⟨congrArg (fun v : UInt8 => Ending.returned (Value.int .u8 (v.toNat : Int))) (unhide HE).symm, rfl⟩
  · have HE := hide (low_other c (by omega))
    go_enter Tryd.func77, Tryd.ntmps77
    go_wp2
    go_ret
    exact ⟨congrArg (fun v : UInt8 => Ending.returned (Value.int .u8 (v.toNat : Int))) (unhide HE).symm, rfl⟩

set_option maxHeartbeats 2000000 in
theorem isLabel_any (s l : ByteArray) (w : World) (hl : l.size ≤ 1000) :
    Calls Tryd.prog 62 #[.string s, .string l] w fun e w' => e = .returned (.bool (decide (s.data.toList.map low = l.data.toList))) ∧ Below w.heap.size w w' := by
  have hB0 := hide (Below.refl w.heap.size w)
  by_cases hz : s.size = l.size
  · have hzz : ((s.size : Int) != (l.size : Int)) = false := by simp [hz]
    have hls : (s.size : Int) ≤ 1000 := by omega
    have HZ := hide hz
    clear hz hl
    go_enter Tryd.func62, Tryd.ntmps62
    go_wp2
    go_loopg [5, 13] s.size (fun k _ s13 wx => ∃ j : Nat, s13 = .int .i64 j ∧ j + k = s.size ∧ (∀ i c, i < j → s.data.toList[i]? = some c → l.data.toList[i]? = some (low c)) ∧ Below w.heap.size w wx)
    case atStart => exact ⟨0, rfl, by omega, fun i c h => by omega, Below.refl _ _⟩
    case round =>
      obtain ⟨j, rfl, hjk, hpre, hbel⟩ := hrel
      have HP := hide hpre
      have HB := hide hbel
      clear hpre hbel
      by_cases hj : j < s.size
      · have hjz : (j : Int) < (s.size : Int) := by omega
        have hjl : j < l.size := by rw [← unhide HZ]; exact hj
        obtain ⟨x, hx⟩ : ∃ x : UInt8, s[j]'hj = x := ⟨_, rfl⟩
        obtain ⟨y, hy⟩ : ∃ y : UInt8, l[j]'hjl = y := ⟨_, rfl⟩
        have HX : Hid (s.data.toList[j]? = some x) := hide (by rw [← hx]; exact Lib.data_getElem? s j hj)
        have HY : Hid (l.data.toList[j]? = some y) := hide (by rw [← hy]; exact Lib.data_getElem? l j hjl)
        by_cases he : low x = y
        · have hee : (((low x).toNat : Int) != (y.toNat : Int)) = false := by rw [he]; simp
          have HE := hide he
          clear he
          go_wp2
          go_quiet ((go_at_call 77; exact Calls.quiet_of_same (lsmall_any x _)))
          go_wp2
          go_roundg (gk - 1)
          case measure => omega
          case rel =>
            refine ⟨j + 1, by go_num, by omega, fun i c hi hc => ?_, ?_⟩
            · by_cases e : i = j
              · subst e; rw [unhide HX] at hc; cases hc; rw [unhide HY, unhide HE]
              · exact (unhide HP) i c (by omega) hc
            · exact below_dn (unhide HB) _
        · have hee : (((low x).toNat : Int) != (y.toNat : Int)) = true := by
            rw [bne_iff_ne]; intro e; apply he; apply UInt8.toNat_inj.1; omega
          have HE := hide he
          clear he
          go_wp2
          go_quiet ((go_at_call 77; exact Calls.quiet_of_same (lsmall_any x _)))
          go_wp2
          go_ret
          refine ⟨?_, below_dn (unhide HB) _⟩
          have : ¬ (s.data.toList.map low = l.data.toList) := by
            intro e
            have h1 : (s.data.toList.map low)[j]? = some (low x) := by rw [List.getElem?_map, unhide HX]; rfl
            rw [e, unhide HY] at h1
            cases h1; exact unhide HE rfl
          simp [this]
      · have hjz : ¬ (j : Int) < (s.size : Int) := by omega
        obtain rfl : j = s.size := by omega
        go_wp2
        go_ret
        refine ⟨?_, unhide HB⟩
        have : s.data.toList.map low = l.data.toList := by
          apply List.ext_getElem?
          intro i
          by_cases hi : i < s.size
          · obtain ⟨c, hc⟩ : ∃ c, s.data.toList[i]? = some c := ⟨_, Lib.data_getElem? s i hi⟩
            rw [List.getElem?_map, hc, (unhide HP) i c hi hc]; rfl
          · rw [List.getElem?_eq_none (by simp only [List.length_map, len_data]; omega), List.getElem?_eq_none (by rw [len_data, ← unhide HZ]; omega)]
        simp [this]
  · have hzz : ((s.size : Int) != (l.size : Int)) = true := by rw [bne_iff_ne]; omega
    have HZ := hide hz
    clear hz hl
    go_enter Tryd.func62, Tryd.ntmps62
    go_wp2
    go_ret
    refine ⟨?_, unhide hB0⟩
    have : ¬ (s.data.toList.map low = l.data.toList) := by
      intro e
      have := congrArg List.length e
      rw [List.length_map, len_data, len_data] at this
      exact unhide HZ this
    simp [this]

/-- The pieces of a text between its blanks. -/
def splitB (acc : List UInt8) : List UInt8 → List (List UInt8)
  | [] => [acc]
  | c :: r => if c = 32 then acc :: splitB [] r else splitB (acc ++ [c]) r

theorem extract_list (l : ByteArray) (f i : Nat) : (l.extract f i).data.toList = (l.data.toList.take i).drop f := by
  simp [ByteArray.data_extract, Array.toList_extract, List.extract]
  rw [List.drop_take]

theorem drop_at (l : ByteArray) (i : Nat) (hi : i < l.size) : l.data.toList.drop i = (l[i]'hi) :: l.data.toList.drop (i + 1) := by
  have := Lib.data_getElem? l i hi
  obtain ⟨h1, h2⟩ := List.getElem?_eq_some_iff.1 this
  rw [← h2, List.drop_eq_getElem_cons h1]

theorem piece_step (l : ByteArray) (f i : Nat) (hf : f ≤ i) (hi : i < l.size) : (l.data.toList.take (i + 1)).drop f = (l.data.toList.take i).drop f ++ [l[i]'hi] := by
  have := Lib.data_getElem? l i hi
  obtain ⟨h1, h2⟩ := List.getElem?_eq_some_iff.1 this
  rw [← h2, List.take_succ_eq_append_getElem h1, List.drop_append_of_le_length (by rw [List.length_take]; omega)]

set_option maxHeartbeats 2000000 in
theorem isAmong_any (s l : ByteArray) (w : World) (hl : l.size ≤ 1000) (ha : ∀ b ∈ l.data.toList, b.toNat < 128) :
    Calls Tryd.prog 55 #[.string s, .string l] w fun e w' => e = .returned (.bool (decide (s.data.toList.map low ∈ splitB [] l.data.toList))) ∧ Below w.heap.size w w' := by
  have hlz : (l.size : Int) ≤ 1000 := by omega
  have HIS : Hid (∀ f i w, Calls Tryd.prog 62 #[.string s, .string (l.extract f i)] w fun e w' => e = .returned (.bool (decide (s.data.toList.map low = (l.data.toList.take i).drop f))) ∧ Below w.heap.size w w') := hide (fun f i w => by
    have := isLabel_any s (l.extract f i) w (by rw [ByteArray.size_extract]; omega)
    rw [extract_list] at this
    exact this)
  have HA := hide ha
  generalize s.data.toList.map low = t at HIS ⊢
  clear ha hl
  go_enter Tryd.func55, Tryd.ntmps55
  go_wp2
  go_loopg [5, 6, 7] l.size (fun k s5 _ _ wx => ∃ f i : Nat, s5 = .int .i64 f ∧ f ≤ i ∧ i + k = l.size ∧ wx.heap[w.heap.size]? = some (.stringIter l i) ∧ Below w.heap.size w wx ∧ (t ∈ splitB [] l.data.toList ↔ t ∈ splitB ((l.data.toList.take i).drop f) (l.data.toList.drop i)))
  case atStart => exact ⟨0, 0, rfl, Nat.le_refl _, by omega, World.iter_heap w l 0, (Below.refl _ _).alloc (Nat.le_refl _) _, by simp⟩
  case round =>
    obtain ⟨f, i, rfl, hfi, hik, hk, hb, hspl⟩ := hrel
    have HS := hide hspl
    have HB := hide hb
    clear hspl hb
    have hfz : (f : Int) ≤ (i : Int) := by omega
    by_cases hi : i < l.size
    · have hx128 : (l[i]'hi).toNat < 128 := (unhide HA) _ (List.mem_of_getElem? (Lib.data_getElem? l i hi))
      have hiz : (i : Int) < (l.size : Int) := by omega
      have hnx := fun ty => run_next_ascii_at (P := Tryd.prog) wr w.heap.size l i ty hk hi hx128
      have hk2 := iterAt_heap wr w.heap.size l i (i + 1) hk
      have HB2 : Hid (Below w.heap.size w (wr.iterAt w.heap.size l (i + 1))) := hide (below_iterAt (unhide HB) _ (Nat.le_refl _) _ _)
      have HD := hide (drop_at l i hi)
      have HPS := hide (piece_step l f i hfi hi)
      by_cases h32 : l[i]'hi = 32
      · have hne : (((l[i]'hi).toNat : Int) != 32) = false := by rw [h32]; rfl
        have HC := hide h32
        clear h32
        by_cases he : t = (l.data.toList.take i).drop f
        · have HI := hide ((unhide HIS) f i (wr.iterAt w.heap.size l (i + 1)))
          have hd : decide (t = (l.data.toList.take i).drop f) = true := decide_eq_true he
          rw [hd] at HI
          have HE := hide he
          clear he hd
          go_wp2_with (go_at_call 62; refine (unhide HI).mono ?_; rintro e w' ⟨rfl, hw⟩)
          go_ret
          refine ⟨?_, (unhide HB2).trans (hw.mono (unhide HB2).size)⟩
          have : t ∈ splitB [] l.data.toList := by
            rw [unhide HS, unhide HD, splitB, if_pos (unhide HC), ← unhide HE]; simp
          simp [this]
        · have HI := hide ((unhide HIS) f i (wr.iterAt w.heap.size l (i + 1)))
          have hd : decide (t = (l.data.toList.take i).drop f) = false := decide_eq_false he
          rw [hd] at HI
          have HE := hide he
          clear he hd
          go_wp2_with (go_at_call 62; refine (unhide HI).mono ?_; rintro e w' ⟨rfl, hw⟩)
          go_roundg (gk - 1)
          case measure => omega
          case rel =>
            refine ⟨i + 1, i + 1, by go_num, Nat.le_refl _, by omega, (hw.block _ ?_).trans hk2, (unhide HB2).trans (hw.mono (unhide HB2).size), ?_⟩
            · exact lt_of_block hk2
            · rw [unhide HS, unhide HD, splitB, if_pos (unhide HC)]
              have : (l.data.toList.take (i + 1)).drop (i + 1) = [] := by rw [List.drop_eq_nil_iff, List.length_take]; omega
              rw [this, List.mem_cons]
              exact ⟨fun h => h.resolve_left (unhide HE), .inr⟩
      · have hne : (((l[i]'hi).toNat : Int) != 32) = true := by
          rw [bne_iff_ne]; intro e; apply h32; apply UInt8.toNat_inj.1
          show _ = 32; omega
        have HC := hide h32
        clear h32
        go_wp2
        go_roundg (gk - 1)
        case measure => omega
        case rel =>
          refine ⟨f, i + 1, rfl, by omega, by omega, hk2, unhide HB2, ?_⟩
          rw [unhide HS, unhide HD, splitB, if_neg (unhide HC), unhide HPS]
    · obtain rfl : i = l.size := by omega
      have hnx := fun ty => run_next_end_at (P := Tryd.prog) wr w.heap.size l l.size ty hk (by omega)
      have HI := hide ((unhide HIS) f l.size wr)
      go_wp2_with (go_at_call 62; refine (unhide HI).mono ?_; rintro e w' ⟨rfl, hw⟩)
      go_ret
      refine ⟨?_, (unhide HB).trans (hw.mono (unhide HB).size)⟩
      have : (t ∈ splitB [] l.data.toList) = (t = (l.data.toList.take l.size).drop f) := by
        have hdn : l.data.toList.drop l.size = [] := by rw [List.drop_eq_nil_iff, len_data]; exact Nat.le_refl _
        rw [propext (unhide HS), hdn, splitB, List.mem_singleton]
      simp only [this]
      rfl
end Go.Proofs.YtmikcdmlhocgbaaDoor
