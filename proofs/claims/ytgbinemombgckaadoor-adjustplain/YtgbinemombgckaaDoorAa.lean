/-
  Package adjust: a code point as a small letter; whether a text in small letters is another one; the name of a table that a name is in small letters.
-/
import Derived.Test.YtgbinemombgckaaDoorRows
import Derived.WalkKit
import Derived.WalkSpells
import Derived.WalkLawsBesides
import Derived.WalkMore
import Derived.Laws.RangeAny
import Derived.Deep.LoopGhost
import Derived.Deep.QuietTactic
import Derived.BigQuiet
import Derived.Lib.OthersKept
import Derived.Lib.IndexBytes
namespace Go.Proofs.YtgbinemombgckaaDoor
open Go.RowKit Go.Lib

theorem hide {p : Prop} (h : p) : Hid p := h
theorem unhide {p : Prop} (h : Hid p) : p := h
theorem len_data (s : ByteArray) : s.data.toList.length = s.size := by show _ = s.data.size; simp
theorem below_dn {B : Nat} {a w : World} (h : Below B a w) (n : Nat) : Below B a (w.drewN n) := ⟨h.os, h.tape, h.output, h.size, h.block⟩
theorem dn_dn (w : World) (m n : Nat) : (w.drewN m).drewN n = w.drewN (m + n) := by
  simp [World.drewN, Nat.add_assoc]

def low (c : UInt8) : UInt8 := if 65 ≤ c.toNat ∧ c.toNat ≤ 90 then c + 32 else c
theorem low_cap (c : UInt8) (h1 : 65 ≤ c.toNat) (h2 : c.toNat ≤ 90) : ((low c).toNat : Int) = (c.toNat : Int) + 32 := by
  have e : low c = c + 32 := by unfold low; rw [if_pos ⟨h1, h2⟩]
  rw [e, UInt8.toNat_add]
  have : (32 : UInt8).toNat = 32 := rfl
  omega
theorem low_other (c : UInt8) (h : ¬ (65 ≤ c.toNat ∧ c.toNat ≤ 90)) : low c = c := by unfold low; rw [if_neg h]
theorem low_ascii (c : UInt8) (h : 128 ≤ c.toNat) : low c = c := low_other c (by omega)
def lowZ (r : Int) : Int := if 65 ≤ r ∧ r ≤ 90 then r + 32 else r
theorem lowZ_cap (r : Int) (h1 : 65 ≤ r) (h2 : r ≤ 90) : lowZ r = r + 32 := by unfold lowZ; rw [if_pos ⟨h1, h2⟩]
theorem lowZ_other (r : Int) (h : ¬ (65 ≤ r ∧ r ≤ 90)) : lowZ r = r := by unfold lowZ; rw [if_neg h]
theorem lowZ_byte (c : UInt8) : lowZ (c.toNat : Int) = ((low c).toNat : Int) := by
  by_cases h : 65 ≤ c.toNat ∧ c.toNat ≤ 90
  · rw [low_cap c h.1 h.2, lowZ_cap _ (by omega) (by omega)]
  · rw [low_other c h, lowZ_other _ (by omega)]

theorem small_any (r : Int) (w : World) : Calls Tryd.prog 25 #[.int .i32 r] w fun e w' => e = .returned (.int .i32 (lowZ r)) ∧ w' = w := by
  by_cases h1 : (65 : Int) ≤ r
  · by_cases h2 : r ≤ 90
    · have HE := hide (lowZ_cap r h1 h2)
      go_enter Tryd.func25, Tryd.ntmps25
      go_wp2
      go_ret
      exact ⟨congrArg (fun v => Ending.returned (Value.int .i32 v)) (by rw [unhide HE]; omega), rfl⟩
    · have HE := hide (lowZ_other r (by omega))
      go_enter Tryd.func25, Tryd.ntmps25
      go_wp2
      go_ret
      exact ⟨congrArg (fun v => Ending.returned (Value.int .i32 v)) (unhide HE).symm, rfl⟩
  · have HE := hide (lowZ_other r (by omega))
    go_enter Tryd.func25, Tryd.ntmps25
    go_wp2
    go_ret
    exact ⟨congrArg (fun v => Ending.returned (Value.int .i32 v)) (unhide HE).symm, rfl⟩

/-- Whether a text in small letters is another one. -/
def isM (s t : ByteArray) : Bool := decide (s.data.toList.map low = t.data.toList)
def Ascii (s : ByteArray) : Prop := ∀ b ∈ s.data.toList, b.toNat < 128

set_option maxHeartbeats 2000000 in
theorem inSmall_any (s t : ByteArray) (w : World) (ha : Ascii s ∨ Ascii t) :
    Calls Tryd.prog 24 #[.string s, .string t] w fun e w' => e = .returned (.bool (isM s t)) ∧ Below w.heap.size w w' := by
  unfold isM
  by_cases hz : s.size = t.size
  · have hzz : ((s.size : Int) != (t.size : Int)) = false := by simp [hz]
    have HZ := hide hz
    have HA := hide ha
    clear hz ha
    go_enter Tryd.func24, Tryd.ntmps24
    go_wp2
    go_loopg [5, 6] s.size (fun k _ _ wx => ∃ j : Nat, j + k = s.size ∧ (∀ i c d, i < j → s.data.toList[i]? = some c → t.data.toList[i]? = some d → low c = d) ∧ wx.heap[w.heap.size]? = some (.stringIter s j) ∧ Below w.heap.size w wx)
    case atStart => exact ⟨0, by omega, fun i c d h => by omega, World.iter_heap w s 0, (Below.refl _ w).alloc (Nat.le_refl _) _⟩
    case round =>
      obtain ⟨j, hjk, hpre, hit, hb⟩ := hrel
      have HP := hide hpre
      have HB := hide hb
      clear hpre hb
      by_cases hj : j < s.size
      · have hjl : j < t.size := by rw [← unhide HZ]; exact hj
        have hjz : (j : Int) < (t.size : Int) := by omega
        have HI := hide hit
        have hnx := fun ty => run_next_any_at (P := Tryd.prog) _ w.heap.size s j ty hit hj
        have hd1 := decode_ascii s j hj
        have hd2 := decode_high s j hj
        obtain ⟨x, hx⟩ : ∃ x : UInt8, s[j]'hj = x := ⟨_, rfl⟩
        obtain ⟨y, hy⟩ : ∃ y : UInt8, t[j]'hjl = y := ⟨_, rfl⟩
        have HX : Hid (s.data.toList[j]? = some x) := hide (by rw [← hx]; exact Lib.data_getElem? s j hj)
        have HY : Hid (t.data.toList[j]? = some y) := hide (by rw [← hy]; exact Lib.data_getElem? t j hjl)
        rw [hx] at hd1 hd2
        have hy0 : (0 : Int) ≤ (y.toNat : Int) := by omega
        have hy1 : (y.toNat : Int) ≤ 255 := by have := y.toNat_lt; omega
        by_cases he : low x = y
        · have hxa : x.toNat < 128 := by
            rcases unhide HA with h | h
            · exact h x (List.mem_of_getElem? (unhide HX))
            · have h1 := h y (List.mem_of_getElem? (unhide HY))
              rcases Nat.lt_or_ge x.toNat 128 with h2 | h2
              · exact h2
              · rw [low_ascii x h2] at he; rw [he]; exact h1
          have hd := hd1 hxa
          rw [hd] at hnx
          have hzl := lowZ_byte x
          have hee : (lowZ (x.toNat : Int) != (y.toNat : Int)) = false := by rw [hzl, he]; simp
          have HE := hide he
          have HI2 : Hid (_ = _) := hide (iterAt_heap _ w.heap.size s j (j + 1) hit)
          have HB2 := hide (below_iterAt (unhide HB) (Nat.le_refl _) s (j + 1))
          clear he hd hd1 hd2 hzl hit hx
          go_wp2
          go_quiet ((go_at_call 25; exact Calls.quiet_of_same (small_any _ _)))
          go_wp2
          go_roundg (gk - 1)
          case measure => omega
          case rel =>
            refine ⟨j + 1, by omega, fun i c d hi hc hd => ?_, unhide HI2, below_dn (unhide HB2) _⟩
            by_cases e : i = j
            · subst e; rw [unhide HX] at hc; rw [unhide HY] at hd; cases hc; cases hd; exact unhide HE
            · exact (unhide HP) i c d (by omega) hc hd
        · obtain ⟨r, q, hd, hne⟩ : ∃ r q : Nat, Utf8.decode s j = (r, q) ∧ (lowZ (r : Int) != (y.toNat : Int)) = true := by
            rcases Nat.lt_or_ge x.toNat 128 with h2 | h2
            · refine ⟨_, _, hd1 h2, ?_⟩
              rw [lowZ_byte, bne_iff_ne]; intro e; apply he; apply UInt8.toNat_inj.1; omega
            · refine ⟨(Utf8.decode s j).1, (Utf8.decode s j).2, rfl, ?_⟩
              have h3 := (hd2 h2).1
              rw [lowZ_other _ (by omega), bne_iff_ne]
              intro e
              rcases unhide HA with h | h
              · have := h x (List.mem_of_getElem? (unhide HX)); omega
              · have := h y (List.mem_of_getElem? (unhide HY)); omega
          rw [hd] at hnx
          have HE := hide he
          have HB2 := hide (below_iterAt (unhide HB) (Nat.le_refl _) s (j + q))
          clear he hd hd1 hd2 hit hx
          go_wp2
          go_quiet ((go_at_call 25; exact Calls.quiet_of_same (small_any _ _)))
          go_wp2
          go_ret
          refine ⟨?_, below_dn (unhide HB2) _⟩
          have : ¬ (s.data.toList.map low = t.data.toList) := by
            intro e
            have h1 : (s.data.toList.map low)[j]? = some (low x) := by rw [List.getElem?_map, unhide HX]; rfl
            rw [e, unhide HY] at h1
            injection h1 with h1
            exact unhide HE h1.symm
          simp [this]
      · obtain rfl : j = s.size := by omega
        have hnx := fun ty => run_next_end_at (P := Tryd.prog) _ w.heap.size s s.size ty hit (Nat.lt_irrefl _)
        go_wp2
        go_ret
        refine ⟨?_, unhide HB⟩
        have : s.data.toList.map low = t.data.toList := by
          apply List.ext_getElem?
          intro i
          by_cases hi : i < s.size
          · obtain ⟨c, hc⟩ : ∃ c, s.data.toList[i]? = some c := ⟨_, Lib.data_getElem? s i hi⟩
            obtain ⟨d, hd⟩ : ∃ d, t.data.toList[i]? = some d := ⟨_, Lib.data_getElem? t i (by rw [← unhide HZ]; exact hi)⟩
            rw [List.getElem?_map, hc, hd]
            show some (low c) = some d
            rw [(unhide HP) i c d hi hc hd]
          · rw [List.getElem?_eq_none (by simp only [List.length_map, len_data]; omega), List.getElem?_eq_none (by rw [len_data, ← unhide HZ]; omega)]
        simp [this]
  · have hzz : ((s.size : Int) != (t.size : Int)) = true := by rw [bne_iff_ne]; omega
    have HZ := hide hz
    clear hz ha
    go_enter Tryd.func24, Tryd.ntmps24
    go_wp2
    go_ret
    refine ⟨?_, Below.refl _ w⟩
    have : ¬ (s.data.toList.map low = t.data.toList) := by
      intro e
      have := congrArg List.length e
      rw [List.length_map, len_data, len_data] at this
      exact unhide HZ this
    simp [this]
end Go.Proofs.YtgbinemombgckaaDoor
