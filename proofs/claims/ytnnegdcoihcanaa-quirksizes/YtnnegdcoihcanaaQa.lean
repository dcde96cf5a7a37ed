/-
  Package quirk's small calls: a byte as a small letter, whether two texts are the same but for the size of letters; the law's large.
-/
import Derived.Test.YtnnegdcoihcanaaRows
import Derived.WalkKit
import Derived.WalkSpells
import Derived.WalkLawsBesides
import Derived.WalkMore
import Derived.Deep.LoopGhost
import Derived.Deep.QuietTactic
import Derived.BigQuiet
import Derived.Lib.OthersKept
import Derived.Lib.IndexBytes
namespace Go.Proofs.Ytnnegdcoihcanaa
open Go.RowKit Go.Lib

theorem hide {p : Prop} (h : p) : Hid p := h
theorem unhide {p : Prop} (h : Hid p) : p := h

def low (c : UInt8) : UInt8 := if 65 ≤ c.toNat ∧ c.toNat ≤ 90 then c + 32 else c
theorem low_cap (c : UInt8) (h1 : 65 ≤ c.toNat) (h2 : c.toNat ≤ 90) : ((low c).toNat : Int) = (c.toNat : Int) + 32 := by
  have e : low c = c + 32 := by unfold low; rw [if_pos ⟨h1, h2⟩]
  rw [e, UInt8.toNat_add]
  have : (32 : UInt8).toNat = 32 := rfl
  omega
theorem low_other (c : UInt8) (h : ¬ (65 ≤ c.toNat ∧ c.toNat ≤ 90)) : low c = c := by unfold low; rw [if_neg h]
theorem len_data (s : ByteArray) : s.data.toList.length = s.size := by show _ = s.data.size; simp

theorem below_dn {B : Nat} {a w : World} (h : Below B a w) (n : Nat) : Below B a (w.drewN n) := ⟨h.os, h.tape, h.output, h.size, h.block⟩

theorem dn_dn (w : World) (m n : Nat) : (w.drewN m).drewN n = w.drewN (m + n) := by
  simp [World.drewN, Nat.add_assoc]

theorem small_any (c : UInt8) (w : World) : Calls Try.prog 22 #[.int .u8 c.toNat] w fun e w' => e = .returned (.int .u8 ((low c).toNat : Int)) ∧ w' = w := by
  by_cases h1 : (65 : Int) ≤ (c.toNat : Int)
  · by_cases h2 : (c.toNat : Int) ≤ 90
    · have HE := hide (low_cap c (by omega) (by omega))
      go_enter Try.func22, Try.ntmps22
      go_wp2
      go_ret
      exact ⟨congrArg (fun v => Ending.returned (Value.int .u8 v)) (by rw [unhide HE]; omega), rfl⟩
    · have HE := hide (low_other c (by omega))
      go_enter Try.func22, Try.ntmps22
      go_wp2
      go_ret
      exact ⟨congrArg (fun v : UInt8 => Ending.returned (Value.int .u8 (v.toNat : Int))) (unhide HE).symm, rfl⟩
  · have HE := hide (low_other c (by omega))
    go_enter Try.func22, Try.ntmps22
    go_wp2
    go_ret
    exact ⟨congrArg (fun v : UInt8 => Ending.returned (Value.int .u8 (v.toNat : Int))) (unhide HE).symm, rfl⟩

/-- Two texts, A to Z taken as a to z. -/
def sameM (a b : ByteArray) : Bool := decide (a.data.toList.map low = b.data.toList.map low)

set_option maxHeartbeats 2000000 in
theorem same_any (a b : ByteArray) (w : World) (hl : (a.size : Int) ≤ 9223372036854775807) :
    Calls Try.prog 16 #[.string a, .string b] w fun e w' => e = .returned (.bool (sameM a b)) ∧ ∃ q, w' = w.drewN q := by
  unfold sameM
  by_cases hz : a.size = b.size
  · have hzz : ((a.size : Int) != (b.size : Int)) = false := by simp [hz]
    have HZ := hide hz
    clear hz
    go_enter Try.func16, Try.ntmps16
    go_wp2
    go_loopg [5, 13] a.size (fun k _ s13 wx => ∃ j q : Nat, s13 = .int .i64 j ∧ j + k = a.size ∧ (∀ i c d, i < j → a.data.toList[i]? = some c → b.data.toList[i]? = some d → low c = low d) ∧ wx = w.drewN q)
    case atStart => exact ⟨0, 0, rfl, by omega, fun i c d h => by omega, rfl⟩
    case round =>
      obtain ⟨j, q, rfl, hjk, hpre, hwq⟩ := hrel
      have HP := hide hpre
      have HW := hide hwq
      clear hpre hwq
      by_cases hj : j < a.size
      · have hjz : (j : Int) < (a.size : Int) := by omega
        have hjl : j < b.size := by rw [← unhide HZ]; exact hj
        obtain ⟨x, hx⟩ : ∃ x : UInt8, a[j]'hj = x := ⟨_, rfl⟩
        obtain ⟨y, hy⟩ : ∃ y : UInt8, b[j]'hjl = y := ⟨_, rfl⟩
        have HX : Hid (a.data.toList[j]? = some x) := hide (by rw [← hx]; exact Lib.data_getElem? a j hj)
        have HY : Hid (b.data.toList[j]? = some y) := hide (by rw [← hy]; exact Lib.data_getElem? b j hjl)
        by_cases he : low x = low y
        · have hee : (((low x).toNat : Int) != ((low y).toNat : Int)) = false := by rw [he]; simp
          have HE := hide he
          clear he
          go_wp2
          go_quiet ((go_at_call 22; exact Calls.quiet_of_same (small_any _ _)))
          go_wp2
          go_roundg (gk - 1)
          case measure => omega
          case rel =>
            refine ⟨j + 1, _, by go_num, by omega, fun i c d hi hc hd => ?_, by rw [unhide HW, dn_dn]⟩
            by_cases e : i = j
            · subst e; rw [unhide HX] at hc; rw [unhide HY] at hd; cases hc; cases hd; exact unhide HE
            · exact (unhide HP) i c d (by omega) hc hd
        · have hee : (((low x).toNat : Int) != ((low y).toNat : Int)) = true := by
            rw [bne_iff_ne]; intro e; apply he; apply UInt8.toNat_inj.1; omega
          have HE := hide he
          clear he
          go_wp2
          go_quiet ((go_at_call 22; exact Calls.quiet_of_same (small_any _ _)))
          go_wp2
          go_ret
          refine ⟨?_, _, by rw [unhide HW, dn_dn]⟩
          have : ¬ (a.data.toList.map low = b.data.toList.map low) := by
            intro e
            have h1 : (a.data.toList.map low)[j]? = some (low x) := by rw [List.getElem?_map, unhide HX]; rfl
            rw [e, List.getElem?_map, unhide HY] at h1
            injection h1 with h1
            exact unhide HE h1.symm
          simp [this]
      · have hjz : ¬ (j : Int) < (a.size : Int) := by omega
        obtain rfl : j = a.size := by omega
        go_wp2
        go_ret
        refine ⟨?_, _, unhide HW⟩
        have : a.data.toList.map low = b.data.toList.map low := by
          apply List.ext_getElem?
          intro i
          by_cases hi : i < a.size
          · obtain ⟨c, hc⟩ : ∃ c, a.data.toList[i]? = some c := ⟨_, Lib.data_getElem? a i hi⟩
            obtain ⟨d, hd⟩ : ∃ d, b.data.toList[i]? = some d := ⟨_, Lib.data_getElem? b i (by rw [← unhide HZ]; exact hi)⟩
            rw [List.getElem?_map, List.getElem?_map, hc, hd]
            show some (low c) = some (low d)
            rw [(unhide HP) i c d hi hc hd]
          · rw [List.getElem?_eq_none (by simp only [List.length_map, len_data]; omega), List.getElem?_eq_none (by simp only [List.length_map, len_data]; rw [← unhide HZ]; omega)]
        simp [this]
  · have hzz : ((a.size : Int) != (b.size : Int)) = true := by rw [bne_iff_ne]; omega
    have HZ := hide hz
    clear hz hl
    go_enter Try.func16, Try.ntmps16
    go_wp2
    go_ret
    refine ⟨?_, 0, rfl⟩
    have : ¬ (a.data.toList.map low = b.data.toList.map low) := by
      intro e
      have := congrArg List.length e
      rw [List.length_map, List.length_map, len_data, len_data] at this
      exact unhide HZ this
    simp [this]
end Go.Proofs.Ytnnegdcoihcanaa
