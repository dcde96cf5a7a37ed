/-
  The walk of InputDrops.
-/
import Derived.Test.YtlhebbhpcepfhaaPp
namespace Go.Proofs.Ytlhebbhpcepfhaa
open Go.RowKit

def goneM (cr : Bool) : StrM := ⟨[[]], cr, true, true⟩
theorem drop_gone {m : StrM} (h : m.dropped = false) : dropM m = goneM m.cr := by unfold dropM goneM; rw [h]; rfl

section
variable {w0 w : World} {bS : Nat} {cr : Bool}
theorem g_drop0 {m : StrM} (h : Live w0 w bS m) (hd : m.dropped = false) : Calls Try.prog 25 #[.pointer (some ⟨bS, 0, none⟩)] w fun e w' => e = .returned (.int .i64 0) ∧ Live w0 w' bS (goneM m.cr) := by
  have := live_drop h
  rw [drop_gone hd, hd] at this
  exact this
theorem g_drop (h : Live w0 w bS (goneM cr)) : Calls Try.prog 25 #[.pointer (some ⟨bS, 0, none⟩)] w fun e w' => e = .returned (.int .i64 5) ∧ Live w0 w' bS (goneM cr) := live_drop h
theorem g_len (h : Live w0 w bS (goneM cr)) : Calls Try.prog 12 #[.pointer (some ⟨bS, 0, none⟩)] w fun e w' => e = .returned (.int .i64 0) ∧ w = w' := live_len h
theorem g_marks (h : Live w0 w bS (goneM cr)) : Calls Try.prog 13 #[.pointer (some ⟨bS, 0, none⟩)] w fun e w' => e = .returned (.int .i64 0) ∧ w = w' := live_marks h
theorem g_feed (h : Live w0 w bS (goneM cr)) (a : Option Addr) (l : List Int) (c : Nat) (hr : RunesIn w0 a l) : Calls Try.prog 16 #[.pointer (some ⟨bS, 0, none⟩), .slice a l.length c] w fun e w' => e = .returned (.int .i64 5) ∧ Live w0 w' bS (goneM cr) := live_feed h a l c hr
theorem g_end (h : Live w0 w bS (goneM cr)) : Calls Try.prog 17 #[.pointer (some ⟨bS, 0, none⟩)] w fun e w' => e = .returned (.int .i64 5) ∧ Live w0 w' bS (goneM cr) := live_end h
theorem g_unmark (h : Live w0 w bS (goneM cr)) : Calls Try.prog 23 #[.pointer (some ⟨bS, 0, none⟩)] w fun e w' => e = .returned (.int .i64 5) ∧ Live w0 w' bS (goneM cr) := live_unmark h
theorem g_next (h : Live w0 w bS (goneM cr)) : Calls Try.prog 22 #[.pointer (some ⟨bS, 0, none⟩)] w fun e w' => e = .returned (.tuple #[.int .i32 (-1), .bool true]) ∧ Live w0 w' bS (goneM cr) := live_next h
theorem g_peek (h : Live w0 w bS (goneM cr)) : Calls Try.prog 24 #[.pointer (some ⟨bS, 0, none⟩)] w fun e w' => e = .returned (.tuple #[.int .i32 (-1), .bool true]) ∧ Live w0 w' bS (goneM cr) := live_peek h
end

set_option maxHeartbeats 4000000 in
theorem inputDrops_walk (w : World) (a : Option Addr) (l : List Int) (c : Nat) (hr : RunesIn w a l) (hl : l.length ≤ 35184372087808) (x : Int) (hx0 : 0 ≤ x) (hx1 : x ≤ 255) :
    Calls Try.prog 8 #[.slice a l.length c, .int .u8 x] w fun e w' => e = .returned (.bool true) ∧ Below w.heap.size w w' := by
  have HR := hide hr
  have HL : Hid (l.length ≤ 35184372088832) := hide (by omega)
  clear hr hl
  obtain ⟨k, hk⟩ : ∃ k : Nat, (k : Int) = x % 5 := ⟨(x % 5).toNat, by omega⟩
  have HK := hide hk
  have hkb : (k : Int) < 5 := by omega
  have hcv : IntKind.i64.wrap (x % 5) = (k : Int) := by rw [IntKind.wrap_i64]; omega
  clear hk
  go_enter Try.func8, Try.ntmps8
  go_wp2_with (first
    | (go_at_call 9; go_must (refine (live_new w).mono ?_); rintro e w1 ⟨bS, F, rfl, hs, hb⟩; have HS := hide hs; have HB := hide hb; clear hs hb)
    | (go_at_call 15; go_must (refine (plain_any w1 a l c ((unhide HR).below (unhide HB)) (unhide HL)).mono ?_); rintro e w2 ⟨p, rfl, hp, hx, hb2⟩; have HP := hide hp; have HX := hide hx; have HB2 := hide hb2; clear hp hx hb2)
    | (go_at_call 16; go_must (refine (feed_s ((unhide HS).below (unhide HB2)) p.a p.xs p.cap (unhide HP).runes (fresh_part (unhide HS) (unhide HP))).mono ?_); rintro e w3 ⟨rfl, hu⟩; have HLV := hide (Live.upd ((unhide HS).below (unhide HB2)) ((unhide HB).trans ((unhide HB2).mono (unhide HB).size)) hu); clear hu))
  have HD : Hid ((feedM newM p.xs).2.dropped = false) := hide (by unfold feedM; split <;> (try split) <;> rfl)
  clear HS HB HP HX HB2
  generalize (feedM newM p.xs).2 = m0 at HLV HD
  generalize (feedM newM p.xs).1 = e0
  go_loopg [6] k (fun gx s6 wx => ∃ (i : Nat) (m : StrM), s6 = .int .i64 i ∧ i + gx = k ∧ Live w wx bS m ∧ m.dropped = false)
  case atStart => exact ⟨0, m0, rfl, by omega, unhide HLV, unhide HD⟩
  case round =>
    obtain ⟨i, m, rfl, hig, hlv, hdr⟩ := hrel
    have HG := hide hig
    have HV := hide hlv
    have HDR := hide hdr
    by_cases hik : i < k
    · have hiz : (i : Int) < (k : Int) := by omega
      have hw1 : IntKind.i64.wrap ((i : Int) + 1) = (i : Int) + 1 := by rw [IntKind.wrap_i64]; omega
      have HI := hide hik
      clear hlv hdr hig hik HLV HD
      go_wp2_with (go_at_call 20; go_must (refine (live_mark (unhide HV)).mono ?_); rintro e w4 ⟨rfl, hv⟩; have HV4 := hide hv; clear hv)
      go_roundg (gk - 1)
      case measure => have := unhide HG; have := unhide HI; omega
      case rel => exact ⟨i + 1, _, by go_num, by have := unhide HG; have := unhide HI; omega, unhide HV4, by unfold markM; split <;> exact unhide HDR⟩
    · have hiz : ¬ (i : Int) < (k : Int) := by omega
      clear hlv hdr hig hik HLV HD
      go_wp2_with (first
        | (go_at_call 25; have _x := unhide HG1; go_must (refine (g_drop (unhide HG1)).mono ?_); rintro e w5 ⟨rfl, hv⟩; have HG2 := hide hv; clear hv)
        | (go_at_call 25; go_must (refine (g_drop0 (unhide HV) (unhide HDR)).mono ?_); rintro e w4 ⟨rfl, hv⟩; have HG1 := hide hv; clear hv)
        | (go_at_call 12; go_must (refine (g_len (unhide HG2)).mono ?_); rintro e w6 ⟨rfl, rfl⟩)
        | (go_at_call 13; go_must (refine (g_marks (unhide HG2)).mono ?_); rintro e w6 ⟨rfl, rfl⟩)
        | (go_at_call 16; go_must (refine (g_feed (unhide HG2) a l c (unhide HR)).mono ?_); rintro e w6 ⟨rfl, hv⟩; have HG3 := hide hv; clear hv)
        | (go_at_call 17; go_must (refine (g_end (unhide HG3)).mono ?_); rintro e w7 ⟨rfl, hv⟩; have HG4 := hide hv; clear hv)
        | (go_at_call 23; go_must (refine (g_unmark (unhide HG4)).mono ?_); rintro e w8 ⟨rfl, hv⟩; have HG5 := hide hv; clear hv)
        | (go_at_call 22; go_must (refine (g_next (unhide HG5)).mono ?_); rintro e w9 ⟨rfl, hv⟩; have HG6 := hide hv; clear hv)
        | (go_at_call 24; go_must (refine (g_peek (unhide HG6)).mono ?_); rintro e w10 ⟨rfl, hv⟩; have HG7 := hide hv; clear hv))
      go_ret
      exact ⟨rfl, (unhide HG7).below⟩
end Go.Proofs.Ytlhebbhpcepfhaa
