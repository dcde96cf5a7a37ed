/-
  Both arenas made of the same elements.
-/
import Derived.Test.YtmllhebmaldgfaaXEa
import Derived.Test.YtmllhebmaldgfaaXOa
namespace Go.Proofs.Ytmllhebmaldgfaa
open Go.RowKit

def xB : ByteArray := ⟨#[120]⟩
def ksOf (ks : List Key) (l : List Cal) : List Key := l.foldl (fun ks c => (elemK ks c.space c.name).1) ks
/-- The nodes of the arenas that are made of l. -/
def ksL (l : List Cal) : List Key := (textK (ksOf [⟨0, 0, emptyS⟩] (l.take 300)) xB).1
theorem ksOf_next {l : List Cal} {i : Nat} {c : Cal} (h : l[i]? = some c) : ksOf [⟨0, 0, emptyS⟩] (l.take (i + 1)) = (elemK (ksOf [⟨0, 0, emptyS⟩] (l.take i)) c.space c.name).1 := by
  obtain ⟨hlt, rfl⟩ := List.getElem?_eq_some_iff.1 h
  rw [List.take_succ_eq_append_getElem hlt, ksOf, List.foldl_append]
  rfl

set_option maxHeartbeats 4000000 in
theorem arenas_any (w : World) (a : Option Addr) (l : List Cal) (cap : Nat) (hin : ElsIn w a l) (hl : l.length ≤ 140737488351232) :
    Calls Try.prog 9 #[.slice a l.length cap] w fun e w' => ∃ bA bR, e = .returned (.tuple #[.pointer (some ⟨bA, 0, none⟩), .pointer (some ⟨bR, 0, none⟩)]) ∧ Env w w' [arOb _ bA (ksL l), rfOb _ bR (ksL l)] := by
  have HIN := hide hin
  have H0 := hide (Env.start w)
  have hlz : (l.length : Int) ≤ 140737488351232 := by omega
  clear hin hl
  go_enter Try.func9, Try.ntmps9
  go_wp2_with (first
    | (go_at_call 26; refine (env_new (unhide H0)).mono ?_; rintro e w1 ⟨bA, rfl, hv⟩; have H1 := hide hv; clear hv)
    | (go_at_call 35; refine (env_rnew (unhide H1)).mono ?_; rintro e w2 ⟨bR, rfl, hv⟩; have H2 := hide hv; clear hv))
  go_loopg [6] 300 (fun g s6 wr => ∃ i : Nat, s6 = .int .i64 (i : Int) ∧ i + g = 300 ∧ i ≤ l.length ∧ Env w wr [arOb _ bA (ksOf [⟨0, 0, emptyS⟩] (l.take i)), rfOb _ bR (ksOf [⟨0, 0, emptyS⟩] (l.take i))])
  case atStart => exact ⟨0, rfl, by omega, Nat.zero_le _, unhide H2⟩
  case round =>
    obtain ⟨i, rfl, hig, hil, hv⟩ := hrel
    have HV := hide hv
    have HG := hide hig
    clear hv
    by_cases hi : i < l.length
    · have hiz : (i : Int) < (l.length : Int) := by omega
      by_cases h3 : i < 300
      · have h3z : (i : Int) < 300 := by omega
        obtain ⟨c, hc⟩ : ∃ c, l[i]? = some c := ⟨_, List.getElem?_eq_getElem hi⟩
        obtain ⟨b, off, rfl, _, _⟩ := (unhide HIN).cells i c hc
        have HC : Hid (∀ wx, Below w.heap.size w wx → wx.cell? ⟨b, off + i * 2, none⟩ = some (.int .i64 c.space) ∧ wx.cell? ⟨b, off + i * 2 + 1, none⟩ = some (.string c.name)) := hide (fun wx hb => by
          obtain ⟨b', off', e, c0, c1⟩ := ((unhide HIN).below hb).cells i c hc
          cases e
          exact ⟨c0, c1⟩)
        have HN := hide (ksOf_next hc)
        generalize ksOf [⟨0, 0, emptyS⟩] (l.take i) = ks at *
        generalize hlen : l.length = n at *
        have HLEN := hide hlen
        obtain ⟨cs, cn⟩ := c
        simp only at HC HN
        obtain ⟨q0, q1⟩ := (unhide HC) wr (unhide HV).bel
        have HI := hide hi
        have HIL := hide hil
        have HH3 := hide h3
        clear hig hil hi h3 hc hlen
        go_wp2_with fail
        go_region_with (go_at_call 27; refine (env_elem (wx := _) (by first | exact unhide HV | exact (unhide HV).more (Below.refl _ _).drew | exact (unhide HV).more (below_dn (Below.refl _ _) _) | exact (unhide HV).more (Below.refl _ _).drew.drew) (i := 0) (bA := bA) rfl cs cn).mono ?_; rintro e w3 ⟨rfl, hv⟩; have E3 := hide hv; obtain ⟨r0, r1⟩ := (unhide HC) w3 hv.bel; clear hv)
        all_goals go_wp2_with fail
        all_goals go_region_with (go_at_call 36; refine (env_relem (wx := _) (by first | exact unhide E3 | exact (unhide E3).more (Below.refl _ _).drew | exact (unhide E3).more (below_dn (Below.refl _ _) _) | exact (unhide E3).more (Below.refl _ _).drew.drew) (i := 1) (bR := bR) rfl cs cn).mono ?_; rintro e w4 ⟨rfl, hv⟩; have E4 := hide hv; clear hv)
        all_goals go_wp2
        all_goals go_roundg (gk - 1)
        all_goals first | (case measure => have := unhide HG; have := unhide HH3; omega) | skip
        all_goals exact ⟨i + 1, by go_num, by have := unhide HG; have := unhide HH3; omega, by have := unhide HI; have := unhide HLEN; omega, by rw [unhide HN]; exact unhide E4⟩
      · obtain rfl : i = 300 := by omega
        have HF : Hid (ksL l = (textK (ksOf [⟨0, 0, emptyS⟩] (l.take 300)) xB).1) := hide rfl
        generalize l.length = n at *
        generalize ksOf [⟨0, 0, emptyS⟩] (l.take 300) = ks at *
        clear hig hil h3 hi
        go_wp2_with (first
          | (go_at_call 37; refine (env_text (unhide HV) (i := 0) (bA := bA) rfl xB).mono ?_; rintro e w3 ⟨rfl, hv⟩; have E3 := hide hv; clear hv)
          | (go_at_call 38; refine (env_rtext (unhide E3) (i := 1) (bR := bR) rfl xB).mono ?_; rintro e w4 ⟨rfl, hv⟩; have E4 := hide hv; clear hv))
        go_ret2
        have e4 := unhide E4
        exact ⟨bA, bR, rfl, by rw [unhide HF]; exact e4⟩
    · have hiz : ¬ (i : Int) < (l.length : Int) := by omega
      have HF : Hid (ksL l = (textK (ksOf [⟨0, 0, emptyS⟩] (l.take i)) xB).1) := hide (by
        unfold ksL
        rw [List.take_of_length_le (show l.length ≤ 300 by omega), List.take_of_length_le (show l.length ≤ i by omega)])
      generalize ksOf [⟨0, 0, emptyS⟩] (l.take i) = ks at *
      generalize l.length = n at *
      clear hig hil hi
      go_wp2_with (first
        | (go_at_call 37; refine (env_text (unhide HV) (i := 0) (bA := bA) rfl xB).mono ?_; rintro e w3 ⟨rfl, hv⟩; have E3 := hide hv; clear hv)
        | (go_at_call 38; refine (env_rtext (unhide E3) (i := 1) (bR := bR) rfl xB).mono ?_; rintro e w4 ⟨rfl, hv⟩; have E4 := hide hv; clear hv))
      go_ret2
      have e4 := unhide E4
      exact ⟨bA, bR, rfl, by rw [unhide HF]; exact e4⟩
end Go.Proofs.Ytmllhebmaldgfaa
