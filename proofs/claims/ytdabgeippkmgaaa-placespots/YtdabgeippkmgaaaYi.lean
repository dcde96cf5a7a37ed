import Derived.Test.YtdabgeippkmgaaaYh
import Derived.Deep.RegionWith
/-
  The law's world: both arenas and both stacks after any acts.
-/
namespace Go.Proofs.Ytdabgeippkmgaaa
open Go.RowKit

def wObs (base bA bR bK bW : Nat) (s : List OneM × List Int) : List (Ob base) := [aO base bA s.1, rO base bR s.1, stOb base bK bA s.2, rsO base bW bR s.2]

theorem results_4 {fn : Func} {t u v x : Tmp} (h : fn.results = #[.tmp t, .tmp u, .tmp v, .tmp x]) (tmps : Array Value) (P : Program) (w : World) :
    (results fn tmps).run P w = .ok (.tuple #[tmps.getD t undef, tmps.getD u undef, tmps.getD v undef, tmps.getD x undef]) w := by
  simp [results, h]

set_option maxHeartbeats 4000000 in
set_option maxRecDepth 100000 in
theorem world_any (w : World) (a : Option Addr) (l : List ActM) (cap : Nat) (hin : ActsIn w a l) (hl : l.length ≤ 140737488351232) :
    Calls Try.prog 34 #[.slice a l.length cap] w fun e w' => ∃ bA bR bK bW, e = .returned (.tuple #[.pointer (some ⟨bA, 0, none⟩), .pointer (some ⟨bR, 0, none⟩), .pointer (some ⟨bK, 0, none⟩), .pointer (some ⟨bW, 0, none⟩)]) ∧ Env w w' (wObs _ bA bR bK bW (worldW (l.take 200))) := by
  have HIN := hide hin
  have H0 := hide (Env.start w)
  have hlz : (l.length : Int) ≤ 140737488351232 := by omega
  have HWI := hide (WI.all l)
  clear hin hl
  go_enter Try.func34, Try.ntmps34
  go_wp2_with (first
    | (go_at_call 38; refine (anew_any (unhide H0)).mono ?_; rintro e w1 ⟨bA, rfl, hv⟩; have H1 := hide hv; clear hv)
    | (go_at_call 44; refine (arnew_any (unhide H1)).mono ?_; rintro e w2 ⟨bR, rfl, hv⟩; have H2 := hide hv; clear hv)
    | (go_at_call 11; refine (asnew_any (unhide H2) (i := 0) (bA := bA) rfl).mono ?_; rintro e w3 ⟨bK, rfl, hv⟩; have H3 := hide hv; clear hv)
    | (go_at_call 12; refine (arsnew_any (unhide H3)).mono ?_; rintro e w4 ⟨bW, rfl, hv⟩; have H4 := hide hv; clear hv))
  go_loopg [11] 200 (fun g s6 wr => ∃ i : Nat, s6 = .int .i64 (i : Int) ∧ i + g = 200 ∧ i ≤ l.length ∧ Env w wr (wObs _ bA bR bK bW (worldW (l.take i))))
  case atStart => exact ⟨0, rfl, by omega, Nat.zero_le _, unhide H4⟩
  case round =>
    obtain ⟨i, rfl, hig, hil, hv⟩ := hrel
    have HV := hide hv
    have HG := hide hig
    have HGD := hide ((unhide HWI) i hil).good
    clear hv
    by_cases hi : i < l.length
    · have hiz : (i : Int) < (l.length : Int) := by omega
      by_cases h3 : i < 200
      · have h3z : (i : Int) < 200 := by omega
        obtain ⟨c, hc⟩ : ∃ c, l[i]? = some c := ⟨_, List.getElem?_eq_getElem hi⟩
        obtain ⟨b, off, rfl, _, _⟩ := (unhide HIN).cells i c hc
        have HC : Hid (∀ wx, Below w.heap.size w wx → wx.cell? ⟨b, off + i * 3, none⟩ = some (.string c.text) ∧ wx.cell? ⟨b, off + i * 3 + 1, none⟩ = some (.int .i64 c.up) ∧ wx.cell? ⟨b, off + i * 3 + 2, none⟩ = some (.bool c.opn)) := hide (fun wx hb => by
          obtain ⟨b', off', e, c0, c1, c2⟩ := ((unhide HIN).below hb).cells i c hc
          cases e
          exact ⟨c0, c1, c2⟩)
        have HN := hide (worldW_next hc)
        have HGD2 := hide (show Good (keysO (linkR (elemO (worldW (l.take i)).1 0 c.text []).1 c.up (elemO (worldW (l.take i)).1 0 c.text []).2.1 (-1))) (worldW (l.take i)).2 from by
          obtain ⟨ms, e, _, _⟩ := elemO_grow (worldW (l.take i)).1 c.text
          rw [keysO_link, e]
          unfold keysO
          rw [List.map_append]
          exact (unhide HGD).grow)
        generalize worldW (l.take i) = s at *
        generalize hlen : l.length = n at *
        have HLEN := hide hlen
        obtain ⟨ct, cu, co⟩ := c
        obtain ⟨os, L⟩ := s
        simp only at HC HN HGD2
        obtain ⟨q0, q1, q2⟩ := (unhide HC) wr (unhide HV).bel
        have HI := hide hi
        have HIL := hide hil
        have HH3 := hide h3
        unfold stepW at HN
        simp only at HN
        have HV' : Hid (Env w wr [aO _ bA os, rO _ bR os, stOb _ bK bA L, rsO _ bW bR L]) := HV
        clear HV
        have HV := HV'
        clear HV'
        clear hig hil hi h3 hc hlen
        generalize hr : elemO os 0 ct [] = r at *
        have HR := hide hr
        clear hr
        obtain ⟨os1, id1, e1⟩ := r
        simp only at HN HGD2
        by_cases he : e1 = 0
        · subst he
          rw [if_pos rfl] at HN
          cases co with
          | true =>
            simp only [if_true] at HN
            go_wp2_with (first
              | (go_at_call 39; refine (aelem_any (unhide HV) (i := 0) (bA := bA) rfl 0 ct).mono ?_; rintro e w3 ⟨rfl, hv⟩; rw [unhide HR] at hv; rw [unhide HR]; have E3 : Hid (Env w w3 [aO _ bA os1, rO _ bR os, stOb _ bK bA L, rsO _ bW bR L]) := hide hv; obtain ⟨r0, r1, r2⟩ := (unhide HC) w3 hv.bel; clear q0 q1 q2 hv)
              | (go_at_call 45; refine (arelem_any (unhide E3) (i := 1) (bR := bR) rfl 0 ct).mono ?_; rintro e w4' ⟨rfl, hv⟩; rw [unhide HR] at hv; rw [unhide HR]; have E4 : Hid (Env w w4' [aO _ bA os1, rO _ bR os1, stOb _ bK bA L, rsO _ bW bR L]) := hide hv; obtain ⟨q0, q1, q2⟩ := (unhide HC) w4' hv.bel; clear r0 r1 r2 hv)
              | (go_at_call 103; refine (alink_any (unhide E4) (i := 0) (bA := bA) rfl cu id1 (-1)).mono ?_; rintro e w5 ⟨rfl, hv⟩; have E5 : Hid (Env w w5 [aO _ bA (linkR os1 cu id1 (-1)), rO _ bR os1, stOb _ bK bA L, rsO _ bW bR L]) := hide hv; obtain ⟨r0, r1, r2⟩ := (unhide HC) w5 hv.bel; clear q0 q1 q2 hv)
              | (go_at_call 104; refine (arlink_any (unhide E5) (i := 1) (bR := bR) rfl ((unhide E4).sim (i := 0) (bA := bA) rfl) cu id1 (-1)).mono ?_; rintro e w6 ⟨rfl, hv⟩; have E6 : Hid (Env w w6 [aO _ bA (linkR os1 cu id1 (-1)), rO _ bR (linkR os1 cu id1 (-1)), stOb _ bK bA L, rsO _ bW bR L]) := hide hv; obtain ⟨q0, q1, q2⟩ := (unhide HC) w6 hv.bel; clear r0 r1 r2 hv)
              | (go_at_call 48; refine (apush_any (unhide E6) (i := 0) (j := 2) (bA := bA) (bK := bK) rfl rfl (by decide) (unhide HGD2) id1).mono ?_; rintro e w7 ⟨rfl, hv⟩; have E7 : Hid (Env w w7 [aO _ bA (linkR os1 cu id1 (-1)), rO _ bR (linkR os1 cu id1 (-1)), stOb _ bK bA (pushL (keysO (linkR os1 cu id1 (-1))) L id1), rsO _ bW bR L]) := hide hv; clear hv)
              | (go_at_call 49; refine (arpush_any (unhide E7) (i := 1) (j := 3) (bR := bR) (bW := bW) rfl rfl (by decide) (unhide HGD2) id1).mono ?_; rintro e w8 ⟨rfl, hv⟩; have E8 : Hid (Env w w8 [aO _ bA (linkR os1 cu id1 (-1)), rO _ bR (linkR os1 cu id1 (-1)), stOb _ bK bA (pushL (keysO (linkR os1 cu id1 (-1))) L id1), rsO _ bW bR (pushL (keysO (linkR os1 cu id1 (-1))) L id1)]) := hide hv; clear hv))
            go_roundg (gk - 1)
            case measure => have := unhide HG; have := unhide HH3; omega
            case rel => exact ⟨i + 1, by go_num, by have := unhide HG; have := unhide HH3; omega, by have := unhide HI; have := unhide HLEN; omega, by rw [unhide HN]; exact unhide E8⟩
          | false =>
            simp only [Bool.false_eq_true, if_false] at HN
            go_wp2_with (first
              | (go_at_call 39; refine (aelem_any (unhide HV) (i := 0) (bA := bA) rfl 0 ct).mono ?_; rintro e w3 ⟨rfl, hv⟩; rw [unhide HR] at hv; rw [unhide HR]; have E3 : Hid (Env w w3 [aO _ bA os1, rO _ bR os, stOb _ bK bA L, rsO _ bW bR L]) := hide hv; obtain ⟨r0, r1, r2⟩ := (unhide HC) w3 hv.bel; clear q0 q1 q2 hv)
              | (go_at_call 45; refine (arelem_any (unhide E3) (i := 1) (bR := bR) rfl 0 ct).mono ?_; rintro e w4' ⟨rfl, hv⟩; rw [unhide HR] at hv; rw [unhide HR]; have E4 : Hid (Env w w4' [aO _ bA os1, rO _ bR os1, stOb _ bK bA L, rsO _ bW bR L]) := hide hv; obtain ⟨q0, q1, q2⟩ := (unhide HC) w4' hv.bel; clear r0 r1 r2 hv)
              | (go_at_call 103; refine (alink_any (unhide E4) (i := 0) (bA := bA) rfl cu id1 (-1)).mono ?_; rintro e w5 ⟨rfl, hv⟩; have E5 : Hid (Env w w5 [aO _ bA (linkR os1 cu id1 (-1)), rO _ bR os1, stOb _ bK bA L, rsO _ bW bR L]) := hide hv; obtain ⟨r0, r1, r2⟩ := (unhide HC) w5 hv.bel; clear q0 q1 q2 hv)
              | (go_at_call 104; refine (arlink_any (unhide E5) (i := 1) (bR := bR) rfl ((unhide E4).sim (i := 0) (bA := bA) rfl) cu id1 (-1)).mono ?_; rintro e w6 ⟨rfl, hv⟩; have E6 : Hid (Env w w6 [aO _ bA (linkR os1 cu id1 (-1)), rO _ bR (linkR os1 cu id1 (-1)), stOb _ bK bA L, rsO _ bW bR L]) := hide hv; obtain ⟨q0, q1, q2⟩ := (unhide HC) w6 hv.bel; clear r0 r1 r2 hv)
              | (go_at_call 48; refine (apush_any (unhide E6) (i := 0) (j := 2) (bA := bA) (bK := bK) rfl rfl (by decide) (unhide HGD2) id1).mono ?_; rintro e w7 ⟨rfl, hv⟩; have E7 : Hid (Env w w7 [aO _ bA (linkR os1 cu id1 (-1)), rO _ bR (linkR os1 cu id1 (-1)), stOb _ bK bA (pushL (keysO (linkR os1 cu id1 (-1))) L id1), rsO _ bW bR L]) := hide hv; clear hv)
              | (go_at_call 49; refine (arpush_any (unhide E7) (i := 1) (j := 3) (bR := bR) (bW := bW) rfl rfl (by decide) (unhide HGD2) id1).mono ?_; rintro e w8 ⟨rfl, hv⟩; have E8 : Hid (Env w w8 [aO _ bA (linkR os1 cu id1 (-1)), rO _ bR (linkR os1 cu id1 (-1)), stOb _ bK bA (pushL (keysO (linkR os1 cu id1 (-1))) L id1), rsO _ bW bR (pushL (keysO (linkR os1 cu id1 (-1))) L id1)]) := hide hv; clear hv))
            go_roundg (gk - 1)
            case measure => have := unhide HG; have := unhide HH3; omega
            case rel => exact ⟨i + 1, by go_num, by have := unhide HG; have := unhide HH3; omega, by have := unhide HI; have := unhide HLEN; omega, by rw [unhide HN]; exact unhide E6⟩
        · rw [if_neg he] at HN
          have he2 : (e1 != 0) = true := by simp [he]
          go_wp2_with (first
            | (go_at_call 39; refine (aelem_any (unhide HV) (i := 0) (bA := bA) rfl 0 ct).mono ?_; rintro e w3 ⟨rfl, hv⟩; rw [unhide HR] at hv; rw [unhide HR]; have E3 : Hid (Env w w3 [aO _ bA os1, rO _ bR os, stOb _ bK bA L, rsO _ bW bR L]) := hide hv; obtain ⟨r0, r1, r2⟩ := (unhide HC) w3 hv.bel; clear q0 q1 q2 hv)
            | (go_at_call 45; refine (arelem_any (unhide E3) (i := 1) (bR := bR) rfl 0 ct).mono ?_; rintro e w4' ⟨rfl, hv⟩; rw [unhide HR] at hv; rw [unhide HR]; have E4 : Hid (Env w w4' [aO _ bA os1, rO _ bR os1, stOb _ bK bA L, rsO _ bW bR L]) := hide hv; obtain ⟨q0, q1, q2⟩ := (unhide HC) w4' hv.bel; clear r0 r1 r2 hv)
            | (go_at_call 103; refine (alink_any (unhide E4) (i := 0) (bA := bA) rfl cu id1 (-1)).mono ?_; rintro e w5 ⟨rfl, hv⟩; have E5 : Hid (Env w w5 [aO _ bA (linkR os1 cu id1 (-1)), rO _ bR os1, stOb _ bK bA L, rsO _ bW bR L]) := hide hv; obtain ⟨r0, r1, r2⟩ := (unhide HC) w5 hv.bel; clear q0 q1 q2 hv)
            | (go_at_call 104; refine (arlink_any (unhide E5) (i := 1) (bR := bR) rfl ((unhide E4).sim (i := 0) (bA := bA) rfl) cu id1 (-1)).mono ?_; rintro e w6 ⟨rfl, hv⟩; have E6 : Hid (Env w w6 [aO _ bA (linkR os1 cu id1 (-1)), rO _ bR (linkR os1 cu id1 (-1)), stOb _ bK bA L, rsO _ bW bR L]) := hide hv; obtain ⟨q0, q1, q2⟩ := (unhide HC) w6 hv.bel; clear r0 r1 r2 hv)
            | (go_at_call 48; refine (apush_any (unhide E6) (i := 0) (j := 2) (bA := bA) (bK := bK) rfl rfl (by decide) (unhide HGD2) id1).mono ?_; rintro e w7 ⟨rfl, hv⟩; have E7 : Hid (Env w w7 [aO _ bA (linkR os1 cu id1 (-1)), rO _ bR (linkR os1 cu id1 (-1)), stOb _ bK bA (pushL (keysO (linkR os1 cu id1 (-1))) L id1), rsO _ bW bR L]) := hide hv; clear hv)
            | (go_at_call 49; refine (arpush_any (unhide E7) (i := 1) (j := 3) (bR := bR) (bW := bW) rfl rfl (by decide) (unhide HGD2) id1).mono ?_; rintro e w8 ⟨rfl, hv⟩; have E8 : Hid (Env w w8 [aO _ bA (linkR os1 cu id1 (-1)), rO _ bR (linkR os1 cu id1 (-1)), stOb _ bK bA (pushL (keysO (linkR os1 cu id1 (-1))) L id1), rsO _ bW bR (pushL (keysO (linkR os1 cu id1 (-1))) L id1)]) := hide hv; clear hv))
          go_roundg (gk - 1)
          case measure => have := unhide HG; have := unhide HH3; omega
          case rel => exact ⟨i + 1, by go_num, by have := unhide HG; have := unhide HH3; omega, by have := unhide HI; have := unhide HLEN; omega, by rw [unhide HN]; exact unhide E4⟩
      · obtain rfl : i = 200 := by omega
        generalize l.length = n at *
        clear hig hil h3 hi
        go_wp2
        exact bodyPost_ret (results_4 (t := 2) (u := 3) (v := 4) (x := 5) Try.results34 _ _ _) rfl ⟨bA, bR, bK, bW, rfl, unhide HV⟩
    · have hiz : ¬ (i : Int) < (l.length : Int) := by omega
      have HF : Hid (worldW (l.take 200) = worldW (l.take i)) := hide (by
        rw [List.take_of_length_le (show l.length ≤ 200 by omega), List.take_of_length_le (show l.length ≤ i by omega)])
      generalize l.length = n at *
      clear hig hil hi
      go_wp2
      exact bodyPost_ret (results_4 (t := 2) (u := 3) (v := 4) (x := 5) Try.results34 _ _ _) rfl ⟨bA, bR, bK, bW, rfl, by rw [unhide HF]; exact unhide HV⟩
end Go.Proofs.Ytdabgeippkmgaaa
