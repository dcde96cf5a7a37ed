/-
  The law's world: both arenas and both stacks after any acts. The law's awake; what a comment more and its link make of a world.
-/
import Derived.Test.YtmllhebmaldgfaaQYh
import Derived.Deep.RegionWith
namespace Go.Proofs.Ytmllhebmaldgfaa
open Go.RowKit

theorem elemK_more (ks : List Key) (sp : Int) (nm : ByteArray) : ∃ t, (elemK ks sp nm).1 = ks ++ t := by
  unfold elemK addK
  split
  · exact ⟨[], by simp⟩
  · split
    · exact ⟨[], by simp⟩
    · split
      · split
        · exact ⟨_, rfl⟩
        · exact ⟨[], by simp⟩
      · split
        · exact ⟨_, rfl⟩
        · exact ⟨[], by simp⟩
theorem keysO_elem_more (os : List OneM) (sp : Int) (nm : ByteArray) : ∃ t, keysO (elemO os sp nm []).1 = keysO os ++ t := by
  obtain ⟨t, ht⟩ := elemK_more (os.map keyO) sp nm
  exact ⟨t, by unfold keysO; rw [(elemO_k os sp nm).1, ht]⟩
theorem keysO_link_more (os : List OneM) (p c b : Int) : ∃ t, keysO (linkR os p c b) = keysO os ++ t := ⟨[], by rw [keysO_link]; simp⟩
def wObs (base bA bR bK bW : Nat) (s : List OneM × List Int) : List (Ob base) := [aO base bA s.1, rO base bR s.1, stOb base bK bA (keysO s.1) s.2, rsO base bW bR s.2]

theorem results_4 {fn : Func} {t u v x : Tmp} (h : fn.results = #[.tmp t, .tmp u, .tmp v, .tmp x]) (tmps : Array Value) (P : Program) (w : World) :
    (results fn tmps).run P w = .ok (.tuple #[tmps.getD t undef, tmps.getD u undef, tmps.getD v undef, tmps.getD x undef]) w := by
  simp [results, h]

set_option maxHeartbeats 4000000 in
set_option maxRecDepth 100000 in
theorem world_any (w : World) (a : Option Addr) (l : List ActM) (cap : Nat) (hin : ActsIn w a l) (hl : l.length ≤ 140737488351232) :
    Calls Try.prog 29 #[.slice a l.length cap] w fun e w' => ∃ bA bR bK bW, e = .returned (.tuple #[.pointer (some ⟨bA, 0, none⟩), .pointer (some ⟨bR, 0, none⟩), .pointer (some ⟨bK, 0, none⟩), .pointer (some ⟨bW, 0, none⟩)]) ∧ Env w w' (wObs _ bA bR bK bW (worldW (l.take 200))) := by
  have HIN := hide hin
  have H0 := hide (Env.start w)
  have hlz : (l.length : Int) ≤ 140737488351232 := by omega
  have HWI := hide (WI.all l)
  clear hin hl
  go_enter Try.func29, Try.ntmps29
  go_wp2_with (first
    | (go_at_call 26; refine (anew_any (unhide H0)).mono ?_; rintro e w1 ⟨bA, rfl, hv⟩; have H1 := hide hv; clear hv)
    | (go_at_call 35; refine (arnew_any (unhide H1)).mono ?_; rintro e w2 ⟨bR, rfl, hv⟩; have H2 := hide hv; clear hv)
    | (go_at_call 10; refine (asnew_any (unhide H2) (i := 0) (bA := bA) rfl).mono ?_; rintro e w3 ⟨bK, rfl, hv⟩; have H3 := hide hv; clear hv)
    | (go_at_call 11; refine (arsnew_any (unhide H3)).mono ?_; rintro e w4 ⟨bW, rfl, hv⟩; have H4 := hide hv; clear hv))
  go_loopg [11] 200 (fun g s6 wr => ∃ i : Nat, s6 = .int .i64 (i : Int) ∧ i + g = 200 ∧ i ≤ l.length ∧ Env w wr (wObs _ bA bR bK bW (worldW (l.take i))))
  case atStart => exact ⟨0, rfl, by omega, Nat.zero_le _, unhide H4⟩
  case round =>
    obtain ⟨i, rfl, hig, hil, hv⟩ := hrel
    have HV := hide hv
    have HG := hide hig
    have HGD := hide ((unhide HWI) i hil).good
    clear hv
    by_cases hi : i < l.length
    · have hiz : (i : Int) < (l.length : Int) := by omega
      by_cases h3 : i < 200
      · have h3z : (i : Int) < 200 := by omega
        obtain ⟨c, hc⟩ : ∃ c, l[i]? = some c := ⟨_, List.getElem?_eq_getElem hi⟩
        obtain ⟨b, off, rfl, _, _⟩ := (unhide HIN).cells i c hc
        have HC : Hid (∀ wx, Below w.heap.size w wx → wx.cell? ⟨b, off + i * 3, none⟩ = some (.string c.text) ∧ wx.cell? ⟨b, off + i * 3 + 1, none⟩ = some (.int .i64 c.up) ∧ wx.cell? ⟨b, off + i * 3 + 2, none⟩ = some (.bool c.opn)) := hide (fun wx hb => by
          obtain ⟨b', off', e, c0, c1, c2⟩ := ((unhide HIN).below hb).cells i c hc
          cases e
          exact ⟨c0, c1, c2⟩)
        have HN := hide (worldW_next hc)
        have HGD2 := hide (show Good (keysO (linkR (elemO (worldW (l.take i)).1 0 c.text []).1 c.up (elemO (worldW (l.take i)).1 0 c.text []).2.1 (-1))) (worldW (l.take i)).2 from by
          obtain ⟨ms, e, _, _⟩ := elemO_grow (worldW (l.take i)).1 c.text
          rw [keysO_link, e]
          unfold keysO
          rw [List.map_append]
          exact (unhide HGD).grow)
        generalize worldW (l.take i) = s at *
        generalize hlen : l.length = n at *
        have HLEN := hide hlen
        obtain ⟨ct, cu, co⟩ := c
        obtain ⟨os, L⟩ := s
        simp only at HC HN HGD2
        obtain ⟨q0, q1, q2⟩ := (unhide HC) wr (unhide HV).bel
        have HI := hide hi
        have HIL := hide hil
        have HH3 := hide h3
        unfold stepW at HN
        simp only at HN
        have HV' : Hid (Env w wr [aO _ bA os, rO _ bR os, stOb _ bK bA (keysO os) L, rsO _ bW bR L]) := HV
        clear HV
        have HV := HV'
        clear HV'
        clear hig hil hi h3 hc hlen
        have HK1 := hide (keysO_elem_more os 0 ct)
        generalize hr : elemO os 0 ct [] = r at *
        have HR := hide hr
        clear hr
        obtain ⟨os1, id1, e1⟩ := r
        simp only at HN HGD2
        by_cases he : e1 = 0
        · subst he
          rw [if_pos rfl] at HN
          cases co with
          | true =>
            simp only [if_true] at HN
            go_wp2_with (first
              | (go_at_call 27; refine (aelem_any (unhide HV) (i := 0) (bA := bA) rfl 0 ct).mono ?_; rintro e w3 ⟨rfl, hv⟩; rw [unhide HR] at hv; rw [unhide HR]; have E3 : Hid (Env w w3 [aO _ bA os1, rO _ bR os, stOb _ bK bA (keysO os1) L, rsO _ bW bR L]) := hide (hv.stay (j := 2) rfl (unhide HK1)); obtain ⟨r0, r1, r2⟩ := (unhide HC) w3 hv.bel; clear q0 q1 q2 hv)
              | (go_at_call 36; refine (arelem_any (unhide E3) (i := 1) (bR := bR) rfl 0 ct).mono ?_; rintro e w4' ⟨rfl, hv⟩; rw [unhide HR] at hv; rw [unhide HR]; have E4 : Hid (Env w w4' [aO _ bA os1, rO _ bR os1, stOb _ bK bA (keysO os1) L, rsO _ bW bR L]) := hide hv; obtain ⟨q0, q1, q2⟩ := (unhide HC) w4' hv.bel; clear r0 r1 r2 hv)
              | (go_at_call 80; refine (alink_any (unhide E4) (i := 0) (bA := bA) rfl cu id1 (-1)).mono ?_; rintro e w5 ⟨rfl, hv⟩; have E5 : Hid (Env w w5 [aO _ bA (linkR os1 cu id1 (-1)), rO _ bR os1, stOb _ bK bA (keysO (linkR os1 cu id1 (-1))) L, rsO _ bW bR L]) := hide (hv.stay (j := 2) rfl (keysO_link_more _ _ _ _)); obtain ⟨r0, r1, r2⟩ := (unhide HC) w5 hv.bel; clear q0 q1 q2 hv)
              | (go_at_call 81; refine (arlink_any (unhide E5) (i := 1) (bR := bR) rfl ((unhide E4).sim (i := 0) (bA := bA) rfl) cu id1 (-1)).mono ?_; rintro e w6 ⟨rfl, hv⟩; have E6 : Hid (Env w w6 [aO _ bA (linkR os1 cu id1 (-1)), rO _ bR (linkR os1 cu id1 (-1)), stOb _ bK bA (keysO (linkR os1 cu id1 (-1))) L, rsO _ bW bR L]) := hide hv; obtain ⟨q0, q1, q2⟩ := (unhide HC) w6 hv.bel; clear r0 r1 r2 hv)
              | (go_at_call 19; refine (apush_any (unhide E6) (i := 0) (j := 2) (bA := bA) (bK := bK) rfl rfl (by decide) (unhide HGD2) id1).mono ?_; rintro e w7 ⟨rfl, hv⟩; have E7 : Hid (Env w w7 [aO _ bA (linkR os1 cu id1 (-1)), rO _ bR (linkR os1 cu id1 (-1)), stOb _ bK bA (keysO (linkR os1 cu id1 (-1))) (pushL (keysO (linkR os1 cu id1 (-1))) L id1), rsO _ bW bR L]) := hide hv; clear hv)
              | (go_at_call 39; refine (arpush_any (unhide E7) (i := 1) (j := 3) (bR := bR) (bW := bW) rfl rfl (by decide) (unhide HGD2) id1).mono ?_; rintro e w8 ⟨rfl, hv⟩; have E8 : Hid (Env w w8 [aO _ bA (linkR os1 cu id1 (-1)), rO _ bR (linkR os1 cu id1 (-1)), stOb _ bK bA (keysO (linkR os1 cu id1 (-1))) (pushL (keysO (linkR os1 cu id1 (-1))) L id1), rsO _ bW bR (pushL (keysO (linkR os1 cu id1 (-1))) L id1)]) := hide hv; clear hv))
            go_roundg (gk - 1)
            case measure => have := unhide HG; have := unhide HH3; omega
            case rel => exact ⟨i + 1, by go_num, by have := unhide HG; have := unhide HH3; omega, by have := unhide HI; have := unhide HLEN; omega, by rw [unhide HN]; exact unhide E8⟩
          | false =>
            simp only [Bool.false_eq_true, if_false] at HN
            go_wp2_with (first
              | (go_at_call 27; refine (aelem_any (unhide HV) (i := 0) (bA := bA) rfl 0 ct).mono ?_; rintro e w3 ⟨rfl, hv⟩; rw [unhide HR] at hv; rw [unhide HR]; have E3 : Hid (Env w w3 [aO _ bA os1, rO _ bR os, stOb _ bK bA (keysO os1) L, rsO _ bW bR L]) := hide (hv.stay (j := 2) rfl (unhide HK1)); obtain ⟨r0, r1, r2⟩ := (unhide HC) w3 hv.bel; clear q0 q1 q2 hv)
              | (go_at_call 36; refine (arelem_any (unhide E3) (i := 1) (bR := bR) rfl 0 ct).mono ?_; rintro e w4' ⟨rfl, hv⟩; rw [unhide HR] at hv; rw [unhide HR]; have E4 : Hid (Env w w4' [aO _ bA os1, rO _ bR os1, stOb _ bK bA (keysO os1) L, rsO _ bW bR L]) := hide hv; obtain ⟨q0, q1, q2⟩ := (unhide HC) w4' hv.bel; clear r0 r1 r2 hv)
              | (go_at_call 80; refine (alink_any (unhide E4) (i := 0) (bA := bA) rfl cu id1 (-1)).mono ?_; rintro e w5 ⟨rfl, hv⟩; have E5 : Hid (Env w w5 [aO _ bA (linkR os1 cu id1 (-1)), rO _ bR os1, stOb _ bK bA (keysO (linkR os1 cu id1 (-1))) L, rsO _ bW bR L]) := hide (hv.stay (j := 2) rfl (keysO_link_more _ _ _ _)); obtain ⟨r0, r1, r2⟩ := (unhide HC) w5 hv.bel; clear q0 q1 q2 hv)
              | (go_at_call 81; refine (arlink_any (unhide E5) (i := 1) (bR := bR) rfl ((unhide E4).sim (i := 0) (bA := bA) rfl) cu id1 (-1)).mono ?_; rintro e w6 ⟨rfl, hv⟩; have E6 : Hid (Env w w6 [aO _ bA (linkR os1 cu id1 (-1)), rO _ bR (linkR os1 cu id1 (-1)), stOb _ bK bA (keysO (linkR os1 cu id1 (-1))) L, rsO _ bW bR L]) := hide hv; obtain ⟨q0, q1, q2⟩ := (unhide HC) w6 hv.bel; clear r0 r1 r2 hv)
              | (go_at_call 19; refine (apush_any (unhide E6) (i := 0) (j := 2) (bA := bA) (bK := bK) rfl rfl (by decide) (unhide HGD2) id1).mono ?_; rintro e w7 ⟨rfl, hv⟩; have E7 : Hid (Env w w7 [aO _ bA (linkR os1 cu id1 (-1)), rO _ bR (linkR os1 cu id1 (-1)), stOb _ bK bA (keysO (linkR os1 cu id1 (-1))) (pushL (keysO (linkR os1 cu id1 (-1))) L id1), rsO _ bW bR L]) := hide hv; clear hv)
              | (go_at_call 39; refine (arpush_any (unhide E7) (i := 1) (j := 3) (bR := bR) (bW := bW) rfl rfl (by decide) (unhide HGD2) id1).mono ?_; rintro e w8 ⟨rfl, hv⟩; have E8 : Hid (Env w w8 [aO _ bA (linkR os1 cu id1 (-1)), rO _ bR (linkR os1 cu id1 (-1)), stOb _ bK bA (keysO (linkR os1 cu id1 (-1))) (pushL (keysO (linkR os1 cu id1 (-1))) L id1), rsO _ bW bR (pushL (keysO (linkR os1 cu id1 (-1))) L id1)]) := hide hv; clear hv))
            go_roundg (gk - 1)
            case measure => have := unhide HG; have := unhide HH3; omega
            case rel => exact ⟨i + 1, by go_num, by have := unhide HG; have := unhide HH3; omega, by have := unhide HI; have := unhide HLEN; omega, by rw [unhide HN]; exact unhide E6⟩
        · rw [if_neg he] at HN
          have he2 : (e1 != 0) = true := by simp [he]
          go_wp2_with (first
            | (go_at_call 27; refine (aelem_any (unhide HV) (i := 0) (bA := bA) rfl 0 ct).mono ?_; rintro e w3 ⟨rfl, hv⟩; rw [unhide HR] at hv; rw [unhide HR]; have E3 : Hid (Env w w3 [aO _ bA os1, rO _ bR os, stOb _ bK bA (keysO os1) L, rsO _ bW bR L]) := hide (hv.stay (j := 2) rfl (unhide HK1)); obtain ⟨r0, r1, r2⟩ := (unhide HC) w3 hv.bel; clear q0 q1 q2 hv)
            | (go_at_call 36; refine (arelem_any (unhide E3) (i := 1) (bR := bR) rfl 0 ct).mono ?_; rintro e w4' ⟨rfl, hv⟩; rw [unhide HR] at hv; rw [unhide HR]; have E4 : Hid (Env w w4' [aO _ bA os1, rO _ bR os1, stOb _ bK bA (keysO os1) L, rsO _ bW bR L]) := hide hv; obtain ⟨q0, q1, q2⟩ := (unhide HC) w4' hv.bel; clear r0 r1 r2 hv)
            | (go_at_call 80; refine (alink_any (unhide E4) (i := 0) (bA := bA) rfl cu id1 (-1)).mono ?_; rintro e w5 ⟨rfl, hv⟩; have E5 : Hid (Env w w5 [aO _ bA (linkR os1 cu id1 (-1)), rO _ bR os1, stOb _ bK bA (keysO (linkR os1 cu id1 (-1))) L, rsO _ bW bR L]) := hide (hv.stay (j := 2) rfl (keysO_link_more _ _ _ _)); obtain ⟨r0, r1, r2⟩ := (unhide HC) w5 hv.bel; clear q0 q1 q2 hv)
            | (go_at_call 81; refine (arlink_any (unhide E5) (i := 1) (bR := bR) rfl ((unhide E4).sim (i := 0) (bA := bA) rfl) cu id1 (-1)).mono ?_; rintro e w6 ⟨rfl, hv⟩; have E6 : Hid (Env w w6 [aO _ bA (linkR os1 cu id1 (-1)), rO _ bR (linkR os1 cu id1 (-1)), stOb _ bK bA (keysO (linkR os1 cu id1 (-1))) L, rsO _ bW bR L]) := hide hv; obtain ⟨q0, q1, q2⟩ := (unhide HC) w6 hv.bel; clear r0 r1 r2 hv)
            | (go_at_call 19; refine (apush_any (unhide E6) (i := 0) (j := 2) (bA := bA) (bK := bK) rfl rfl (by decide) (unhide HGD2) id1).mono ?_; rintro e w7 ⟨rfl, hv⟩; have E7 : Hid (Env w w7 [aO _ bA (linkR os1 cu id1 (-1)), rO _ bR (linkR os1 cu id1 (-1)), stOb _ bK bA (keysO (linkR os1 cu id1 (-1))) (pushL (keysO (linkR os1 cu id1 (-1))) L id1), rsO _ bW bR L]) := hide hv; clear hv)
            | (go_at_call 39; refine (arpush_any (unhide E7) (i := 1) (j := 3) (bR := bR) (bW := bW) rfl rfl (by decide) (unhide HGD2) id1).mono ?_; rintro e w8 ⟨rfl, hv⟩; have E8 : Hid (Env w w8 [aO _ bA (linkR os1 cu id1 (-1)), rO _ bR (linkR os1 cu id1 (-1)), stOb _ bK bA (keysO (linkR os1 cu id1 (-1))) (pushL (keysO (linkR os1 cu id1 (-1))) L id1), rsO _ bW bR (pushL (keysO (linkR os1 cu id1 (-1))) L id1)]) := hide hv; clear hv))
          go_roundg (gk - 1)
          case measure => have := unhide HG; have := unhide HH3; omega
          case rel => exact ⟨i + 1, by go_num, by have := unhide HG; have := unhide HH3; omega, by have := unhide HI; have := unhide HLEN; omega, by rw [unhide HN]; exact unhide E4⟩
      · obtain rfl : i = 200 := by omega
        generalize l.length = n at *
        clear hig hil h3 hi
        go_wp2
        exact bodyPost_ret (results_4 (t := 2) (u := 3) (v := 4) (x := 5) Try.results29 _ _ _) rfl ⟨bA, bR, bK, bW, rfl, unhide HV⟩
    · have hiz : ¬ (i : Int) < (l.length : Int) := by omega
      have HF : Hid (worldW (l.take 200) = worldW (l.take i)) := hide (by
        rw [List.take_of_length_le (show l.length ≤ 200 by omega), List.take_of_length_le (show l.length ≤ i by omega)])
      generalize l.length = n at *
      clear hig hil hi
      go_wp2
      exact bodyPost_ret (results_4 (t := 2) (u := 3) (v := 4) (x := 5) Try.results29 _ _ _) rfl ⟨bA, bR, bK, bW, rfl, by rw [unhide HF]; exact unhide HV⟩
end Go.Proofs.Ytmllhebmaldgfaa

namespace Go.Proofs.Ytmllhebmaldgfaa
open Go.RowKit

set_option maxHeartbeats 1000000 in
set_option maxRecDepth 100000 in
theorem pawake_any (w : World) : Calls Try.prog 32 #[] w fun e w' => e = .returned (.bool true) ∧ Below w.heap.size w w' := by
  have H0 := hide (Env.start w)
  have e0 : isOfO (oneM 0) [tmplB] = false := by simp [isOfO, oneM]
  have HS := hide (fun (bA bK : Nat) (W : World) (hW : Env w W [aO _ bA [oneM 0], stOb _ bK bA (keysO [oneM 0]) []]) => spot_plain hW (i := 0) (j := 1) (bA := bA) (bK := bK) rfl rfl (by decide) (Good.nil _) (k := 0) (o := oneM 0) rfl)
  rw [e0] at HS
  unfold spotV at HS
  simp only [Bool.false_eq_true, if_false] at HS
  clear e0
  go_enter Try.func32, Try.ntmps32
  go_wp2_with (first
    | (go_at_call 26; refine (anew_any (unhide H0)).mono ?_; rintro e w1 ⟨bA, rfl, hv⟩; have H1 := hide hv; clear hv)
    | (go_at_call 10; refine (asnew_any (unhide H1) (i := 0) (bA := bA) rfl).mono ?_; rintro e w3 ⟨bK, rfl, hv⟩; have H3 := hide hv; clear hv)
    | (go_at_call 30; refine ((unhide HS) bA bK _ (unhide H3)).mono ?_; rintro e w4 ⟨rfl, hv⟩; have H4 := hide hv; clear hv))
  go_ret
  exact ⟨rfl, (unhide H4).bel.alloc (unhide H4).bel.size _⟩

theorem path_from {f : Nat → Option Int} : ∀ {path : List Nat} {k : Int}, PathOf f k path → ∀ x ∈ path, (x : Int) = k ∨ ∃ y : Nat, f y = some (x : Int)
  | [], _, _, x, hx => by cases hx
  | y :: rest, k, h, x, hx => by
    obtain ⟨h1, k', h2, h3⟩ := h
    rcases List.mem_cons.1 hx with rfl | hx
    · exact .inl h1.symm
    · rcases path_from h3 x hx with e | e
      · exact .inr ⟨y, by rw [h2, e]⟩
      · exact .inr e

def cmt (s : ByteArray) : OneM := dataQ 3 s
theorem comment_new {os : List OneM} (hf : os.length ≤ 1000) (s : ByteArray) (hs : longS s = false) : dataO os 3 s = (os ++ [cmt s], (os.length : Int), 0) := by
  unfold dataO addO
  rw [hs, if_neg (by decide), if_pos (by omega)]
  rfl
theorem link_new {ns : List NodeM} {os : List OneM} {s : ByteArray} (hs : Sim ns (os ++ [cmt s])) {q : Nat} {oq : OneM} (hq : os[q]? = some oq) (hk : oq.kind = 0 ∨ oq.kind = 1 ∨ oq.kind = 5) :
    unlinkR (os ++ [cmt s]) (os.length : Int) = os ++ [cmt s] ∧ linkE (os ++ [cmt s]) (q : Int) (os.length : Int) (-1) = 0 := by
  have hql := (List.getElem?_eq_some_iff.1 hq).1
  have hq' : (os ++ [cmt s])[q]? = some oq := by rw [List.getElem?_append_left hql]; exact hq
  have hc : (os ++ [cmt s])[os.length]? = some (cmt s) := by simp
  have hup : upIO (os ++ [cmt s]) (os.length : Int) = -1 := by rw [upIO_of hc]; rfl
  have hue : unlinkE (os ++ [cmt s]) (os.length : Int) = 5 := by
    unfold unlinkE
    rw [hasO_of hc, hup]
    rfl
  refine ⟨by unfold unlinkR; rw [hue]; rfl, ?_⟩
  have hab : aboveO (os ++ [cmt s]) (q : Int) (os.length : Int) = false := by
    obtain ⟨path, hp⟩ := hs.ends q (by simp; omega)
    rw [aboveO_of hq' (hasO_of hc) hp]
    unfold inPath
    rw [List.any_eq_false]
    intro x hx he
    have hxe : (x : Int) = (os.length : Int) := by simpa using he
    rcases path_from hp x hx with e | ⟨y, hy⟩
    · omega
    · unfold upO at hy
      cases hoy : (os ++ [cmt s])[y]? with
      | none => rw [hoy] at hy; cases hy
      | some o =>
        rw [hoy, Option.map_some] at hy
        have hxn : x = os.length := by omega
        subst hxn
        by_cases hu : o.up = -1
        · rw [if_pos hu] at hy
          have hh : o.host = (os.length : Int) := by simpa using hy
          rcases hs.host y o hoy with e | ⟨_, h0, m, e1, e2, e3, e4⟩
          · omega
          · have : h0 = os.length := by omega
            subst this
            rw [hc] at e3
            cases e3
            have : (cmt s).inner = -1 := rfl
            omega
        · rw [if_neg hu] at hy
          have hh : o.up = (os.length : Int) := by simpa using hy
          rcases hs.up y o hoy with e | ⟨p, m, e1, e2, e3⟩
          · omega
          · have : p = os.length := by omega
            subst this
            rw [hc] at e2
            cases e2
            simp [cmt, dataQ, oneM] at e3
  unfold linkE
  rw [hasO_of hq', hasO_of hc, kindO_of hq', kindO_of hc, hup, hab]
  have hp : parentM oq.kind = true := by
    unfold parentM
    rcases hk with e | e | e <;> rw [e] <;> decide
  rw [hp]
  simp [cmt, dataQ, oneM]
theorem last_new {os : List OneM} {s : ByteArray} {q : Nat} {oq : OneM} (hq : os[q]? = some oq) (hE : linkE (os ++ [cmt s]) (q : Int) (os.length : Int) (-1) = 0) :
    ∃ o', (linkR (os ++ [cmt s]) (q : Int) (os.length : Int) (-1))[q]? = some o' ∧ lastK o'.kids = (os.length : Int) := by
  have hql := (List.getElem?_eq_some_iff.1 hq).1
  have hq' : (os ++ [cmt s])[q]? = some oq := by rw [List.getElem?_append_left hql]; exact hq
  unfold linkR
  rw [if_pos hE, linkO_get]
  simp only [Int.toNat_natCast]
  rw [hq']
  refine ⟨_, rfl, ?_⟩
  simp [insO, lastK]
end Go.Proofs.Ytmllhebmaldgfaa
