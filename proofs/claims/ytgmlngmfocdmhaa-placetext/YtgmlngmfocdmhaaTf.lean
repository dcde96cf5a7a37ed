import Derived.Test.YtgmlngmfocdmhaaTe
import Derived.Deep.LoopGhost
/-
  PlaceText, walked.
-/
namespace Go.Proofs.Ytgmlngmfocdmhaa
open Go.RowKit

/-- The first thousand code points of a row. -/
def cutL (r : RowM) : List Int := r.l.take 1000
def allL (rs : List RowM) : List Int := rs.flatMap cutL
theorem allL_next {rs : List RowM} {i : Nat} {r : RowM} (h : rs[i]? = some r) : allL (rs.take (i + 1)) = allL (rs.take i) ++ cutL r := by
  obtain ⟨hlt, rfl⟩ := List.getElem?_eq_some_iff.1 h
  rw [List.take_succ_eq_append_getElem hlt]
  unfold allL
  simp only [List.flatMap_append, List.flatMap_cons, List.flatMap_nil, List.append_nil]
theorem allL_len (rs : List RowM) : (allL rs).length ≤ 1000 * rs.length := by
  induction rs with
  | nil => simp [allL]
  | cons r rs ih =>
    have e : allL (r :: rs) = cutL r ++ allL rs := rfl
    have h : (cutL r).length ≤ 1000 := by unfold cutL; rw [List.length_take]; omega
    rw [e, List.length_append, List.length_cons]
    omega

def tObs (base bA K : Nat) (p : PartR) : List (Ob base) := [aO base bA (St p.xs), blkOb base K #[.int .i64 1, .int .i64 (-1)] 29, rpOb base p]

set_option maxHeartbeats 4000000 in
set_option maxRecDepth 100000 in
theorem text_walk (rs : List RowM) (a : Option Addr) (cap : Nat) (w : World) (hin : RowsIn w a rs) (hl : rs.length ≤ maxLen) :
    Calls Try.prog 3 #[.slice a rs.length cap] w fun e w' => e = .returned (.bool true) ∧ Below w.heap.size w w' := by
  have HIN := hide hin
  have hlz : (rs.length : Int) ≤ 9223372036854775807 := by unfold maxLen at hl; omega
  have H0 := hide (Env.start w)
  have HE1 := hide s0_elem
  clear hin hl
  go_enter Try.func3, Try.ntmps3
  go_wp2_with (first
    | (go_at_call 4; refine (anew_any (unhide H0)).mono ?_; rintro e w1 ⟨bA, rfl, hv⟩; have H1 := hide hv; clear hv)
    | (go_at_call 5; refine (aelem_any (unhide H1) (i := 0) (bA := bA) rfl 0 pTag).mono ?_; rintro e w2 ⟨rfl, hv⟩; rw [unhide HE1] at hv; rw [unhide HE1]; have H2 : Hid (Env w (w2.alloc (.cells #[.int .i64 1, .int .i64 (-1)] 29)) (tObs _ bA w2.heap.size ⟨none, 0, []⟩)) := hide (Env.rp0 (hv.boxed #[.int .i64 1, .int .i64 (-1)] 29)); clear hv))
  go_loopg [7, 8, 9] 100 (fun g s7 s8 _ wr => ∃ (i : Nat) (p : PartR), s7 = p.val ∧ s8 = .int .i64 i ∧ i + g = 100 ∧ i ≤ rs.length ∧ p.xs = allL (rs.take i) ∧ Env w wr (tObs _ bA w2.heap.size p))
  case atStart => exact ⟨0, ⟨none, 0, []⟩, rfl, rfl, by omega, Nat.zero_le _, by simp [allL], unhide H2⟩
  case round =>
    obtain ⟨i, p, rfl, rfl, hig, hil, hxs, hv⟩ := hrel
    have HV := hide hv
    have HG := hide hig
    have HX := hide hxs
    obtain ⟨k0, k1, f0, f1⟩ := Box2.cells (hv.block (i := 1) rfl)
    have hlen : p.xs.length ≤ 100000 := by
      rw [hxs]
      have h1 := allL_len (rs.take i)
      rw [List.length_take] at h1
      omega
    have HLN := hide hlen
    clear hv hlen hxs
    by_cases hi : i < rs.length
    · have hiz : (i : Int) < (rs.length : Int) := by omega
      by_cases h3 : i < 100
      · have h3z : (i : Int) < 100 := by omega
        obtain ⟨r, hr⟩ : ∃ r, rs[i]? = some r := ⟨_, List.getElem?_eq_getElem hi⟩
        obtain ⟨⟨b, off, ea, _⟩, _, hrl, hrc⟩ := (unhide HIN) i r hr
        obtain ⟨⟨b', off', ea', hcell⟩, _, _⟩ := ((unhide HIN).below (unhide HV).bel) i r hr
        subst ea
        cases ea'
        have HN := hide (allL_next hr)
        have HRIN := hide ((((unhide HIN) i _ hr).2.1).take 1000)
        obtain ⟨ra, rc, rl⟩ := r
        unfold cutL at HN
        simp only at HN HRIN hcell hrl hrc
        have hcl : (rl.take 1000).length ≤ 1000 := by rw [List.length_take]; omega
        have HI := hide hi
        have HH3 := hide h3
        have HRC := hide hrc
        have hrlz : (rl.length : Int) ≤ 35184372087808 := by omega
        generalize hrn : rs.length = n at *
        have HRN := hide hrn
        by_cases hbig : 1000 < rl.length
        · have hbz : ((1000 : Int) < (rl.length : Int)) := by omega
          have hcz : ((1000 : Int) ≤ (rc : Int)) := by omega
          have hc1000 : (rl.take 1000).length = 1000 := by rw [List.length_take]; omega
          generalize rl.take 1000 = cl at *
          have hch := fun W (hW : Env w W (tObs _ bA w2.heap.size p)) (hr : RunesIn W ra cl) => chars_any hW (i := 0) (bA := bA) rfl hr hcl (by have := unhide HLN; omega) rc
          rw [hc1000] at hch
          have HCH := hide hch
          have HC1 := hide hc1000
          have HCL := hide hcl
          clear hr hrl hrc hig hil hi h3 hcl hrn hbig hc1000 hch
          go_wp2_with (first
            | (go_at_call 6; refine ((unhide HCH) _ (unhide HV) ((unhide HRIN).below (unhide HV).bel)).mono ?_; rintro e w3 ⟨rfl, hv⟩; have H3 : Hid (Env w w3 [aO _ bA (St (p.xs ++ cl)), blkOb _ w2.heap.size #[.int .i64 1, .int .i64 (-1)] 29, rpOb _ p]) := hide hv; clear hv)
            | (at_builtin; go_must (refine wpList_partR_append (base := w.heap.size) (p := p) (by rfl) _ _ (by rfl) (by rfl) ra cl rc (by rw [unhide HC1]; rfl) (by exact ((unhide H3).rp (i := 2) rfl).1) (by exact (unhide H3).bel.size) (by exact ((unhide HRIN).below (unhide H3).bel).runs) (by have := unhide HLN; have := unhide HCL; omega) ?_); intro p2 w4 g1 g2 g3 g4 _; have H4 : Hid (Env w w4 (tObs _ bA w2.heap.size p2)) := hide (by have h4 := ((unhide H3).rp (i := 2) rfl).2 w4 p2 g1 g3 g4; unfold tObs; rw [g2]; exact h4); have HP2 := hide g2; clear g1 g2 g3 g4))
          go_roundg (gk - 1)
          case measure => have := unhide HG; have := unhide HH3; omega
          case rel => exact ⟨i + 1, p2, rfl, by go_num, by have := unhide HG; have := unhide HH3; omega, by have := unhide HI; have := unhide HRN; omega, by rw [unhide HP2, unhide HN, unhide HX], unhide H4⟩
        · have hbz : ¬ ((1000 : Int) < (rl.length : Int)) := by omega
          have hc1000 : (rl.take 1000).length = rl.length := by rw [List.length_take]; omega
          generalize rl.take 1000 = cl at *
          have hch := fun W (hW : Env w W (tObs _ bA w2.heap.size p)) (hr : RunesIn W ra cl) => chars_any hW (i := 0) (bA := bA) rfl hr hcl (by have := unhide HLN; omega) rc
          rw [hc1000] at hch
          have HCH := hide hch
          have HC1 := hide hc1000
          have HCL := hide hcl
          clear hr hrl hrc hig hil hi h3 hcl hrn hbig hc1000 hch
          go_wp2_with (first
            | (go_at_call 6; refine ((unhide HCH) _ (unhide HV) ((unhide HRIN).below (unhide HV).bel)).mono ?_; rintro e w3 ⟨rfl, hv⟩; have H3 : Hid (Env w w3 [aO _ bA (St (p.xs ++ cl)), blkOb _ w2.heap.size #[.int .i64 1, .int .i64 (-1)] 29, rpOb _ p]) := hide hv; clear hv)
            | (at_builtin; go_must (refine wpList_partR_append (base := w.heap.size) (p := p) (by rfl) _ _ (by rfl) (by rfl) ra cl rc (by rw [unhide HC1]; rfl) (by exact ((unhide H3).rp (i := 2) rfl).1) (by exact (unhide H3).bel.size) (by exact ((unhide HRIN).below (unhide H3).bel).runs) (by have := unhide HLN; have := unhide HCL; omega) ?_); intro p2 w4 g1 g2 g3 g4 _; have H4 : Hid (Env w w4 (tObs _ bA w2.heap.size p2)) := hide (by have h4 := ((unhide H3).rp (i := 2) rfl).2 w4 p2 g1 g3 g4; unfold tObs; rw [g2]; exact h4); have HP2 := hide g2; clear g1 g2 g3 g4))
          go_roundg (gk - 1)
          case measure => have := unhide HG; have := unhide HH3; omega
          case rel => exact ⟨i + 1, p2, rfl, by go_num, by have := unhide HG; have := unhide HH3; omega, by have := unhide HI; have := unhide HRN; omega, by rw [unhide HP2, unhide HN, unhide HX], unhide H4⟩
      · obtain rfl : i = 100 := by omega
        generalize hrn : rs.length = n at *
        clear hig hil h3 hi hrn
        by_cases hx0 : p.xs = []
        · have hval : p.val = .slice p.a 0 p.cap := by unfold PartR.val; rw [hx0]; rfl
          have HV0 : Hid (Env w wr [aO _ bA S0, blkOb _ w2.heap.size #[.int .i64 1, .int .i64 (-1)] 29, rpOb _ p]) := hide (by have h1 := unhide HV; unfold tObs at h1; rw [show St p.xs = S0 from if_pos hx0] at h1; exact h1)
          rw [hval]
          clear hx0 hval
          go_wp2_with (first
            | (go_at_call 7; refine (akids_any (unhide HV0) (i := 0) (bA := bA) rfl 1).mono ?_; rintro e w3 ⟨ka, kc, rfl, hb⟩; rw [show (kidsO S0 1).length = 0 from rfl]; have H3 := hide ((unhide HV0).more hb); clear hb)
            | (go_at_call 8; refine (alen_any (unhide H3) (i := 0) (bA := bA) rfl).mono ?_; rintro e w4 ⟨rfl, rfl⟩; rw [show ((S0.length : Nat) : Int) = 2 from rfl]))
          go_ret
          exact ⟨rfl, (unhide H3).bel⟩
        · have hpos := List.length_pos_iff.2 hx0
          have hval : p.val = .slice p.a p.xs.length p.cap := rfl
          have HV0 : Hid (Env w wr [aO _ bA (S1 (strE p.xs)), blkOb _ w2.heap.size #[.int .i64 1, .int .i64 (-1)] 29, rpOb _ p]) := hide (by have h1 := unhide HV; unfold tObs at h1; rw [show St p.xs = S1 (strE p.xs) from if_neg hx0] at h1; exact h1)
          have hcv0 := fun W (hW : Env w W [aO _ bA (S1 (strE p.xs)), blkOb _ w2.heap.size #[.int .i64 1, .int .i64 (-1)] 29, rpOb _ p]) => runes_str (hW.rp (i := 2) rfl).1 hx0
          rw [hval] at hcv0
          have HCV := hide hcv0
          have hne : ((p.xs.length : Int) == 0) = false := by simp; omega
          have hne2 : ¬ ((p.xs.length : Int) = 0) := by omega
          rw [hval]
          clear hx0 hval hpos hcv0
          go_wp2_with (first
            | (go_at_call 7; refine (akids_any (unhide HV0) (i := 0) (bA := bA) rfl 1).mono ?_; rintro e w3 ⟨ka, kc, rfl, hb⟩; rw [show (kidsO (S1 (strE p.xs)) 1).length = 1 from rfl]; have H3 := hide ((unhide HV0).more hb); clear hb)
            | (go_at_call 9; refine (anode_in (unhide H3) (i := 0) (bA := bA) rfl (k := 2) (o := { dataQ 2 (strE p.xs) with up := 1 }) rfl).mono ?_; rintro e w5 ⟨n, ao, m, c, rfl, hn, hb⟩; have H5 := hide ((unhide H3).more hb); obtain ⟨nk, nsp, nm, av, da, sy, pa, fi, la, pr, ne, inn, att⟩ := n; have ek : nk = 2 := hn.same.kind; subst ek; have ed : da = strE p.xs := hn.same.data; subst ed; clear hb hn; have H6 := hide ((unhide H5).more (below_new w5 (.cells #[.int .i64 2, .int .i64 nsp, .string nm, .slice ao m c, .string (strE p.xs), .string sy, .int .i64 pa, .int .i64 fi, .int .i64 la, .int .i64 pr, .int .i64 ne, .int .i64 inn] 37))); have hcv := (unhide HCV) _ (unhide H6); simp only [nodeV, NodeM.cells])
            | (go_at_call 8; refine (alen_any (unhide H6) (i := 0) (bA := bA) rfl).mono ?_; rintro e w4 ⟨rfl, rfl⟩; rw [show (((S1 (strE p.xs)).length : Nat) : Int) = 3 from rfl]))
          go_ret
          exact ⟨rfl, (unhide H6).bel⟩
    · have hiz : ¬ (i : Int) < (rs.length : Int) := by omega
      generalize hrn : rs.length = n at *
      clear hig hil hi hrn
      by_cases hx0 : p.xs = []
      · have hval : p.val = .slice p.a 0 p.cap := by unfold PartR.val; rw [hx0]; rfl
        have HV0 : Hid (Env w wr [aO _ bA S0, blkOb _ w2.heap.size #[.int .i64 1, .int .i64 (-1)] 29, rpOb _ p]) := hide (by have h1 := unhide HV; unfold tObs at h1; rw [show St p.xs = S0 from if_pos hx0] at h1; exact h1)
        rw [hval]
        clear hx0 hval
        go_wp2_with (first
          | (go_at_call 7; refine (akids_any (unhide HV0) (i := 0) (bA := bA) rfl 1).mono ?_; rintro e w3 ⟨ka, kc, rfl, hb⟩; rw [show (kidsO S0 1).length = 0 from rfl]; have H3 := hide ((unhide HV0).more hb); clear hb)
          | (go_at_call 8; refine (alen_any (unhide H3) (i := 0) (bA := bA) rfl).mono ?_; rintro e w4 ⟨rfl, rfl⟩; rw [show ((S0.length : Nat) : Int) = 2 from rfl]))
        go_ret
        exact ⟨rfl, (unhide H3).bel⟩
      · have hpos := List.length_pos_iff.2 hx0
        have hval : p.val = .slice p.a p.xs.length p.cap := rfl
        have HV0 : Hid (Env w wr [aO _ bA (S1 (strE p.xs)), blkOb _ w2.heap.size #[.int .i64 1, .int .i64 (-1)] 29, rpOb _ p]) := hide (by have h1 := unhide HV; unfold tObs at h1; rw [show St p.xs = S1 (strE p.xs) from if_neg hx0] at h1; exact h1)
        have hcv0 := fun W (hW : Env w W [aO _ bA (S1 (strE p.xs)), blkOb _ w2.heap.size #[.int .i64 1, .int .i64 (-1)] 29, rpOb _ p]) => runes_str (hW.rp (i := 2) rfl).1 hx0
        rw [hval] at hcv0
        have HCV := hide hcv0
        have hne : ((p.xs.length : Int) == 0) = false := by simp; omega
        have hne2 : ¬ ((p.xs.length : Int) = 0) := by omega
        rw [hval]
        clear hx0 hval hpos hcv0
        go_wp2_with (first
          | (go_at_call 7; refine (akids_any (unhide HV0) (i := 0) (bA := bA) rfl 1).mono ?_; rintro e w3 ⟨ka, kc, rfl, hb⟩; rw [show (kidsO (S1 (strE p.xs)) 1).length = 1 from rfl]; have H3 := hide ((unhide HV0).more hb); clear hb)
          | (go_at_call 9; refine (anode_in (unhide H3) (i := 0) (bA := bA) rfl (k := 2) (o := { dataQ 2 (strE p.xs) with up := 1 }) rfl).mono ?_; rintro e w5 ⟨n, ao, m, c, rfl, hn, hb⟩; have H5 := hide ((unhide H3).more hb); obtain ⟨nk, nsp, nm, av, da, sy, pa, fi, la, pr, ne, inn, att⟩ := n; have ek : nk = 2 := hn.same.kind; subst ek; have ed : da = strE p.xs := hn.same.data; subst ed; clear hb hn; have H6 := hide ((unhide H5).more (below_new w5 (.cells #[.int .i64 2, .int .i64 nsp, .string nm, .slice ao m c, .string (strE p.xs), .string sy, .int .i64 pa, .int .i64 fi, .int .i64 la, .int .i64 pr, .int .i64 ne, .int .i64 inn] 37))); have hcv := (unhide HCV) _ (unhide H6); simp only [nodeV, NodeM.cells])
          | (go_at_call 8; refine (alen_any (unhide H6) (i := 0) (bA := bA) rfl).mono ?_; rintro e w4 ⟨rfl, rfl⟩; rw [show (((S1 (strE p.xs)).length : Nat) : Int) = 3 from rfl]))
        go_ret
        exact ⟨rfl, (unhide H6).bel⟩
end Go.Proofs.Ytgmlngmfocdmhaa
