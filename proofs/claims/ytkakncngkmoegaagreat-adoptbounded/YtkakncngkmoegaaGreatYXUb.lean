/-
  The law's world after any acts.
-/
import Derived.Test.YtkakncngkmoegaaGreatYXUa
namespace Go.Proofs.YtkakncngkmoegaaGreat
open Go.RowKit Go.Sort

def bObs (w : World) (KX KY bA bK bL bR bW bQ : Nat) (oa ob : List OneM) (L LR : List Int) (es : List EntM) (qs : List EntQ) : List (Ob w.heap.size) := [blkOb _ w.heap.size #[.pointer none, .pointer none, .pointer none] 28, blkOb _ (w.heap.size + 1) #[.pointer none, .pointer none, .pointer none] 33, aO _ bA oa, blkOb _ KX #[.pointer (some ⟨bA, 0, none⟩), .pointer (some ⟨bK, 0, none⟩), .pointer (some ⟨bL, 0, none⟩)] 28, stOb _ bK bA (keysO oa) L, liOb _ bL bA es, rO _ bR ob, rsO _ bW bR LR, qOb w bQ bR qs, blkOb _ KY #[.pointer (some ⟨bR, 0, none⟩), .pointer (some ⟨bW, 0, none⟩), .pointer (some ⟨bQ, 0, none⟩)] 33]
section
variable {w W : World} {KX KY bA bK bL bR bW bQ : Nat} {oa ob : List OneM} {L LR : List Int} {es : List EntM} {qs : List EntQ}
theorem bCells (h : Env w W (bObs w KX KY bA bK bL bR bW bQ oa ob L LR es qs)) : W.cell? ⟨KX, 0, none⟩ = some (.pointer (some ⟨bA, 0, none⟩)) ∧ W.cell? ⟨KX, 1, none⟩ = some (.pointer (some ⟨bK, 0, none⟩)) ∧ W.cell? ⟨KX, 2, none⟩ = some (.pointer (some ⟨bL, 0, none⟩)) ∧ W.cell? ⟨KY, 0, none⟩ = some (.pointer (some ⟨bR, 0, none⟩)) ∧ W.cell? ⟨KY, 1, none⟩ = some (.pointer (some ⟨bW, 0, none⟩)) ∧ W.cell? ⟨KY, 2, none⟩ = some (.pointer (some ⟨bQ, 0, none⟩)) := by
  have hx := h.block (i := 3) rfl
  have hy := h.block (i := 9) rfl
  exact ⟨cell_of_row _ _ 0 _ _ _ hx, cell_of_row _ _ 1 _ _ _ hx, cell_of_row _ _ 2 _ _ _ hx, cell_of_row _ _ 0 _ _ _ hy, cell_of_row _ _ 1 _ _ _ hy, cell_of_row _ _ 2 _ _ _ hy⟩
end
set_option maxHeartbeats 4000000 in
set_option maxRecDepth 100000 in
theorem build_any (w : World) (a : Option Addr) (l : List ActB) (cap : Nat) (hin : ActsB w a l) (hl : l.length ≤ 140737488351232) : Calls Tryz.prog 7 #[.slice a l.length cap] w fun e w' => ∃ bA bK bL bR bW bQ, e = .returned (.tuple #[ptr3 bA bK bL, ptr3 bR bW bQ]) ∧ Env w w' [aO _ bA (worldB (l.take 100)).os, stOb _ bK bA (keysO (worldB (l.take 100)).os) (worldB (l.take 100)).L, liOb _ bL bA (worldB (l.take 100)).es, rO _ bR (worldB (l.take 100)).os, rsO _ bW bR (worldB (l.take 100)).L, qOb w bQ bR (worldB (l.take 100)).qs] := by
  have HIN := hide hin
  have hlz : (l.length : Int) ≤ 140737488351232 := by omega
  have HBI := hide (BI.all l)
  clear hin hl
  have HE0 := hide (((Env.start w).boxed #[.pointer none, .pointer none, .pointer none] 28).boxed #[.pointer none, .pointer none, .pointer none] 33)
  have HA := hide (fun W obs (hW : Env w W obs) => anew_any hW)
  go_enter Tryz.func7, Tryz.ntmps7
  go_wp2_with (first
    | (go_at_call 22; refine ((unhide HA) _ _ (unhide HE0)).mono ?_; rintro e w1 ⟨bA, rfl, he1⟩; have HE1 := hide (he1.boxed #[.pointer (some ⟨bA, 0, none⟩), .pointer none, .pointer none] 28); clear he1)
    | (go_at_call 23; refine (asnew_any (bA := bA) (i := 2) (unhide HE1) rfl).mono ?_; rintro e w2 ⟨bK, rfl, he2⟩; have hb2 := he2.block (i := 3) rfl; have HE2 := hide (he2.setBlk (i := 3) rfl 1 (.pointer (some ⟨bK, 0, none⟩))); have k20 := cell_of_row _ _ 0 _ _ _ hb2; have k21 := cell_of_row _ _ 1 _ _ _ hb2; have k22 := cell_of_row _ _ 2 _ _ _ hb2; have f21 := free_row hb2 1; clear he2 hb2)
    | (go_at_call 24; refine (alnew_any (bA := bA) (i := 2) (unhide HE2) rfl).mono ?_; rintro e w3 ⟨bL, rfl, he3⟩; have hb3 := he3.block (i := 3) rfl; have HE3 := hide (he3.setBlk (i := 3) rfl 2 (.pointer (some ⟨bL, 0, none⟩))); have k30 := cell_of_row _ _ 0 _ _ _ hb3; have k31 := cell_of_row _ _ 1 _ _ _ hb3; have k32 := cell_of_row _ _ 2 _ _ _ hb3; have f32 := free_row hb3 2; clear he3 hb3)
    | (go_at_call 25; refine (arnew_any (unhide HE3)).mono ?_; rintro e w4 ⟨bR, rfl, he4⟩; have HE4 := hide he4; clear he4)
    | (go_at_call 26; refine (arsnew_any (bR := bR) (unhide HE4)).mono ?_; rintro e w5 ⟨bW, rfl, he5⟩; have HE5 := hide he5; clear he5)
    | (go_at_call 27; refine (aqnew_any (bR := bR) (unhide HE5)).mono ?_; rintro e w6 ⟨bQ, rfl, he6⟩; have HE6 := hide he6; clear he6))
  have he7 := (unhide HE6).boxed #[.pointer (some ⟨bR, 0, none⟩), .pointer (some ⟨bW, 0, none⟩), .pointer (some ⟨bQ, 0, none⟩)] 33
  rw [show (w.alloc (.cells #[.pointer none, .pointer none, .pointer none] 28)).heap.size = w.heap.size + 1 by simp] at he7
  obtain ⟨KX, hKX⟩ : ∃ KX, w1.heap.size = KX := ⟨_, rfl⟩
  obtain ⟨KY, hKY⟩ : ∃ KY, w6.heap.size = KY := ⟨_, rfl⟩
  generalize w6.alloc (.cells #[.pointer (some ⟨bR, 0, none⟩), .pointer (some ⟨bW, 0, none⟩), .pointer (some ⟨bQ, 0, none⟩)] 33) = W7 at *
  have HB7 : Hid (Env w W7 (bObs w KX KY bA bK bL bR bW bQ [oneM 0] [oneM 0] [] [] [] [])) := hide (by rw [hKX, hKY] at he7; exact he7)
  clear he7 HE0 HE1 HE2 HE3 HE4 HE5 HE6 HA k20 k21 k22 f21 k30 k31 k32 f32
  rw [hKX, hKY]
  go_loopg [7] 100 (fun g s7 wr => ∃ i : Nat, s7 = .int .i64 (i : Int) ∧ i + g = 100 ∧ i ≤ l.length ∧ Env w wr (bObs w KX KY bA bK bL bR bW bQ (worldB (l.take i)).os (worldB (l.take i)).os (worldB (l.take i)).L (worldB (l.take i)).L (worldB (l.take i)).es (worldB (l.take i)).qs))
  case atStart => exact ⟨0, rfl, by omega, Nat.zero_le _, unhide HB7⟩
  case round =>
    obtain ⟨i, rfl, hig, hil, hv⟩ := hrel
    have HV := hide hv
    have HG := hide hig
    clear hv HB7
    by_cases hi : i < l.length
    · have hiz : (i : Int) < (l.length : Int) := by omega
      by_cases h3 : i < 100
      · have h3z : (i : Int) < 100 := by omega
        have hiw : IntKind.i64.wrap ((i : Int) + 1) = (i : Int) + 1 := by rw [IntKind.wrap_i64]; omega
        obtain ⟨c, hc⟩ : ∃ c, l[i]? = some c := ⟨_, List.getElem?_eq_getElem hi⟩
        have HBN := hide (((unhide HBI) i (by omega) hil).between c)
        obtain ⟨b, off, rfl, _, _⟩ := (unhide HIN).cells i c hc
        have HC : Hid (∀ wx, Below w.heap.size w wx → wx.cell? ⟨b, off + i * 5, none⟩ = some (.string c.text) ∧ wx.cell? ⟨b, off + i * 5 + 1, none⟩ = some (.int .i64 c.up) ∧ wx.cell? ⟨b, off + i * 5 + 2, none⟩ = some (.bool c.opn) ∧ wx.cell? ⟨b, off + i * 5 + 3, none⟩ = some (.bool c.actv) ∧ wx.cell? ⟨b, off + i * 5 + 4, none⟩ = some (.bool c.mrk)) := hide (fun wx hb => by
          obtain ⟨b', off', e, c0, c1, c2, c3, c4⟩ := ((unhide HIN).below hb).cells i c hc
          cases e
          exact ⟨c0, c1, c2, c3, c4⟩)
        have HN := hide (worldB_next hc)
        generalize worldB (l.take i) = s at *
        generalize hlen : l.length = n at *
        have HLEN := hide hlen
        obtain ⟨ct, cu, co, ca, cm⟩ := c
        obtain ⟨os, L, es, qs⟩ := s
        have hb2 := unhide HBN
        have HGD : Hid (Good (keysO (linkR (elemO os 0 ct []).1 cu (elemO os 0 ct []).2.1 (-1))) L) := hide hb2.good
        have HQK : Hid (QOk (keysO (linkR (elemO os 0 ct []).1 cu (elemO os 0 ct []).2.1 (-1))) (q1B ⟨os, L, es, qs⟩ ⟨ct, cu, co, ca, cm⟩)) := hide hb2.qok
        have HEL1 : Hid ((e1B ⟨os, L, es, qs⟩ ⟨ct, cu, co, ca, cm⟩).length < 1000000 ∧ (q1B ⟨os, L, es, qs⟩ ⟨ct, cu, co, ca, cm⟩).length < 100000) := hide ⟨by have := hb2.el; omega, by have := hb2.ql; omega⟩
        have HEL0 : Hid (es.length < 1000000 ∧ qs.length < 100000) := hide (by
          have h5 := hb2.el
          have h6 := hb2.ql
          unfold e1B at h5
          unfold q1B at h6
          simp only at h5 h6
          refine ⟨?_, ?_⟩
          · split at h5
            · simp at h5; omega
            · omega
          · split at h6
            · simp at h6; omega
            · omega)
        clear hb2 HBN HBI
        simp only at HC HN
        unfold stepB lnkB at HN
        unfold e1B at HN HEL1
        unfold q1B at HN HEL1 HQK
        simp only at HN HEL1 HQK
        obtain ⟨q0, q1, q2, q3, q4⟩ := (unhide HC) wr (unhide HV).bel
        have HV1 : Hid (Env w wr (bObs w KX KY bA bK bL bR bW bQ os os L L es qs)) := HV
        obtain ⟨x0, x1, x2, y0, y1, y2⟩ := bCells (unhide HV1)
        have HI := hide hi
        have HIL := hide hil
        have HH3 := hide h3
        clear HV hig hil hi h3 hc hlen
        generalize hr : elemO os 0 ct [] = r at *
        have HR := hide hr
        clear hr
        obtain ⟨os1, id1, e1⟩ := r
        simp only at HN HGD HQK
        generalize hlk : linkR os1 cu id1 (-1) = lk at *
        have HLK := hide hlk
        clear hlk
        go_wp2
        rename_i K1 hK1
        have HL1 : Hid (∀ (W : World) (u10 u34 u35 u36 u37 u38 u39 u40 u41 u42 u43 u44 u45 u46 u47 u48 u49 u50 u51 u52 u53 u54 u55 u56 u57 u58 u59 u60 u61 u62 u63 u64 u65 u66 u67 u68 u69 u70 u71 u72 u73 u74 u75 u76 u77 u78 u79 u80 u81 u82 u83 u84 u85 u86 u87 u88 u89 u90 u91 u92 u93 u94 u95 u96 u97 u98 u99 u100 u101 u102 u103 u104 u105 u106 u107 u108 u109 u110 u111 u112 u113 u114 u115 u116 u117 u118 u119 u120 u121 u122 u123 u124 u125 u126 u127 u128 u129 u130 : Value), Env w W (bObs w KX KY bA bK bL bR bW bQ os1 os L L es qs) → K1 { tmps := List.toArray ((.slice (some ⟨b, off, none⟩) n cap) :: undef :: (.pointer (some ⟨w.heap.size, 0, none⟩)) :: (.pointer (some ⟨w.heap.size + 1, 0, none⟩)) :: (.pointer (some ⟨KX, 0, none⟩)) :: (.pointer (some ⟨bR, 0, none⟩)) :: (.pointer (some ⟨KY, 0, none⟩)) :: (.int .i64 (i : Int)) :: (.int .i64 id1) :: (.int .i64 e1) :: u10 :: (.pointer (some ⟨bA, 0, none⟩)) :: (.agg #[.pointer (some ⟨bA, 0, none⟩), .pointer none, .pointer none]) :: (.tuple #[.pointer (some ⟨bK, 0, none⟩), .int .i64 0]) :: (.pointer (some ⟨KX, 0, none⟩)) :: (.pointer (some ⟨bA, 0, none⟩)) :: (.tuple #[.pointer (some ⟨bK, 0, none⟩), .int .i64 0]) :: (.pointer (some ⟨bK, 0, none⟩)) :: (.int .i64 0) :: (.pointer (some ⟨KX, 1, none⟩)) :: (.tuple #[.pointer (some ⟨bL, 0, none⟩), .int .i64 0]) :: (.pointer (some ⟨KX, 0, none⟩)) :: (.pointer (some ⟨bA, 0, none⟩)) :: (.tuple #[.pointer (some ⟨bL, 0, none⟩), .int .i64 0]) :: (.pointer (some ⟨bL, 0, none⟩)) :: (.int .i64 0) :: (.pointer (some ⟨KX, 2, none⟩)) :: (.pointer (some ⟨bR, 0, none⟩)) :: (.pointer (some ⟨bR, 0, none⟩)) :: (.pointer (some ⟨bR, 0, none⟩)) :: (.pointer (some ⟨bW, 0, none⟩)) :: (.pointer (some ⟨bR, 0, none⟩)) :: (.pointer (some ⟨bQ, 0, none⟩)) :: (.agg #[.pointer (some ⟨bR, 0, none⟩), .pointer (some ⟨bW, 0, none⟩), .pointer (some ⟨bQ, 0, none⟩)]) :: u34 :: u35 :: u36 :: u37 :: u38 :: u39 :: u40 :: u41 :: u42 :: u43 :: u44 :: u45 :: u46 :: u47 :: u48 :: u49 :: u50 :: u51 :: u52 :: u53 :: u54 :: u55 :: u56 :: u57 :: u58 :: u59 :: u60 :: u61 :: u62 :: u63 :: u64 :: u65 :: u66 :: u67 :: u68 :: u69 :: u70 :: u71 :: u72 :: u73 :: u74 :: u75 :: u76 :: u77 :: u78 :: u79 :: u80 :: u81 :: u82 :: u83 :: u84 :: u85 :: u86 :: u87 :: u88 :: u89 :: u90 :: u91 :: u92 :: u93 :: u94 :: u95 :: u96 :: u97 :: u98 :: u99 :: u100 :: u101 :: u102 :: u103 :: u104 :: u105 :: u106 :: u107 :: u108 :: u109 :: u110 :: u111 :: u112 :: u113 :: u114 :: u115 :: u116 :: u117 :: u118 :: u119 :: u120 :: u121 :: u122 :: u123 :: u124 :: u125 :: u126 :: u127 :: u128 :: u129 :: u130 :: undef :: undef :: []), defers := [] } W) := hide (by
          intro W u10 u34 u35 u36 u37 u38 u39 u40 u41 u42 u43 u44 u45 u46 u47 u48 u49 u50 u51 u52 u53 u54 u55 u56 u57 u58 u59 u60 u61 u62 u63 u64 u65 u66 u67 u68 u69 u70 u71 u72 u73 u74 u75 u76 u77 u78 u79 u80 u81 u82 u83 u84 u85 u86 u87 u88 u89 u90 u91 u92 u93 u94 u95 u96 u97 u98 u99 u100 u101 u102 u103 u104 u105 u106 u107 u108 u109 u110 u111 u112 u113 u114 u115 u116 u117 u118 u119 u120 u121 u122 u123 u124 u125 u126 u127 u128 u129 u130 hv
          have E3 := hide hv
          clear q0 q1 q2 q3 q4 x0 x1 x2 y0 y1 y2; obtain ⟨q0, q1, q2, q3, q4⟩ := (unhide HC) _ hv.bel; obtain ⟨x0, x1, x2, y0, y1, y2⟩ := bCells hv;  clear hv
          apply hK1
          clear hK1
          by_cases he : e1 = 0
          · subst he
            rw [if_pos rfl] at HN
            go_wp2_with (first
              | (go_at_call 28; refine (arelem_any (by first | exact unhide E3 | exact (unhide E3).more (Below.refl _ _).drew) (i := 6) (bR := bR) rfl 0 ct).mono ?_; rintro e vE4 ⟨rfl, hv0⟩; rw [unhide HR] at hv0; rw [unhide HR]; have hv : Env w vE4 (bObs w KX KY bA bK bL bR bW bQ os1 os1 L L es qs) := hv0; have E4 := hide hv; clear q0 q1 q2 q3 q4 x0 x1 x2 y0 y1 y2; obtain ⟨q0, q1, q2, q3, q4⟩ := (unhide HC) _ hv.bel; obtain ⟨x0, x1, x2, y0, y1, y2⟩ := bCells hv; clear hv hv0))
            rename_i K2 hK2
            have HSIM := hide ((unhide E4).sim (i := 2) (bA := bA) rfl)
            have HL2 : Hid (∀ (W : World) (u10 u34 u35 u36 u37 u38 u39 u40 u41 u42 u43 u44 u45 u46 u47 u48 u49 u50 u51 u52 u53 u54 u55 u56 u57 u58 u59 u60 u61 u62 u63 u64 u65 u66 u67 u68 u69 u70 u71 u72 u73 u74 u75 u76 u77 u78 u79 u80 u81 u82 u83 u84 u85 u86 u87 u88 u89 u90 u91 u92 u93 u94 u95 u96 u97 u98 u99 u100 u101 u102 u103 u104 u105 u106 u107 u108 u109 u110 u111 u112 u113 u114 u115 u116 u117 u118 u119 u120 u121 u122 u123 u124 u125 u126 u127 u128 u129 u130 : Value), Env w W (bObs w KX KY bA bK bL bR bW bQ lk os1 L L es qs) → K2 { tmps := List.toArray ((.slice (some ⟨b, off, none⟩) n cap) :: undef :: (.pointer (some ⟨w.heap.size, 0, none⟩)) :: (.pointer (some ⟨w.heap.size + 1, 0, none⟩)) :: (.pointer (some ⟨KX, 0, none⟩)) :: (.pointer (some ⟨bR, 0, none⟩)) :: (.pointer (some ⟨KY, 0, none⟩)) :: (.int .i64 (i : Int)) :: (.int .i64 id1) :: (.int .i64 0) :: u10 :: (.pointer (some ⟨bA, 0, none⟩)) :: (.agg #[.pointer (some ⟨bA, 0, none⟩), .pointer none, .pointer none]) :: (.tuple #[.pointer (some ⟨bK, 0, none⟩), .int .i64 0]) :: (.pointer (some ⟨KX, 0, none⟩)) :: (.pointer (some ⟨bA, 0, none⟩)) :: (.tuple #[.pointer (some ⟨bK, 0, none⟩), .int .i64 0]) :: (.pointer (some ⟨bK, 0, none⟩)) :: (.int .i64 0) :: (.pointer (some ⟨KX, 1, none⟩)) :: (.tuple #[.pointer (some ⟨bL, 0, none⟩), .int .i64 0]) :: (.pointer (some ⟨KX, 0, none⟩)) :: (.pointer (some ⟨bA, 0, none⟩)) :: (.tuple #[.pointer (some ⟨bL, 0, none⟩), .int .i64 0]) :: (.pointer (some ⟨bL, 0, none⟩)) :: (.int .i64 0) :: (.pointer (some ⟨KX, 2, none⟩)) :: (.pointer (some ⟨bR, 0, none⟩)) :: (.pointer (some ⟨bR, 0, none⟩)) :: (.pointer (some ⟨bR, 0, none⟩)) :: (.pointer (some ⟨bW, 0, none⟩)) :: (.pointer (some ⟨bR, 0, none⟩)) :: (.pointer (some ⟨bQ, 0, none⟩)) :: (.agg #[.pointer (some ⟨bR, 0, none⟩), .pointer (some ⟨bW, 0, none⟩), .pointer (some ⟨bQ, 0, none⟩)]) :: u34 :: u35 :: u36 :: u37 :: u38 :: u39 :: u40 :: u41 :: u42 :: u43 :: u44 :: u45 :: u46 :: u47 :: u48 :: u49 :: u50 :: u51 :: u52 :: u53 :: u54 :: u55 :: u56 :: u57 :: u58 :: u59 :: u60 :: u61 :: u62 :: u63 :: u64 :: u65 :: u66 :: u67 :: u68 :: u69 :: u70 :: u71 :: u72 :: u73 :: u74 :: u75 :: u76 :: u77 :: u78 :: u79 :: u80 :: u81 :: u82 :: u83 :: u84 :: u85 :: u86 :: u87 :: u88 :: u89 :: u90 :: u91 :: u92 :: u93 :: u94 :: u95 :: u96 :: u97 :: u98 :: u99 :: u100 :: u101 :: u102 :: u103 :: u104 :: u105 :: u106 :: u107 :: u108 :: u109 :: u110 :: u111 :: u112 :: u113 :: u114 :: u115 :: u116 :: u117 :: u118 :: u119 :: u120 :: u121 :: u122 :: u123 :: u124 :: u125 :: u126 :: u127 :: u128 :: u129 :: u130 :: undef :: undef :: []), defers := [] } W) := hide (by
              intro W u10 u34 u35 u36 u37 u38 u39 u40 u41 u42 u43 u44 u45 u46 u47 u48 u49 u50 u51 u52 u53 u54 u55 u56 u57 u58 u59 u60 u61 u62 u63 u64 u65 u66 u67 u68 u69 u70 u71 u72 u73 u74 u75 u76 u77 u78 u79 u80 u81 u82 u83 u84 u85 u86 u87 u88 u89 u90 u91 u92 u93 u94 u95 u96 u97 u98 u99 u100 u101 u102 u103 u104 u105 u106 u107 u108 u109 u110 u111 u112 u113 u114 u115 u116 u117 u118 u119 u120 u121 u122 u123 u124 u125 u126 u127 u128 u129 u130 hv
              have E5 := hide hv
              clear q0 q1 q2 q3 q4 x0 x1 x2 y0 y1 y2; obtain ⟨q0, q1, q2, q3, q4⟩ := (unhide HC) _ hv.bel; obtain ⟨x0, x1, x2, y0, y1, y2⟩ := bCells hv;  clear hv E4
              apply hK2
              clear hK2
              cases co with
              | true =>
                cases cm with
                | true =>
                  cases ca with
                  | true =>
                    simp only [if_true] at HN HEL1 HQK
                    go_wp2_with (first
                      | (go_at_call 29; refine (arlink_any (by first | exact unhide E5 | exact (unhide E5).more (Below.refl _ _).drew) (i := 6) (bR := bR) rfl (unhide HSIM) cu id1 (-1)).mono ?_; rintro e vE6 ⟨rfl, hv0⟩; rw [unhide HLK] at hv0; have hv : Env w vE6 (bObs w KX KY bA bK bL bR bW bQ lk lk L L es qs) := hv0; have E6 := hide hv; clear q0 q1 q2 q3 q4 x0 x1 x2 y0 y1 y2; obtain ⟨q0, q1, q2, q3, q4⟩ := (unhide HC) _ hv.bel; obtain ⟨x0, x1, x2, y0, y1, y2⟩ := bCells hv; clear hv hv0)
                      | (go_at_call 20; refine (apush_any (by first | exact unhide E6 | exact (unhide E6).more (Below.refl _ _).drew) (i := 2) (j := 4) (bA := bA) (bK := bK) rfl rfl (by decide) (unhide HGD) id1).mono ?_; rintro e vE7 ⟨rfl, hv0⟩; have hv : Env w vE7 (bObs w KX KY bA bK bL bR bW bQ lk lk (pushL (keysO lk) L id1) L es qs) := hv0; have E7 := hide hv; clear q0 q1 q2 q3 q4 x0 x1 x2 y0 y1 y2; obtain ⟨q0, q1, q2, q3, q4⟩ := (unhide HC) _ hv.bel; obtain ⟨x0, x1, x2, y0, y1, y2⟩ := bCells hv; clear hv hv0)
                      | (go_at_call 30; refine (arpush_any (by first | exact unhide E7 | exact (unhide E7).more (Below.refl _ _).drew) (i := 6) (j := 7) (bR := bR) (bW := bW) rfl rfl (by decide) (unhide HGD) id1).mono ?_; rintro e vE8 ⟨rfl, hv0⟩; have hv : Env w vE8 (bObs w KX KY bA bK bL bR bW bQ lk lk (pushL (keysO lk) L id1) (pushL (keysO lk) L id1) es qs) := hv0; have E8 := hide hv; clear q0 q1 q2 q3 q4 x0 x1 x2 y0 y1 y2; obtain ⟨q0, q1, q2, q3, q4⟩ := (unhide HC) _ hv.bel; obtain ⟨x0, x1, x2, y0, y1, y2⟩ := bCells hv; clear hv hv0)
                      | (go_at_call 31; refine (env_lmark (by first | exact unhide E8 | exact (unhide E8).more (Below.refl _ _).drew) (j := 5) (bL := bL) (bA := bA) rfl (by have := (unhide HEL0).1; omega)).mono ?_; rintro e vE9 ⟨rfl, hv0⟩; have hv : Env w vE9 (bObs w KX KY bA bK bL bR bW bQ lk lk (pushL (keysO lk) L id1) (pushL (keysO lk) L id1) (es ++ [mark0]) qs) := hv0; have E9 := hide hv; clear q0 q1 q2 q3 q4 x0 x1 x2 y0 y1 y2; obtain ⟨q0, q1, q2, q3, q4⟩ := (unhide HC) _ hv.bel; obtain ⟨x0, x1, x2, y0, y1, y2⟩ := bCells hv; clear hv hv0)
                      | (go_at_call 32; refine (aqmark_any (by first | exact unhide E9 | exact (unhide E9).more (Below.refl _ _).drew) (j := 8) (bQ := bQ) (bR := bR) rfl (unhide HEL0).2).mono ?_; rintro e vEA ⟨rfl, hv0⟩; have hv : Env w vEA (bObs w KX KY bA bK bL bR bW bQ lk lk (pushL (keysO lk) L id1) (pushL (keysO lk) L id1) (es ++ [mark0]) (qs ++ [markQ])) := hv0; have EA := hide hv; clear q0 q1 q2 q3 q4 x0 x1 x2 y0 y1 y2; obtain ⟨q0, q1, q2, q3, q4⟩ := (unhide HC) _ hv.bel; obtain ⟨x0, x1, x2, y0, y1, y2⟩ := bCells hv; clear hv hv0; have z2 := cell_kept (below_newAc vEA (.cells #[.int .i64 1, .string ct, .string ⟨#[]⟩, .string ⟨#[]⟩, .int .i64 0, .bool false, .int .i32 0, .bool false, .slice none 0 0] 52)) x2; have HBX := hide ((unhide EA).boxed #[.int .i64 1, .string ct, .string ⟨#[]⟩, .string ⟨#[]⟩, .int .i64 0, .bool false, .int .i32 0, .bool false, .slice none 0 0] 52))
                      | (go_at_call 21; refine (alpush_any (by first | exact unhide HBX | exact (unhide HBX).more (Below.refl _ _).drew) (i := 2) (j := 5) (bA := bA) (bL := bL) rfl rfl (by have := (unhide HEL1).1; omega) id1 (tokB ct) none 0 ⟨fun i x hi => by simp [tokB] at hi⟩ (by simp [tokB])).mono ?_; rintro e vEB ⟨rfl, hv0⟩; have hv1 : Env w vEB ((bObs w KX KY bA bK bL bR bW bQ lk lk (pushL (keysO lk) L id1) (pushL (keysO lk) L id1) (pushE (keysO lk) (es ++ [mark0]) id1 (tokB ct)) (qs ++ [markQ])) ++ [blkOb _ vEA.heap.size #[.int .i64 1, .string ct, .string ⟨#[]⟩, .string ⟨#[]⟩, .int .i64 0, .bool false, .int .i32 0, .bool false, .slice none 0 0] 52]) := hv0; have EB := hide hv1; have hv : Env w vEB (bObs w KX KY bA bK bL bR bW bQ lk lk (pushL (keysO lk) L id1) (pushL (keysO lk) L id1) (pushE (keysO lk) (es ++ [mark0]) id1 (tokB ct)) (qs ++ [markQ])) := hv1.take 10; clear q0 q1 q2 q3 q4 x0 x1 x2 y0 y1 y2; obtain ⟨q0, q1, q2, q3, q4⟩ := (unhide HC) _ hv.bel; obtain ⟨x0, x1, x2, y0, y1, y2⟩ := bCells hv; obtain ⟨k0, k1, k2, k3, k4, k5, k6, k7, k8, _⟩ := nine (hv1.block (i := 10) rfl); clear hv hv0 hv1 z2)
                      | (go_at_call 33; refine (aqpush_any (by first | exact unhide EB | exact (unhide EB).more (Below.refl _ _).drew) (i := 6) (j := 8) (bR := bR) (bQ := bQ) rfl rfl (unhide HEL1).2 (unhide HQK) id1 (tokB ct) rfl).mono ?_; rintro e vEC ⟨rfl, hv0⟩; have hv1 : Env w vEC ((bObs w KX KY bA bK bL bR bW bQ lk lk (pushL (keysO lk) L id1) (pushL (keysO lk) L id1) (pushE (keysO lk) (es ++ [mark0]) id1 (tokB ct)) (pushQ (keysO lk) (qs ++ [markQ]) id1 (tokB ct))) ++ [blkOb _ vEA.heap.size #[.int .i64 1, .string ct, .string ⟨#[]⟩, .string ⟨#[]⟩, .int .i64 0, .bool false, .int .i32 0, .bool false, .slice none 0 0] 52]) := hv0; have hv : Env w vEC (bObs w KX KY bA bK bL bR bW bQ lk lk (pushL (keysO lk) L id1) (pushL (keysO lk) L id1) (pushE (keysO lk) (es ++ [mark0]) id1 (tokB ct)) (pushQ (keysO lk) (qs ++ [markQ]) id1 (tokB ct))) := hv1.take 10; have EC := hide hv; clear hv hv0 hv1))
                    go_roundg (gk - 1)
                    case measure => have := unhide HG; have := unhide HH3; omega
                    case rel => exact ⟨i + 1, by go_num, by have := unhide HG; have := unhide HH3; omega, by have := unhide HI; have := unhide HLEN; omega, by rw [unhide HN]; exact unhide EC⟩
                  | false =>
                    simp only [if_true, Bool.false_eq_true, if_false] at HN HEL1 HQK
                    go_wp2_with (first
                      | (go_at_call 29; refine (arlink_any (by first | exact unhide E5 | exact (unhide E5).more (Below.refl _ _).drew) (i := 6) (bR := bR) rfl (unhide HSIM) cu id1 (-1)).mono ?_; rintro e vE6 ⟨rfl, hv0⟩; rw [unhide HLK] at hv0; have hv : Env w vE6 (bObs w KX KY bA bK bL bR bW bQ lk lk L L es qs) := hv0; have E6 := hide hv; clear q0 q1 q2 q3 q4 x0 x1 x2 y0 y1 y2; obtain ⟨q0, q1, q2, q3, q4⟩ := (unhide HC) _ hv.bel; obtain ⟨x0, x1, x2, y0, y1, y2⟩ := bCells hv; clear hv hv0)
                      | (go_at_call 20; refine (apush_any (by first | exact unhide E6 | exact (unhide E6).more (Below.refl _ _).drew) (i := 2) (j := 4) (bA := bA) (bK := bK) rfl rfl (by decide) (unhide HGD) id1).mono ?_; rintro e vE7 ⟨rfl, hv0⟩; have hv : Env w vE7 (bObs w KX KY bA bK bL bR bW bQ lk lk (pushL (keysO lk) L id1) L es qs) := hv0; have E7 := hide hv; clear q0 q1 q2 q3 q4 x0 x1 x2 y0 y1 y2; obtain ⟨q0, q1, q2, q3, q4⟩ := (unhide HC) _ hv.bel; obtain ⟨x0, x1, x2, y0, y1, y2⟩ := bCells hv; clear hv hv0)
                      | (go_at_call 30; refine (arpush_any (by first | exact unhide E7 | exact (unhide E7).more (Below.refl _ _).drew) (i := 6) (j := 7) (bR := bR) (bW := bW) rfl rfl (by decide) (unhide HGD) id1).mono ?_; rintro e vE8 ⟨rfl, hv0⟩; have hv : Env w vE8 (bObs w KX KY bA bK bL bR bW bQ lk lk (pushL (keysO lk) L id1) (pushL (keysO lk) L id1) es qs) := hv0; have E8 := hide hv; clear q0 q1 q2 q3 q4 x0 x1 x2 y0 y1 y2; obtain ⟨q0, q1, q2, q3, q4⟩ := (unhide HC) _ hv.bel; obtain ⟨x0, x1, x2, y0, y1, y2⟩ := bCells hv; clear hv hv0)
                      | (go_at_call 31; refine (env_lmark (by first | exact unhide E8 | exact (unhide E8).more (Below.refl _ _).drew) (j := 5) (bL := bL) (bA := bA) rfl (by have := (unhide HEL0).1; omega)).mono ?_; rintro e vE9 ⟨rfl, hv0⟩; have hv : Env w vE9 (bObs w KX KY bA bK bL bR bW bQ lk lk (pushL (keysO lk) L id1) (pushL (keysO lk) L id1) (es ++ [mark0]) qs) := hv0; have E9 := hide hv; clear q0 q1 q2 q3 q4 x0 x1 x2 y0 y1 y2; obtain ⟨q0, q1, q2, q3, q4⟩ := (unhide HC) _ hv.bel; obtain ⟨x0, x1, x2, y0, y1, y2⟩ := bCells hv; clear hv hv0)
                      | (go_at_call 32; refine (aqmark_any (by first | exact unhide E9 | exact (unhide E9).more (Below.refl _ _).drew) (j := 8) (bQ := bQ) (bR := bR) rfl (unhide HEL0).2).mono ?_; rintro e vEA ⟨rfl, hv0⟩; have hv : Env w vEA (bObs w KX KY bA bK bL bR bW bQ lk lk (pushL (keysO lk) L id1) (pushL (keysO lk) L id1) (es ++ [mark0]) (qs ++ [markQ])) := hv0; have EA := hide hv; clear q0 q1 q2 q3 q4 x0 x1 x2 y0 y1 y2; obtain ⟨q0, q1, q2, q3, q4⟩ := (unhide HC) _ hv.bel; obtain ⟨x0, x1, x2, y0, y1, y2⟩ := bCells hv; clear hv hv0))
                    go_roundg (gk - 1)
                    case measure => have := unhide HG; have := unhide HH3; omega
                    case rel => exact ⟨i + 1, by go_num, by have := unhide HG; have := unhide HH3; omega, by have := unhide HI; have := unhide HLEN; omega, by rw [unhide HN]; exact unhide EA⟩
                | false =>
                  cases ca with
                  | true =>
                    simp only [if_true, Bool.false_eq_true, if_false] at HN HEL1 HQK
                    go_wp2_with (first
                      | (go_at_call 29; refine (arlink_any (by first | exact unhide E5 | exact (unhide E5).more (Below.refl _ _).drew) (i := 6) (bR := bR) rfl (unhide HSIM) cu id1 (-1)).mono ?_; rintro e vE6 ⟨rfl, hv0⟩; rw [unhide HLK] at hv0; have hv : Env w vE6 (bObs w KX KY bA bK bL bR bW bQ lk lk L L es qs) := hv0; have E6 := hide hv; clear q0 q1 q2 q3 q4 x0 x1 x2 y0 y1 y2; obtain ⟨q0, q1, q2, q3, q4⟩ := (unhide HC) _ hv.bel; obtain ⟨x0, x1, x2, y0, y1, y2⟩ := bCells hv; clear hv hv0)
                      | (go_at_call 20; refine (apush_any (by first | exact unhide E6 | exact (unhide E6).more (Below.refl _ _).drew) (i := 2) (j := 4) (bA := bA) (bK := bK) rfl rfl (by decide) (unhide HGD) id1).mono ?_; rintro e vE7 ⟨rfl, hv0⟩; have hv : Env w vE7 (bObs w KX KY bA bK bL bR bW bQ lk lk (pushL (keysO lk) L id1) L es qs) := hv0; have E7 := hide hv; clear q0 q1 q2 q3 q4 x0 x1 x2 y0 y1 y2; obtain ⟨q0, q1, q2, q3, q4⟩ := (unhide HC) _ hv.bel; obtain ⟨x0, x1, x2, y0, y1, y2⟩ := bCells hv; clear hv hv0)
                      | (go_at_call 30; refine (arpush_any (by first | exact unhide E7 | exact (unhide E7).more (Below.refl _ _).drew) (i := 6) (j := 7) (bR := bR) (bW := bW) rfl rfl (by decide) (unhide HGD) id1).mono ?_; rintro e vE8 ⟨rfl, hv0⟩; have hv : Env w vE8 (bObs w KX KY bA bK bL bR bW bQ lk lk (pushL (keysO lk) L id1) (pushL (keysO lk) L id1) es qs) := hv0; have E8 := hide hv; clear q0 q1 q2 q3 q4 x0 x1 x2 y0 y1 y2; obtain ⟨q0, q1, q2, q3, q4⟩ := (unhide HC) _ hv.bel; obtain ⟨x0, x1, x2, y0, y1, y2⟩ := bCells hv; clear hv hv0; have z2 := cell_kept (below_newAc vE8 (.cells #[.int .i64 1, .string ct, .string ⟨#[]⟩, .string ⟨#[]⟩, .int .i64 0, .bool false, .int .i32 0, .bool false, .slice none 0 0] 52)) x2; have HBX := hide ((unhide E8).boxed #[.int .i64 1, .string ct, .string ⟨#[]⟩, .string ⟨#[]⟩, .int .i64 0, .bool false, .int .i32 0, .bool false, .slice none 0 0] 52))
                      | (go_at_call 21; refine (alpush_any (by first | exact unhide HBX | exact (unhide HBX).more (Below.refl _ _).drew) (i := 2) (j := 5) (bA := bA) (bL := bL) rfl rfl (by have := (unhide HEL1).1; omega) id1 (tokB ct) none 0 ⟨fun i x hi => by simp [tokB] at hi⟩ (by simp [tokB])).mono ?_; rintro e vEB ⟨rfl, hv0⟩; have hv1 : Env w vEB ((bObs w KX KY bA bK bL bR bW bQ lk lk (pushL (keysO lk) L id1) (pushL (keysO lk) L id1) (pushE (keysO lk) es id1 (tokB ct)) qs) ++ [blkOb _ vE8.heap.size #[.int .i64 1, .string ct, .string ⟨#[]⟩, .string ⟨#[]⟩, .int .i64 0, .bool false, .int .i32 0, .bool false, .slice none 0 0] 52]) := hv0; have EB := hide hv1; have hv : Env w vEB (bObs w KX KY bA bK bL bR bW bQ lk lk (pushL (keysO lk) L id1) (pushL (keysO lk) L id1) (pushE (keysO lk) es id1 (tokB ct)) qs) := hv1.take 10; clear q0 q1 q2 q3 q4 x0 x1 x2 y0 y1 y2; obtain ⟨q0, q1, q2, q3, q4⟩ := (unhide HC) _ hv.bel; obtain ⟨x0, x1, x2, y0, y1, y2⟩ := bCells hv; obtain ⟨k0, k1, k2, k3, k4, k5, k6, k7, k8, _⟩ := nine (hv1.block (i := 10) rfl); clear hv hv0 hv1 z2)
                      | (go_at_call 33; refine (aqpush_any (by first | exact unhide EB | exact (unhide EB).more (Below.refl _ _).drew) (i := 6) (j := 8) (bR := bR) (bQ := bQ) rfl rfl (unhide HEL1).2 (unhide HQK) id1 (tokB ct) rfl).mono ?_; rintro e vEC ⟨rfl, hv0⟩; have hv1 : Env w vEC ((bObs w KX KY bA bK bL bR bW bQ lk lk (pushL (keysO lk) L id1) (pushL (keysO lk) L id1) (pushE (keysO lk) es id1 (tokB ct)) (pushQ (keysO lk) qs id1 (tokB ct))) ++ [blkOb _ vE8.heap.size #[.int .i64 1, .string ct, .string ⟨#[]⟩, .string ⟨#[]⟩, .int .i64 0, .bool false, .int .i32 0, .bool false, .slice none 0 0] 52]) := hv0; have hv : Env w vEC (bObs w KX KY bA bK bL bR bW bQ lk lk (pushL (keysO lk) L id1) (pushL (keysO lk) L id1) (pushE (keysO lk) es id1 (tokB ct)) (pushQ (keysO lk) qs id1 (tokB ct))) := hv1.take 10; have EC := hide hv; clear hv hv0 hv1))
                    go_roundg (gk - 1)
                    case measure => have := unhide HG; have := unhide HH3; omega
                    case rel => exact ⟨i + 1, by go_num, by have := unhide HG; have := unhide HH3; omega, by have := unhide HI; have := unhide HLEN; omega, by rw [unhide HN]; exact unhide EC⟩
                  | false =>
                    simp only [if_true, Bool.false_eq_true, if_false] at HN HEL1 HQK
                    go_wp2_with (first
                      | (go_at_call 29; refine (arlink_any (by first | exact unhide E5 | exact (unhide E5).more (Below.refl _ _).drew) (i := 6) (bR := bR) rfl (unhide HSIM) cu id1 (-1)).mono ?_; rintro e vE6 ⟨rfl, hv0⟩; rw [unhide HLK] at hv0; have hv : Env w vE6 (bObs w KX KY bA bK bL bR bW bQ lk lk L L es qs) := hv0; have E6 := hide hv; clear q0 q1 q2 q3 q4 x0 x1 x2 y0 y1 y2; obtain ⟨q0, q1, q2, q3, q4⟩ := (unhide HC) _ hv.bel; obtain ⟨x0, x1, x2, y0, y1, y2⟩ := bCells hv; clear hv hv0)
                      | (go_at_call 20; refine (apush_any (by first | exact unhide E6 | exact (unhide E6).more (Below.refl _ _).drew) (i := 2) (j := 4) (bA := bA) (bK := bK) rfl rfl (by decide) (unhide HGD) id1).mono ?_; rintro e vE7 ⟨rfl, hv0⟩; have hv : Env w vE7 (bObs w KX KY bA bK bL bR bW bQ lk lk (pushL (keysO lk) L id1) L es qs) := hv0; have E7 := hide hv; clear q0 q1 q2 q3 q4 x0 x1 x2 y0 y1 y2; obtain ⟨q0, q1, q2, q3, q4⟩ := (unhide HC) _ hv.bel; obtain ⟨x0, x1, x2, y0, y1, y2⟩ := bCells hv; clear hv hv0)
                      | (go_at_call 30; refine (arpush_any (by first | exact unhide E7 | exact (unhide E7).more (Below.refl _ _).drew) (i := 6) (j := 7) (bR := bR) (bW := bW) rfl rfl (by decide) (unhide HGD) id1).mono ?_; rintro e vE8 ⟨rfl, hv0⟩; have hv : Env w vE8 (bObs w KX KY bA bK bL bR bW bQ lk lk (pushL (keysO lk) L id1) (pushL (keysO lk) L id1) es qs) := hv0; have E8 := hide hv; clear q0 q1 q2 q3 q4 x0 x1 x2 y0 y1 y2; obtain ⟨q0, q1, q2, q3, q4⟩ := (unhide HC) _ hv.bel; obtain ⟨x0, x1, x2, y0, y1, y2⟩ := bCells hv; clear hv hv0))
                    go_roundg (gk - 1)
                    case measure => have := unhide HG; have := unhide HH3; omega
                    case rel => exact ⟨i + 1, by go_num, by have := unhide HG; have := unhide HH3; omega, by have := unhide HI; have := unhide HLEN; omega, by rw [unhide HN]; exact unhide E8⟩
              | false =>
                cases cm with
                | true =>
                  cases ca with
                  | true =>
                    simp only [if_true, Bool.false_eq_true, if_false] at HN HEL1 HQK
                    go_wp2_with (first
                      | (go_at_call 29; refine (arlink_any (by first | exact unhide E5 | exact (unhide E5).more (Below.refl _ _).drew) (i := 6) (bR := bR) rfl (unhide HSIM) cu id1 (-1)).mono ?_; rintro e vE6 ⟨rfl, hv0⟩; rw [unhide HLK] at hv0; have hv : Env w vE6 (bObs w KX KY bA bK bL bR bW bQ lk lk L L es qs) := hv0; have E6 := hide hv; clear q0 q1 q2 q3 q4 x0 x1 x2 y0 y1 y2; obtain ⟨q0, q1, q2, q3, q4⟩ := (unhide HC) _ hv.bel; obtain ⟨x0, x1, x2, y0, y1, y2⟩ := bCells hv; clear hv hv0)
                      | (go_at_call 31; refine (env_lmark (by first | exact unhide E6 | exact (unhide E6).more (Below.refl _ _).drew) (j := 5) (bL := bL) (bA := bA) rfl (by have := (unhide HEL0).1; omega)).mono ?_; rintro e vE9 ⟨rfl, hv0⟩; have hv : Env w vE9 (bObs w KX KY bA bK bL bR bW bQ lk lk L L (es ++ [mark0]) qs) := hv0; have E9 := hide hv; clear q0 q1 q2 q3 q4 x0 x1 x2 y0 y1 y2; obtain ⟨q0, q1, q2, q3, q4⟩ := (unhide HC) _ hv.bel; obtain ⟨x0, x1, x2, y0, y1, y2⟩ := bCells hv; clear hv hv0)
                      | (go_at_call 32; refine (aqmark_any (by first | exact unhide E9 | exact (unhide E9).more (Below.refl _ _).drew) (j := 8) (bQ := bQ) (bR := bR) rfl (unhide HEL0).2).mono ?_; rintro e vEA ⟨rfl, hv0⟩; have hv : Env w vEA (bObs w KX KY bA bK bL bR bW bQ lk lk L L (es ++ [mark0]) (qs ++ [markQ])) := hv0; have EA := hide hv; clear q0 q1 q2 q3 q4 x0 x1 x2 y0 y1 y2; obtain ⟨q0, q1, q2, q3, q4⟩ := (unhide HC) _ hv.bel; obtain ⟨x0, x1, x2, y0, y1, y2⟩ := bCells hv; clear hv hv0; have z2 := cell_kept (below_newAc vEA (.cells #[.int .i64 1, .string ct, .string ⟨#[]⟩, .string ⟨#[]⟩, .int .i64 0, .bool false, .int .i32 0, .bool false, .slice none 0 0] 52)) x2; have HBX := hide ((unhide EA).boxed #[.int .i64 1, .string ct, .string ⟨#[]⟩, .string ⟨#[]⟩, .int .i64 0, .bool false, .int .i32 0, .bool false, .slice none 0 0] 52))
                      | (go_at_call 21; refine (alpush_any (by first | exact unhide HBX | exact (unhide HBX).more (Below.refl _ _).drew) (i := 2) (j := 5) (bA := bA) (bL := bL) rfl rfl (by have := (unhide HEL1).1; omega) id1 (tokB ct) none 0 ⟨fun i x hi => by simp [tokB] at hi⟩ (by simp [tokB])).mono ?_; rintro e vEB ⟨rfl, hv0⟩; have hv1 : Env w vEB ((bObs w KX KY bA bK bL bR bW bQ lk lk L L (pushE (keysO lk) (es ++ [mark0]) id1 (tokB ct)) (qs ++ [markQ])) ++ [blkOb _ vEA.heap.size #[.int .i64 1, .string ct, .string ⟨#[]⟩, .string ⟨#[]⟩, .int .i64 0, .bool false, .int .i32 0, .bool false, .slice none 0 0] 52]) := hv0; have EB := hide hv1; have hv : Env w vEB (bObs w KX KY bA bK bL bR bW bQ lk lk L L (pushE (keysO lk) (es ++ [mark0]) id1 (tokB ct)) (qs ++ [markQ])) := hv1.take 10; clear q0 q1 q2 q3 q4 x0 x1 x2 y0 y1 y2; obtain ⟨q0, q1, q2, q3, q4⟩ := (unhide HC) _ hv.bel; obtain ⟨x0, x1, x2, y0, y1, y2⟩ := bCells hv; obtain ⟨k0, k1, k2, k3, k4, k5, k6, k7, k8, _⟩ := nine (hv1.block (i := 10) rfl); clear hv hv0 hv1 z2)
                      | (go_at_call 33; refine (aqpush_any (by first | exact unhide EB | exact (unhide EB).more (Below.refl _ _).drew) (i := 6) (j := 8) (bR := bR) (bQ := bQ) rfl rfl (unhide HEL1).2 (unhide HQK) id1 (tokB ct) rfl).mono ?_; rintro e vEC ⟨rfl, hv0⟩; have hv1 : Env w vEC ((bObs w KX KY bA bK bL bR bW bQ lk lk L L (pushE (keysO lk) (es ++ [mark0]) id1 (tokB ct)) (pushQ (keysO lk) (qs ++ [markQ]) id1 (tokB ct))) ++ [blkOb _ vEA.heap.size #[.int .i64 1, .string ct, .string ⟨#[]⟩, .string ⟨#[]⟩, .int .i64 0, .bool false, .int .i32 0, .bool false, .slice none 0 0] 52]) := hv0; have hv : Env w vEC (bObs w KX KY bA bK bL bR bW bQ lk lk L L (pushE (keysO lk) (es ++ [mark0]) id1 (tokB ct)) (pushQ (keysO lk) (qs ++ [markQ]) id1 (tokB ct))) := hv1.take 10; have EC := hide hv; clear hv hv0 hv1))
                    go_roundg (gk - 1)
                    case measure => have := unhide HG; have := unhide HH3; omega
                    case rel => exact ⟨i + 1, by go_num, by have := unhide HG; have := unhide HH3; omega, by have := unhide HI; have := unhide HLEN; omega, by rw [unhide HN]; exact unhide EC⟩
                  | false =>
                    simp only [if_true, Bool.false_eq_true, if_false] at HN HEL1 HQK
                    go_wp2_with (first
                      | (go_at_call 29; refine (arlink_any (by first | exact unhide E5 | exact (unhide E5).more (Below.refl _ _).drew) (i := 6) (bR := bR) rfl (unhide HSIM) cu id1 (-1)).mono ?_; rintro e vE6 ⟨rfl, hv0⟩; rw [unhide HLK] at hv0; have hv : Env w vE6 (bObs w KX KY bA bK bL bR bW bQ lk lk L L es qs) := hv0; have E6 := hide hv; clear q0 q1 q2 q3 q4 x0 x1 x2 y0 y1 y2; obtain ⟨q0, q1, q2, q3, q4⟩ := (unhide HC) _ hv.bel; obtain ⟨x0, x1, x2, y0, y1, y2⟩ := bCells hv; clear hv hv0)
                      | (go_at_call 31; refine (env_lmark (by first | exact unhide E6 | exact (unhide E6).more (Below.refl _ _).drew) (j := 5) (bL := bL) (bA := bA) rfl (by have := (unhide HEL0).1; omega)).mono ?_; rintro e vE9 ⟨rfl, hv0⟩; have hv : Env w vE9 (bObs w KX KY bA bK bL bR bW bQ lk lk L L (es ++ [mark0]) qs) := hv0; have E9 := hide hv; clear q0 q1 q2 q3 q4 x0 x1 x2 y0 y1 y2; obtain ⟨q0, q1, q2, q3, q4⟩ := (unhide HC) _ hv.bel; obtain ⟨x0, x1, x2, y0, y1, y2⟩ := bCells hv; clear hv hv0)
                      | (go_at_call 32; refine (aqmark_any (by first | exact unhide E9 | exact (unhide E9).more (Below.refl _ _).drew) (j := 8) (bQ := bQ) (bR := bR) rfl (unhide HEL0).2).mono ?_; rintro e vEA ⟨rfl, hv0⟩; have hv : Env w vEA (bObs w KX KY bA bK bL bR bW bQ lk lk L L (es ++ [mark0]) (qs ++ [markQ])) := hv0; have EA := hide hv; clear q0 q1 q2 q3 q4 x0 x1 x2 y0 y1 y2; obtain ⟨q0, q1, q2, q3, q4⟩ := (unhide HC) _ hv.bel; obtain ⟨x0, x1, x2, y0, y1, y2⟩ := bCells hv; clear hv hv0))
                    go_roundg (gk - 1)
                    case measure => have := unhide HG; have := unhide HH3; omega
                    case rel => exact ⟨i + 1, by go_num, by have := unhide HG; have := unhide HH3; omega, by have := unhide HI; have := unhide HLEN; omega, by rw [unhide HN]; exact unhide EA⟩
                | false =>
                  cases ca with
                  | true =>
                    simp only [if_true, Bool.false_eq_true, if_false] at HN HEL1 HQK
                    go_wp2_with (first
                      | (go_at_call 29; refine (arlink_any (by first | exact unhide E5 | exact (unhide E5).more (Below.refl _ _).drew) (i := 6) (bR := bR) rfl (unhide HSIM) cu id1 (-1)).mono ?_; rintro e vE6 ⟨rfl, hv0⟩; rw [unhide HLK] at hv0; have hv : Env w vE6 (bObs w KX KY bA bK bL bR bW bQ lk lk L L es qs) := hv0; have E6 := hide hv; clear q0 q1 q2 q3 q4 x0 x1 x2 y0 y1 y2; obtain ⟨q0, q1, q2, q3, q4⟩ := (unhide HC) _ hv.bel; obtain ⟨x0, x1, x2, y0, y1, y2⟩ := bCells hv; clear hv hv0; have z2 := cell_kept (below_newAc vE6 (.cells #[.int .i64 1, .string ct, .string ⟨#[]⟩, .string ⟨#[]⟩, .int .i64 0, .bool false, .int .i32 0, .bool false, .slice none 0 0] 52)) x2; have HBX := hide ((unhide E6).boxed #[.int .i64 1, .string ct, .string ⟨#[]⟩, .string ⟨#[]⟩, .int .i64 0, .bool false, .int .i32 0, .bool false, .slice none 0 0] 52))
                      | (go_at_call 21; refine (alpush_any (by first | exact unhide HBX | exact (unhide HBX).more (Below.refl _ _).drew) (i := 2) (j := 5) (bA := bA) (bL := bL) rfl rfl (by have := (unhide HEL1).1; omega) id1 (tokB ct) none 0 ⟨fun i x hi => by simp [tokB] at hi⟩ (by simp [tokB])).mono ?_; rintro e vEB ⟨rfl, hv0⟩; have hv1 : Env w vEB ((bObs w KX KY bA bK bL bR bW bQ lk lk L L (pushE (keysO lk) es id1 (tokB ct)) qs) ++ [blkOb _ vE6.heap.size #[.int .i64 1, .string ct, .string ⟨#[]⟩, .string ⟨#[]⟩, .int .i64 0, .bool false, .int .i32 0, .bool false, .slice none 0 0] 52]) := hv0; have EB := hide hv1; have hv : Env w vEB (bObs w KX KY bA bK bL bR bW bQ lk lk L L (pushE (keysO lk) es id1 (tokB ct)) qs) := hv1.take 10; clear q0 q1 q2 q3 q4 x0 x1 x2 y0 y1 y2; obtain ⟨q0, q1, q2, q3, q4⟩ := (unhide HC) _ hv.bel; obtain ⟨x0, x1, x2, y0, y1, y2⟩ := bCells hv; obtain ⟨k0, k1, k2, k3, k4, k5, k6, k7, k8, _⟩ := nine (hv1.block (i := 10) rfl); clear hv hv0 hv1 z2)
                      | (go_at_call 33; refine (aqpush_any (by first | exact unhide EB | exact (unhide EB).more (Below.refl _ _).drew) (i := 6) (j := 8) (bR := bR) (bQ := bQ) rfl rfl (unhide HEL1).2 (unhide HQK) id1 (tokB ct) rfl).mono ?_; rintro e vEC ⟨rfl, hv0⟩; have hv1 : Env w vEC ((bObs w KX KY bA bK bL bR bW bQ lk lk L L (pushE (keysO lk) es id1 (tokB ct)) (pushQ (keysO lk) qs id1 (tokB ct))) ++ [blkOb _ vE6.heap.size #[.int .i64 1, .string ct, .string ⟨#[]⟩, .string ⟨#[]⟩, .int .i64 0, .bool false, .int .i32 0, .bool false, .slice none 0 0] 52]) := hv0; have hv : Env w vEC (bObs w KX KY bA bK bL bR bW bQ lk lk L L (pushE (keysO lk) es id1 (tokB ct)) (pushQ (keysO lk) qs id1 (tokB ct))) := hv1.take 10; have EC := hide hv; clear hv hv0 hv1))
                    go_roundg (gk - 1)
                    case measure => have := unhide HG; have := unhide HH3; omega
                    case rel => exact ⟨i + 1, by go_num, by have := unhide HG; have := unhide HH3; omega, by have := unhide HI; have := unhide HLEN; omega, by rw [unhide HN]; exact unhide EC⟩
                  | false =>
                    simp only [Bool.false_eq_true, if_false] at HN HEL1 HQK
                    go_wp2_with (first
                      | (go_at_call 29; refine (arlink_any (by first | exact unhide E5 | exact (unhide E5).more (Below.refl _ _).drew) (i := 6) (bR := bR) rfl (unhide HSIM) cu id1 (-1)).mono ?_; rintro e vE6 ⟨rfl, hv0⟩; rw [unhide HLK] at hv0; have hv : Env w vE6 (bObs w KX KY bA bK bL bR bW bQ lk lk L L es qs) := hv0; have E6 := hide hv; clear q0 q1 q2 q3 q4 x0 x1 x2 y0 y1 y2; obtain ⟨q0, q1, q2, q3, q4⟩ := (unhide HC) _ hv.bel; obtain ⟨x0, x1, x2, y0, y1, y2⟩ := bCells hv; clear hv hv0))
                    go_roundg (gk - 1)
                    case measure => have := unhide HG; have := unhide HH3; omega
                    case rel => exact ⟨i + 1, by go_num, by have := unhide HG; have := unhide HH3; omega, by have := unhide HI; have := unhide HLEN; omega, by rw [unhide HN]; exact unhide E6⟩)
            clear hK2
            go_region_with (first
              | (go_at_call 19; refine (alink_any (by first | exact unhide E4 | exact (unhide E4).more (Below.refl _ _).drew) (i := 2) (bA := bA) rfl cu id1 (-1)).mono ?_; rintro e vE5 ⟨rfl, hv0⟩; rw [unhide HLK] at hv0; have hv0 := hv0.stay (j := 4) rfl (show ∃ t, keysO lk = keysO os1 ++ t by rw [← unhide HLK]; exact keysO_link_more _ _ _ _); have hv : Env w vE5 (bObs w KX KY bA bK bL bR bW bQ lk os1 L L es qs) := hv0; have E5 := hide hv; clear q0 q1 q2 q3 q4 x0 x1 x2 y0 y1 y2; obtain ⟨q0, q1, q2, q3, q4⟩ := (unhide HC) _ hv.bel; obtain ⟨x0, x1, x2, y0, y1, y2⟩ := bCells hv; clear hv hv0))
            all_goals go_wp2
            all_goals exact (unhide HL2) _ _ _ _ _ _ _ _ _ _ _ _ _ _ _ _ _ _ _ _ _ _ _ _ _ _ _ _ _ _ _ _ _ _ _ _ _ _ _ _ _ _ _ _ _ _ _ _ _ _ _ _ _ _ _ _ _ _ _ _ _ _ _ _ _ _ _ _ _ _ _ _ _ _ _ _ _ _ _ _ _ _ _ _ _ _ _ _ _ _ _ _ _ _ _ _ _ _ _ (unhide E5)
          · rw [if_neg he] at HN
            have he2 : (e1 != 0) = true := by simp [he]
            go_wp2_with (first
              | (go_at_call 28; refine (arelem_any (by first | exact unhide E3 | exact (unhide E3).more (Below.refl _ _).drew) (i := 6) (bR := bR) rfl 0 ct).mono ?_; rintro e vE4 ⟨rfl, hv0⟩; rw [unhide HR] at hv0; rw [unhide HR]; have hv : Env w vE4 (bObs w KX KY bA bK bL bR bW bQ os1 os1 L L es qs) := hv0; have E4 := hide hv; clear q0 q1 q2 q3 q4 x0 x1 x2 y0 y1 y2; obtain ⟨q0, q1, q2, q3, q4⟩ := (unhide HC) _ hv.bel; obtain ⟨x0, x1, x2, y0, y1, y2⟩ := bCells hv; clear hv hv0))
            go_roundg (gk - 1)
            case measure => have := unhide HG; have := unhide HH3; omega
            case rel => exact ⟨i + 1, by go_num, by have := unhide HG; have := unhide HH3; omega, by have := unhide HI; have := unhide HLEN; omega, by rw [unhide HN]; exact unhide E4⟩)
        clear hK1
        go_region_with (first
          | (go_at_call 18; refine (aelem_any (by first | exact unhide HV1 | exact (unhide HV1).more (Below.refl _ _).drew) (i := 2) (bA := bA) rfl 0 ct).mono ?_; rintro e vE3 ⟨rfl, hv0⟩; rw [unhide HR] at hv0; have hv0 := hv0.stay (j := 4) rfl (show ∃ t, keysO os1 = keysO os ++ t by have := keysO_elem_more os 0 ct; rw [unhide HR] at this; exact this); rw [unhide HR]; have hv : Env w vE3 (bObs w KX KY bA bK bL bR bW bQ os1 os L L es qs) := hv0; have E3 := hide hv; clear q0 q1 q2 q3 q4 x0 x1 x2 y0 y1 y2; obtain ⟨q0, q1, q2, q3, q4⟩ := (unhide HC) _ hv.bel; obtain ⟨x0, x1, x2, y0, y1, y2⟩ := bCells hv; clear hv hv0))
        all_goals go_wp2
        all_goals exact (unhide HL1) _ _ _ _ _ _ _ _ _ _ _ _ _ _ _ _ _ _ _ _ _ _ _ _ _ _ _ _ _ _ _ _ _ _ _ _ _ _ _ _ _ _ _ _ _ _ _ _ _ _ _ _ _ _ _ _ _ _ _ _ _ _ _ _ _ _ _ _ _ _ _ _ _ _ _ _ _ _ _ _ _ _ _ _ _ _ _ _ _ _ _ _ _ _ _ _ _ _ _ (unhide E3)
      · obtain rfl : i = 100 := by omega
        generalize l.length = n at *
        clear hig hil h3 hi
        clear HBI
        have hr := (unhide HV).block (i := 0) rfl
        have hs := (unhide HV).block (i := 1) rfl
        have hx := (unhide HV).block (i := 3) rfl
        have hy := (unhide HV).block (i := 9) rfl
        have n1 : ¬ KX = w.heap.size := fun e => by
          have hx' := hx
          rw [e, hr] at hx'
          cases hx'
        have n2 : ¬ KX = w.heap.size + 1 := fun e => by
          have hx' := hx
          rw [e, hs] at hx'
          cases hx'
        have n3 : ¬ KY = w.heap.size := fun e => by
          have hx' := hy
          rw [e, hr] at hx'
          cases hx'
        have n4 : ¬ KY = w.heap.size + 1 := fun e => by
          have hx' := hy
          rw [e, hs] at hx'
          cases hx'
        have n5 : ¬ w.heap.size = KX := fun e => n1 e.symm
        have n6 : ¬ w.heap.size + 1 = KX := fun e => n2 e.symm
        have n7 : ¬ w.heap.size = KY := fun e => n3 e.symm
        have n8 : ¬ w.heap.size + 1 = KY := fun e => n4 e.symm
        have x0 := cell_of_row _ _ 0 _ _ _ hx
        have x1 := cell_of_row _ _ 1 _ _ _ hx
        have x2 := cell_of_row _ _ 2 _ _ _ hx
        have y0 := cell_of_row _ _ 0 _ _ _ hy
        have y1 := cell_of_row _ _ 1 _ _ _ hy
        have y2 := cell_of_row _ _ 2 _ _ _ hy
        have r0 := cell_of_row _ _ 0 _ _ _ hr
        have r1 := cell_of_row _ _ 1 _ _ _ hr
        have r2 := cell_of_row _ _ 2 _ _ _ hr
        have s0 := cell_of_row _ _ 0 _ _ _ hs
        have s1 := cell_of_row _ _ 1 _ _ _ hs
        have s2 := cell_of_row _ _ 2 _ _ _ hs
        have fr0 := free_row hr 0
        have fr1 := free_row hr 1
        have fr2 := free_row hr 2
        have fs0 := free_row hs 0
        have fs1 := free_row hs 1
        have fs2 := free_row hs 2
        have HRR := hide hr
        have HSS := hide hs
        clear hr hs hx hy
        go_wp2
        have nA : ¬ w.heap.size = w.heap.size + 1 := by omega
        have nB : ¬ w.heap.size + 1 = w.heap.size := by omega
        go_region
        all_goals go_wp2
        have g3 := (unhide HV).lose (i := 0) rfl (run_mod (F := fun k => k = w.heap.size) w.heap.size rfl [.pointer (some ⟨bA, 0, none⟩), .pointer (some ⟨bK, 0, none⟩), .pointer (some ⟨bL, 0, none⟩)] 0 wr)
        have g6 := (g3.lose (i := 1) rfl (run_mod (F := fun k => k = w.heap.size + 1) (w.heap.size + 1) rfl [.pointer (some ⟨bR, 0, none⟩), .pointer (some ⟨bW, 0, none⟩), .pointer (some ⟨bQ, 0, none⟩)] 0 _)).more (Below.refl _ _).drew
        have q1 := run_whole w.heap.size [.pointer (some ⟨bA, 0, none⟩), .pointer (some ⟨bK, 0, none⟩), .pointer (some ⟨bL, 0, none⟩)] wr _ _ (unhide HRR) rfl
        have q2 := run_whole (w.heap.size + 1) [.pointer (some ⟨bR, 0, none⟩), .pointer (some ⟨bW, 0, none⟩), .pointer (some ⟨bQ, 0, none⟩)] _ _ _ ((run_other w.heap.size (w.heap.size + 1) (by omega) [.pointer (some ⟨bA, 0, none⟩), .pointer (some ⟨bK, 0, none⟩), .pointer (some ⟨bL, 0, none⟩)] 0 wr).trans (unhide HSS)) rfl
        have q3 := (run_other (w.heap.size + 1) w.heap.size (by omega) [.pointer (some ⟨bR, 0, none⟩), .pointer (some ⟨bW, 0, none⟩), .pointer (some ⟨bQ, 0, none⟩)] 0 (wr.setCells w.heap.size 0 [.pointer (some ⟨bA, 0, none⟩), .pointer (some ⟨bK, 0, none⟩), .pointer (some ⟨bL, 0, none⟩)])).trans q1
        refine bodyPost_ret (build_ret (p := 2) (q := 3) Tryz.results7 (b1 := w.heap.size) (b2 := w.heap.size + 1) (heap_drew_at q3) (heap_drew_at q2) _ rfl rfl) rfl ⟨bA, bK, bL, bR, bW, bQ, rfl, ?_⟩
        refine g6.pick _ [2, 4, 5, 6, 7, 8] (by decide) (fun i o hi => ?_)
        match i, hi with
        | 0, hi => exact ⟨2, rfl, hi⟩
        | 1, hi => exact ⟨4, rfl, hi⟩
        | 2, hi => exact ⟨5, rfl, hi⟩
        | 3, hi => exact ⟨6, rfl, hi⟩
        | 4, hi => exact ⟨7, rfl, hi⟩
        | 5, hi => exact ⟨8, rfl, hi⟩
    · have hiz : ¬ (i : Int) < (l.length : Int) := by omega
      have HF : Hid (worldB (l.take 100) = worldB (l.take i)) := hide (by
        rw [List.take_of_length_le (show l.length ≤ 100 by omega), List.take_of_length_le (show l.length ≤ i by omega)])
      generalize l.length = n at *
      clear hig hil hi
      clear HBI
      have hr := (unhide HV).block (i := 0) rfl
      have hs := (unhide HV).block (i := 1) rfl
      have hx := (unhide HV).block (i := 3) rfl
      have hy := (unhide HV).block (i := 9) rfl
      have n1 : ¬ KX = w.heap.size := fun e => by
        have hx' := hx
        rw [e, hr] at hx'
        cases hx'
      have n2 : ¬ KX = w.heap.size + 1 := fun e => by
        have hx' := hx
        rw [e, hs] at hx'
        cases hx'
      have n3 : ¬ KY = w.heap.size := fun e => by
        have hx' := hy
        rw [e, hr] at hx'
        cases hx'
      have n4 : ¬ KY = w.heap.size + 1 := fun e => by
        have hx' := hy
        rw [e, hs] at hx'
        cases hx'
      have n5 : ¬ w.heap.size = KX := fun e => n1 e.symm
      have n6 : ¬ w.heap.size + 1 = KX := fun e => n2 e.symm
      have n7 : ¬ w.heap.size = KY := fun e => n3 e.symm
      have n8 : ¬ w.heap.size + 1 = KY := fun e => n4 e.symm
      have x0 := cell_of_row _ _ 0 _ _ _ hx
      have x1 := cell_of_row _ _ 1 _ _ _ hx
      have x2 := cell_of_row _ _ 2 _ _ _ hx
      have y0 := cell_of_row _ _ 0 _ _ _ hy
      have y1 := cell_of_row _ _ 1 _ _ _ hy
      have y2 := cell_of_row _ _ 2 _ _ _ hy
      have r0 := cell_of_row _ _ 0 _ _ _ hr
      have r1 := cell_of_row _ _ 1 _ _ _ hr
      have r2 := cell_of_row _ _ 2 _ _ _ hr
      have s0 := cell_of_row _ _ 0 _ _ _ hs
      have s1 := cell_of_row _ _ 1 _ _ _ hs
      have s2 := cell_of_row _ _ 2 _ _ _ hs
      have fr0 := free_row hr 0
      have fr1 := free_row hr 1
      have fr2 := free_row hr 2
      have fs0 := free_row hs 0
      have fs1 := free_row hs 1
      have fs2 := free_row hs 2
      have HRR := hide hr
      have HSS := hide hs
      clear hr hs hx hy
      go_wp2
      have nA : ¬ w.heap.size = w.heap.size + 1 := by omega
      have nB : ¬ w.heap.size + 1 = w.heap.size := by omega
      go_region
      all_goals go_wp2
      have g3 := (unhide HV).lose (i := 0) rfl (run_mod (F := fun k => k = w.heap.size) w.heap.size rfl [.pointer (some ⟨bA, 0, none⟩), .pointer (some ⟨bK, 0, none⟩), .pointer (some ⟨bL, 0, none⟩)] 0 wr)
      have g6 := (g3.lose (i := 1) rfl (run_mod (F := fun k => k = w.heap.size + 1) (w.heap.size + 1) rfl [.pointer (some ⟨bR, 0, none⟩), .pointer (some ⟨bW, 0, none⟩), .pointer (some ⟨bQ, 0, none⟩)] 0 _)).more (Below.refl _ _).drew
      have q1 := run_whole w.heap.size [.pointer (some ⟨bA, 0, none⟩), .pointer (some ⟨bK, 0, none⟩), .pointer (some ⟨bL, 0, none⟩)] wr _ _ (unhide HRR) rfl
      have q2 := run_whole (w.heap.size + 1) [.pointer (some ⟨bR, 0, none⟩), .pointer (some ⟨bW, 0, none⟩), .pointer (some ⟨bQ, 0, none⟩)] _ _ _ ((run_other w.heap.size (w.heap.size + 1) (by omega) [.pointer (some ⟨bA, 0, none⟩), .pointer (some ⟨bK, 0, none⟩), .pointer (some ⟨bL, 0, none⟩)] 0 wr).trans (unhide HSS)) rfl
      have q3 := (run_other (w.heap.size + 1) w.heap.size (by omega) [.pointer (some ⟨bR, 0, none⟩), .pointer (some ⟨bW, 0, none⟩), .pointer (some ⟨bQ, 0, none⟩)] 0 (wr.setCells w.heap.size 0 [.pointer (some ⟨bA, 0, none⟩), .pointer (some ⟨bK, 0, none⟩), .pointer (some ⟨bL, 0, none⟩)])).trans q1
      refine bodyPost_ret (build_ret (p := 2) (q := 3) Tryz.results7 (b1 := w.heap.size) (b2 := w.heap.size + 1) (heap_drew_at q3) (heap_drew_at q2) _ rfl rfl) rfl ⟨bA, bK, bL, bR, bW, bQ, rfl, ?_⟩
      rw [unhide HF]
      refine g6.pick _ [2, 4, 5, 6, 7, 8] (by decide) (fun i o hi => ?_)
      match i, hi with
      | 0, hi => exact ⟨2, rfl, hi⟩
      | 1, hi => exact ⟨4, rfl, hi⟩
      | 2, hi => exact ⟨5, rfl, hi⟩
      | 3, hi => exact ⟨6, rfl, hi⟩
      | 4, hi => exact ⟨7, rfl, hi⟩
      | 5, hi => exact ⟨8, rfl, hi⟩
end Go.Proofs.YtkakncngkmoegaaGreat
