/-
  The law's play: Put. The law's play: Swap. The law's play: any call. The law's entry: two entries with the same element and token are the same.
-/
import Derived.Test.YtabdgmcajndgbaaSBbi
import Derived.Deep.RegionHeld3
import Derived.Test.YtabdgmcajndgbaaSBbj
import Derived.Test.YtabdgmcajndgbaaSBbk
namespace Go.Proofs.Ytabdgmcajndgbaa
open Go.RowKit Go.Sort

section
variable {w wx : World} {bA bR bL bQ : Nat} {ks : List Key} {qs : List EntQ}
set_option maxRecDepth 100000 in
set_option maxHeartbeats 8000000 in
theorem play_5 (h : E4 w wx bA bR bL bQ ks qs) (hg : GoodQ ks qs) (hl : qs.length < 1000000000000) (o : OpM) (hok : OpOk w o) (ho : o.what = 5) : Calls Try.prog 7 #[.pointer (some ⟨bL, 0, none⟩), .pointer (some ⟨bQ, 0, none⟩), .agg o.cells.toArray] wx fun e w' => e = .returned (.bool true) ∧ E4 w w' bA bR bL bQ ks (stepQ ks qs o) := by
  have hst : stepQ ks qs o = putQ ks qs o.n o.a o.tok o.pa o.pc := by unfold stepQ; rw [ho]; rfl
  rw [hst]
  clear hst
  obtain ⟨ow, oa, ob, on, ot, ⟨t0, t1, t2, t3, t4, t5, t6, t7, ta⟩, pa, pc⟩ := o
  obtain ⟨hin, hlo, hfew⟩ := hok
  simp only at *
  subst ho
  simp only [OpM.cells, TokM.cells]
  have hle : (esOf ks qs).length < 1000000000000 := by rw [esOf_len]; exact hl
  have HP : Hid (∀ (W : World) (o3 o4 : Ob w.heap.size), Env w W [arOb _ bA ks, rfOb _ bR ks, liOb _ bL bA (esOf ks qs), o3, o4] → Calls Try.prog 30 #[.pointer (some ⟨bL, 0, none⟩), .int .i64 on, .int .i64 oa, .agg #[.int .i64 t0, .string t1, .string t2, .string t3, .int .i64 t4, .bool t5, .int .i32 t6, .bool t7, .slice pa ta.length pc]] W fun e w' => e = .returned (.int .i64 (putRq ks qs on oa)) ∧ Env w w' [arOb _ bA ks, rfOb _ bR ks, liOb _ bL bA (esOf ks (putQ ks qs on oa ⟨t0, t1, t2, t3, t4, t5, t6, t7, ta⟩ pa pc)), o3, o4]) := hide (fun W o3 o4 hv => by
    have := env_lput hv (i := 0) (j := 2) (bA := bA) (bL := bL) (ks := ks) (es := esOf ks qs) rfl rfl hle on oa ⟨t0, t1, t2, t3, t4, t5, t6, t7, ta⟩ pa pc (hin.below hv.bel) hfew
    rw [(put_of hg on oa ⟨t0, t1, t2, t3, t4, t5, t6, t7, ta⟩ pa pc).1, (put_of hg on oa ⟨t0, t1, t2, t3, t4, t5, t6, t7, ta⟩ pa pc).2] at this
    exact this)
  have HQ : Hid (∀ (W : World) (o2 o4 : Ob w.heap.size), Env w W [arOb _ bA ks, rfOb _ bR ks, o2, qOb w bQ bR qs, o4] → Calls Try.prog 31 #[.pointer (some ⟨bQ, 0, none⟩), .int .i64 on, .int .i64 oa, .agg #[.int .i64 t0, .string t1, .string t2, .string t3, .int .i64 t4, .bool t5, .int .i32 t6, .bool t7, .slice pa ta.length pc]] W fun e w' => e = .returned (.int .i64 (putRq ks qs on oa)) ∧ Env w w' [arOb _ bA ks, rfOb _ bR ks, o2, qOb w bQ bR (putQ ks qs on oa ⟨t0, t1, t2, t3, t4, t5, t6, t7, ta⟩ pa pc), o4]) := hide (fun W o2 o4 hv => env_qput hv (i := 1) (j := 3) (bQ := bQ) (bR := bR) (ks := ks) (qs := qs) rfl rfl hl on oa ⟨t0, t1, t2, t3, t4, t5, t6, t7, ta⟩ pa pc hin hlo)
  have HV0 : Hid (Env w (wx.alloc (.cells #[.int .i64 5, .int .i64 oa, .int .i64 ob, .int .i64 on, .string ot, .int .i64 t0, .string t1, .string t2, .string t3, .int .i64 t4, .bool t5, .int .i32 t6, .bool t7, .slice pa ta.length pc] 39)) [arOb _ bA ks, rfOb _ bR ks, liOb _ bL bA (esOf ks qs), qOb w bQ bR qs, blkOb _ wx.heap.size #[.int .i64 5, .int .i64 oa, .int .i64 ob, .int .i64 on, .string ot, .int .i64 t0, .string t1, .string t2, .string t3, .int .i64 t4, .bool t5, .int .i32 t6, .bool t7, .slice pa ta.length pc] 39]) := hide (Env.boxed (show Env w wx _ from h) #[.int .i64 5, .int .i64 oa, .int .i64 ob, .int .i64 on, .string ot, .int .i64 t0, .string t1, .string t2, .string t3, .int .i64 t4, .bool t5, .int .i32 t6, .bool t7, .slice pa ta.length pc] 39)
  have HC : Hid (∀ (W' : World) (o2 o3 : Ob w.heap.size), Env w W' [arOb _ bA ks, rfOb _ bR ks, o2, o3, blkOb _ wx.heap.size #[.int .i64 5, .int .i64 oa, .int .i64 ob, .int .i64 on, .string ot, .int .i64 t0, .string t1, .string t2, .string t3, .int .i64 t4, .bool t5, .int .i32 t6, .bool t7, .slice pa ta.length pc] 39] → W'.cell? ⟨wx.heap.size, 0, none⟩ = some (.int .i64 5) ∧ W'.cell? ⟨wx.heap.size, 1, none⟩ = some (.int .i64 oa) ∧ W'.cell? ⟨wx.heap.size, 2, none⟩ = some (.int .i64 ob) ∧ W'.cell? ⟨wx.heap.size, 3, none⟩ = some (.int .i64 on) ∧ W'.cell? ⟨wx.heap.size, 4, none⟩ = some (.string ot) ∧ W'.cell? ⟨wx.heap.size, 5, none⟩ = some (.int .i64 t0) ∧ W'.cell? ⟨wx.heap.size, 6, none⟩ = some (.string t1) ∧ W'.cell? ⟨wx.heap.size, 7, none⟩ = some (.string t2) ∧ W'.cell? ⟨wx.heap.size, 8, none⟩ = some (.string t3) ∧ W'.cell? ⟨wx.heap.size, 9, none⟩ = some (.int .i64 t4) ∧ W'.cell? ⟨wx.heap.size, 10, none⟩ = some (.bool t5) ∧ W'.cell? ⟨wx.heap.size, 11, none⟩ = some (.int .i32 t6) ∧ W'.cell? ⟨wx.heap.size, 12, none⟩ = some (.bool t7) ∧ W'.cell? ⟨wx.heap.size, 13, none⟩ = some (.slice pa ta.length pc)) := hide (fun W' o2 o3 hv => by
    have hb := hv.block (i := 4) rfl
    exact ⟨cell_of_row _ _ 0 _ _ _ hb, cell_of_row _ _ 1 _ _ _ hb, cell_of_row _ _ 2 _ _ _ hb, cell_of_row _ _ 3 _ _ _ hb, cell_of_row _ _ 4 _ _ _ hb, cell_of_row _ _ 5 _ _ _ hb, cell_of_row _ _ 6 _ _ _ hb, cell_of_row _ _ 7 _ _ _ hb, cell_of_row _ _ 8 _ _ _ hb, cell_of_row _ _ 9 _ _ _ hb, cell_of_row _ _ 10 _ _ _ hb, cell_of_row _ _ 11 _ _ _ hb, cell_of_row _ _ 12 _ _ _ hb, cell_of_row _ _ 13 _ _ _ hb⟩)
  generalize putRq ks qs on oa = r at *
  generalize hnew : putQ ks qs on oa ⟨t0, t1, t2, t3, t4, t5, t6, t7, ta⟩ pa pc = ps at *
  clear hnew
  clear h hg hl hle hin hlo hfew
  obtain ⟨y0, y1, y2, y3, y4, y5, y6, y7, y8, y9, y10, y11, y12, y13⟩ := (unhide HC) _ _ _ (unhide HV0)
  go_enter Try.func7, Try.ntmps7
  go_wp2
  go_region_held3 (fun W' => W'.cell? ⟨wx.heap.size, 0, none⟩ = some (.int .i64 5) ∧ W'.cell? ⟨wx.heap.size, 1, none⟩ = some (.int .i64 oa) ∧ W'.cell? ⟨wx.heap.size, 2, none⟩ = some (.int .i64 ob) ∧ W'.cell? ⟨wx.heap.size, 3, none⟩ = some (.int .i64 on) ∧ W'.cell? ⟨wx.heap.size, 4, none⟩ = some (.string ot) ∧ W'.cell? ⟨wx.heap.size, 5, none⟩ = some (.int .i64 t0) ∧ W'.cell? ⟨wx.heap.size, 6, none⟩ = some (.string t1) ∧ W'.cell? ⟨wx.heap.size, 7, none⟩ = some (.string t2) ∧ W'.cell? ⟨wx.heap.size, 8, none⟩ = some (.string t3) ∧ W'.cell? ⟨wx.heap.size, 9, none⟩ = some (.int .i64 t4) ∧ W'.cell? ⟨wx.heap.size, 10, none⟩ = some (.bool t5) ∧ W'.cell? ⟨wx.heap.size, 11, none⟩ = some (.int .i32 t6) ∧ W'.cell? ⟨wx.heap.size, 12, none⟩ = some (.bool t7) ∧ W'.cell? ⟨wx.heap.size, 13, none⟩ = some (.slice pa ta.length pc)) (with_reducible (first | exact (unhide HC) _ _ _ (unhide HVF) | exact (unhide HC) _ _ _ ((unhide HVF).more (Below.refl _ _).drew) | exact (unhide HC) _ _ _ ((unhide HVF).more (Below.refl _ _).drew.drew) | exact (unhide HC) _ _ _ (unhide HVQ) | exact (unhide HC) _ _ _ ((unhide HVQ).more (Below.refl _ _).drew) | exact (unhide HC) _ _ _ ((unhide HVQ).more (Below.refl _ _).drew.drew) | exact (unhide HC) _ _ _ (unhide HVP) | exact (unhide HC) _ _ _ ((unhide HVP).more (Below.refl _ _).drew) | exact (unhide HC) _ _ _ ((unhide HVP).more (Below.refl _ _).drew.drew) | exact (unhide HC) _ _ _ (unhide HV0) | exact (unhide HC) _ _ _ ((unhide HV0).more (Below.refl _ _).drew) | exact (unhide HC) _ _ _ ((unhide HV0).more (Below.refl _ _).drew.drew))) (first
    | (go_at_call 30; have _x := unhide HVQ; clear _x; refine ((unhide HP) _ _ _ (by first | exact unhide HVQ | exact (unhide HVQ).more (Below.refl _ _).drew | exact (unhide HVQ).more (Below.refl _ _).drew.drew | exact (unhide HVQ).more (below_dn (Below.refl _ _) _))).mono ?_; rintro e w3 ⟨rfl, hv⟩; have HVF := hide hv; clear hv)
    | (go_at_call 30; refine ((unhide HP) _ _ _ (by first | exact unhide HV0 | exact (unhide HV0).more (Below.refl _ _).drew | exact (unhide HV0).more (Below.refl _ _).drew.drew | exact (unhide HV0).more (below_dn (Below.refl _ _) _))).mono ?_; rintro e w2 ⟨rfl, hv⟩; have HVP := hide hv; clear hv)
    | (go_at_call 31; have _x := unhide HVP; clear _x; refine ((unhide HQ) _ _ _ (by first | exact unhide HVP | exact (unhide HVP).more (Below.refl _ _).drew | exact (unhide HVP).more (Below.refl _ _).drew.drew | exact (unhide HVP).more (below_dn (Below.refl _ _) _))).mono ?_; rintro e w3 ⟨rfl, hv⟩; have HVF := hide hv; clear hv)
    | (go_at_call 31; refine ((unhide HQ) _ _ _ (by first | exact unhide HV0 | exact (unhide HV0).more (Below.refl _ _).drew | exact (unhide HV0).more (Below.refl _ _).drew.drew | exact (unhide HV0).more (below_dn (Below.refl _ _) _))).mono ?_; rintro e w2 ⟨rfl, hv⟩; have HVQ := hide hv; clear hv))
  all_goals go_wp2
  all_goals go_ret
  all_goals exact ⟨by first | rfl | simp, by first | exact e5_four (unhide HVF) | exact e5_four ((unhide HVF).more (Below.refl _ _).drew) | exact e5_four ((unhide HVF).more (Below.refl _ _).drew.drew) | exact e5_four ((unhide HVF).more (below_dn (Below.refl _ _) _))⟩
end
end Go.Proofs.Ytabdgmcajndgbaa

namespace Go.Proofs.Ytabdgmcajndgbaa
open Go.RowKit Go.Sort

section
variable {w wx : World} {bA bR bL bQ : Nat} {ks : List Key} {qs : List EntQ}
set_option maxRecDepth 100000 in
set_option maxHeartbeats 8000000 in
theorem play_6 (h : E4 w wx bA bR bL bQ ks qs) (hg : GoodQ ks qs) (hl : qs.length < 1000000000000) (o : OpM) (hok : OpOk w o) (h0 : ¬ o.what = 0) (h1 : ¬ o.what = 1) (h2 : ¬ o.what = 2) (h3 : ¬ o.what = 3) (h4 : ¬ o.what = 4) (h5 : ¬ o.what = 5) : Calls Try.prog 7 #[.pointer (some ⟨bL, 0, none⟩), .pointer (some ⟨bQ, 0, none⟩), .agg o.cells.toArray] wx fun e w' => e = .returned (.bool true) ∧ E4 w w' bA bR bL bQ ks (stepQ ks qs o) := by
  have hst : stepQ ks qs o = swQ ks qs o.b o.a := by unfold stepQ; rw [if_neg h0, if_neg h1, if_neg h2, if_neg h3, if_neg h4, if_neg h5]
  rw [hst]
  clear hst
  obtain ⟨ow, oa, ob, on, ot, ⟨t0, t1, t2, t3, t4, t5, t6, t7, ta⟩, pa, pc⟩ := o
  obtain ⟨hin, hlo, hfew⟩ := hok
  simp only at *
  have hb0 : (ow == 0) = false := by simpa using h0
  have hb1 : (ow == 1) = false := by simpa using h1
  have hb2 : (ow == 2) = false := by simpa using h2
  have hb3 : (ow == 3) = false := by simpa using h3
  have hb4 : (ow == 4) = false := by simpa using h4
  have hb5 : (ow == 5) = false := by simpa using h5
  simp only [OpM.cells, TokM.cells]
  have hle : (esOf ks qs).length < 1000000000000 := by rw [esOf_len]; exact hl
  have HP : Hid (∀ (W : World) (o3 o4 : Ob w.heap.size), Env w W [arOb _ bA ks, rfOb _ bR ks, liOb _ bL bA (esOf ks qs), o3, o4] → Calls Try.prog 32 #[.pointer (some ⟨bL, 0, none⟩), .int .i64 ob, .int .i64 oa] W fun e w' => e = .returned (.int .i64 (swRq ks qs ob oa)) ∧ Env w w' [arOb _ bA ks, rfOb _ bR ks, liOb _ bL bA (esOf ks (swQ ks qs ob oa)), o3, o4]) := hide (fun W o3 o4 hv => by
    have := env_lswap hv (i := 0) (j := 2) (bA := bA) (bL := bL) (ks := ks) (es := esOf ks qs) rfl rfl hle ob oa
    rw [(sw_of hg ob oa).1, (sw_of hg ob oa).2] at this
    exact this)
  have HQ : Hid (∀ (W : World) (o2 o4 : Ob w.heap.size), Env w W [arOb _ bA ks, rfOb _ bR ks, o2, qOb w bQ bR qs, o4] → Calls Try.prog 33 #[.pointer (some ⟨bQ, 0, none⟩), .int .i64 ob, .int .i64 oa] W fun e w' => e = .returned (.int .i64 (swRq ks qs ob oa)) ∧ Env w w' [arOb _ bA ks, rfOb _ bR ks, o2, qOb w bQ bR (swQ ks qs ob oa), o4]) := hide (fun W o2 o4 hv => env_qswap hv (i := 1) (j := 3) (bQ := bQ) (bR := bR) (ks := ks) (qs := qs) rfl rfl hl ob oa)
  have HV0 : Hid (Env w (wx.alloc (.cells #[.int .i64 ow, .int .i64 oa, .int .i64 ob, .int .i64 on, .string ot, .int .i64 t0, .string t1, .string t2, .string t3, .int .i64 t4, .bool t5, .int .i32 t6, .bool t7, .slice pa ta.length pc] 39)) [arOb _ bA ks, rfOb _ bR ks, liOb _ bL bA (esOf ks qs), qOb w bQ bR qs, blkOb _ wx.heap.size #[.int .i64 ow, .int .i64 oa, .int .i64 ob, .int .i64 on, .string ot, .int .i64 t0, .string t1, .string t2, .string t3, .int .i64 t4, .bool t5, .int .i32 t6, .bool t7, .slice pa ta.length pc] 39]) := hide (Env.boxed (show Env w wx _ from h) #[.int .i64 ow, .int .i64 oa, .int .i64 ob, .int .i64 on, .string ot, .int .i64 t0, .string t1, .string t2, .string t3, .int .i64 t4, .bool t5, .int .i32 t6, .bool t7, .slice pa ta.length pc] 39)
  have HC : Hid (∀ (W' : World) (o2 o3 : Ob w.heap.size), Env w W' [arOb _ bA ks, rfOb _ bR ks, o2, o3, blkOb _ wx.heap.size #[.int .i64 ow, .int .i64 oa, .int .i64 ob, .int .i64 on, .string ot, .int .i64 t0, .string t1, .string t2, .string t3, .int .i64 t4, .bool t5, .int .i32 t6, .bool t7, .slice pa ta.length pc] 39] → W'.cell? ⟨wx.heap.size, 0, none⟩ = some (.int .i64 ow) ∧ W'.cell? ⟨wx.heap.size, 1, none⟩ = some (.int .i64 oa) ∧ W'.cell? ⟨wx.heap.size, 2, none⟩ = some (.int .i64 ob) ∧ W'.cell? ⟨wx.heap.size, 3, none⟩ = some (.int .i64 on) ∧ W'.cell? ⟨wx.heap.size, 4, none⟩ = some (.string ot) ∧ W'.cell? ⟨wx.heap.size, 5, none⟩ = some (.int .i64 t0) ∧ W'.cell? ⟨wx.heap.size, 6, none⟩ = some (.string t1) ∧ W'.cell? ⟨wx.heap.size, 7, none⟩ = some (.string t2) ∧ W'.cell? ⟨wx.heap.size, 8, none⟩ = some (.string t3) ∧ W'.cell? ⟨wx.heap.size, 9, none⟩ = some (.int .i64 t4) ∧ W'.cell? ⟨wx.heap.size, 10, none⟩ = some (.bool t5) ∧ W'.cell? ⟨wx.heap.size, 11, none⟩ = some (.int .i32 t6) ∧ W'.cell? ⟨wx.heap.size, 12, none⟩ = some (.bool t7) ∧ W'.cell? ⟨wx.heap.size, 13, none⟩ = some (.slice pa ta.length pc)) := hide (fun W' o2 o3 hv => by
    have hb := hv.block (i := 4) rfl
    exact ⟨cell_of_row _ _ 0 _ _ _ hb, cell_of_row _ _ 1 _ _ _ hb, cell_of_row _ _ 2 _ _ _ hb, cell_of_row _ _ 3 _ _ _ hb, cell_of_row _ _ 4 _ _ _ hb, cell_of_row _ _ 5 _ _ _ hb, cell_of_row _ _ 6 _ _ _ hb, cell_of_row _ _ 7 _ _ _ hb, cell_of_row _ _ 8 _ _ _ hb, cell_of_row _ _ 9 _ _ _ hb, cell_of_row _ _ 10 _ _ _ hb, cell_of_row _ _ 11 _ _ _ hb, cell_of_row _ _ 12 _ _ _ hb, cell_of_row _ _ 13 _ _ _ hb⟩)
  generalize swRq ks qs ob oa = r at *
  generalize hnew : swQ ks qs ob oa = ps at *
  clear hnew
  clear h hg hl hle hin hlo hfew h0 h1 h2 h3 h4 h5
  obtain ⟨y0, y1, y2, y3, y4, y5, y6, y7, y8, y9, y10, y11, y12, y13⟩ := (unhide HC) _ _ _ (unhide HV0)
  go_enter Try.func7, Try.ntmps7
  go_wp2
  go_region_held3 (fun W' => W'.cell? ⟨wx.heap.size, 0, none⟩ = some (.int .i64 ow) ∧ W'.cell? ⟨wx.heap.size, 1, none⟩ = some (.int .i64 oa) ∧ W'.cell? ⟨wx.heap.size, 2, none⟩ = some (.int .i64 ob) ∧ W'.cell? ⟨wx.heap.size, 3, none⟩ = some (.int .i64 on) ∧ W'.cell? ⟨wx.heap.size, 4, none⟩ = some (.string ot) ∧ W'.cell? ⟨wx.heap.size, 5, none⟩ = some (.int .i64 t0) ∧ W'.cell? ⟨wx.heap.size, 6, none⟩ = some (.string t1) ∧ W'.cell? ⟨wx.heap.size, 7, none⟩ = some (.string t2) ∧ W'.cell? ⟨wx.heap.size, 8, none⟩ = some (.string t3) ∧ W'.cell? ⟨wx.heap.size, 9, none⟩ = some (.int .i64 t4) ∧ W'.cell? ⟨wx.heap.size, 10, none⟩ = some (.bool t5) ∧ W'.cell? ⟨wx.heap.size, 11, none⟩ = some (.int .i32 t6) ∧ W'.cell? ⟨wx.heap.size, 12, none⟩ = some (.bool t7) ∧ W'.cell? ⟨wx.heap.size, 13, none⟩ = some (.slice pa ta.length pc)) (with_reducible (first | exact (unhide HC) _ _ _ (unhide HVF) | exact (unhide HC) _ _ _ ((unhide HVF).more (Below.refl _ _).drew) | exact (unhide HC) _ _ _ ((unhide HVF).more (Below.refl _ _).drew.drew) | exact (unhide HC) _ _ _ (unhide HVQ) | exact (unhide HC) _ _ _ ((unhide HVQ).more (Below.refl _ _).drew) | exact (unhide HC) _ _ _ ((unhide HVQ).more (Below.refl _ _).drew.drew) | exact (unhide HC) _ _ _ (unhide HVP) | exact (unhide HC) _ _ _ ((unhide HVP).more (Below.refl _ _).drew) | exact (unhide HC) _ _ _ ((unhide HVP).more (Below.refl _ _).drew.drew) | exact (unhide HC) _ _ _ (unhide HV0) | exact (unhide HC) _ _ _ ((unhide HV0).more (Below.refl _ _).drew) | exact (unhide HC) _ _ _ ((unhide HV0).more (Below.refl _ _).drew.drew))) (first
    | (go_at_call 32; have _x := unhide HVQ; clear _x; refine ((unhide HP) _ _ _ (by first | exact unhide HVQ | exact (unhide HVQ).more (Below.refl _ _).drew | exact (unhide HVQ).more (Below.refl _ _).drew.drew | exact (unhide HVQ).more (below_dn (Below.refl _ _) _))).mono ?_; rintro e w3 ⟨rfl, hv⟩; have HVF := hide hv; clear hv)
    | (go_at_call 32; refine ((unhide HP) _ _ _ (by first | exact unhide HV0 | exact (unhide HV0).more (Below.refl _ _).drew | exact (unhide HV0).more (Below.refl _ _).drew.drew | exact (unhide HV0).more (below_dn (Below.refl _ _) _))).mono ?_; rintro e w2 ⟨rfl, hv⟩; have HVP := hide hv; clear hv)
    | (go_at_call 33; have _x := unhide HVP; clear _x; refine ((unhide HQ) _ _ _ (by first | exact unhide HVP | exact (unhide HVP).more (Below.refl _ _).drew | exact (unhide HVP).more (Below.refl _ _).drew.drew | exact (unhide HVP).more (below_dn (Below.refl _ _) _))).mono ?_; rintro e w3 ⟨rfl, hv⟩; have HVF := hide hv; clear hv)
    | (go_at_call 33; refine ((unhide HQ) _ _ _ (by first | exact unhide HV0 | exact (unhide HV0).more (Below.refl _ _).drew | exact (unhide HV0).more (Below.refl _ _).drew.drew | exact (unhide HV0).more (below_dn (Below.refl _ _) _))).mono ?_; rintro e w2 ⟨rfl, hv⟩; have HVQ := hide hv; clear hv))
  all_goals go_wp2
  all_goals go_ret
  all_goals exact ⟨by first | rfl | simp, by first | exact e5_four (unhide HVF) | exact e5_four ((unhide HVF).more (Below.refl _ _).drew) | exact e5_four ((unhide HVF).more (Below.refl _ _).drew.drew) | exact e5_four ((unhide HVF).more (below_dn (Below.refl _ _) _))⟩
end
end Go.Proofs.Ytabdgmcajndgbaa

namespace Go.Proofs.Ytabdgmcajndgbaa
open Go.RowKit Go.Sort

section
variable {w wx : World} {bA bR bL bQ : Nat} {ks : List Key} {qs : List EntQ}
theorem play_any (h : E4 w wx bA bR bL bQ ks qs) (hg : GoodQ ks qs) (hl : qs.length < 1000000000000) (o : OpM) (hok : OpOk w o) : Calls Try.prog 7 #[.pointer (some ⟨bL, 0, none⟩), .pointer (some ⟨bQ, 0, none⟩), .agg o.cells.toArray] wx fun e w' => e = .returned (.bool true) ∧ E4 w w' bA bR bL bQ ks (stepQ ks qs o) := by
  by_cases h0 : o.what = 0
  · exact play_0 h hg hl o hok h0
  by_cases h1 : o.what = 1
  · exact play_1 h hg hl o hok h1
  by_cases h2 : o.what = 2
  · exact play_2 h hg hl o hok h2
  by_cases h3 : o.what = 3
  · exact play_3 h hg hl o hok h3
  by_cases h4 : o.what = 4
  · exact play_4 h hg hl o hok h4
  by_cases h5 : o.what = 5
  · exact play_5 h hg hl o hok h5
  exact play_6 h hg hl o hok h0 h1 h2 h3 h4 h5
end
end Go.Proofs.Ytabdgmcajndgbaa

namespace Go.Proofs.Ytabdgmcajndgbaa
open Go.RowKit Go.Sort

set_option maxRecDepth 100000 in
set_option maxHeartbeats 4000000 in
theorem entry_any (w : World) (nd : Int) (t : TokM) (a1 a2 : Option Addr) (c1 c2 : Nat) (h1 : AttrsIn w a1 t.attrs) (h2 : AttrsIn w a2 t.attrs) (hn : t.attrs.length ≤ 2513169434916) : Calls Try.prog 13 #[.agg (Value.int .i64 nd :: t.cells (.slice a1 t.attrs.length c1)).toArray, .agg (Value.int .i64 nd :: t.cells (.slice a2 t.attrs.length c2)).toArray] w fun e w' => e = .returned (.bool true) ∧ Below w.heap.size w w' := by
  obtain ⟨t0, t1, t2, t3, t4, t5, t6, t7, ta⟩ := t
  simp only at h1 h2 hn
  simp only [TokM.cells]
  have H1 := hide (fun W (hb : Below w.heap.size w W) => h1.below hb)
  have H2 := hide (fun W (hb : Below w.heap.size w W) => h2.below hb)
  have hnz : (ta.length : Int) ≤ 2513169434916 := by omega
  have HEK := hide (Ek.start w (.cells #[.int .i64 nd, .int .i64 t0, .string t1, .string t2, .string t3, .int .i64 t4, .bool t5, .int .i32 t6, .bool t7, .slice a1 ta.length c1] 46) (.cells #[.int .i64 nd, .int .i64 t0, .string t1, .string t2, .string t3, .int .i64 t4, .bool t5, .int .i32 t6, .bool t7, .slice a2 ta.length c2] 46))
  obtain ⟨x0, x1, x2, x3, x4, x5, x6, x7, x8, x9, _⟩ := ten (unhide HEK).x
  obtain ⟨y0, y1, y2, y3, y4, y5, y6, y7, y8, y9, _⟩ := ten (unhide HEK).y
  clear h1 h2 hn
  go_enter Try.func13, Try.ntmps13
  go_wp2
  go_loopg [5] ta.length (fun g s5 wr => ∃ i : Nat, i + g = ta.length ∧ s5 = .int .i64 (i : Int) ∧ Ek w (.cells #[.int .i64 nd, .int .i64 t0, .string t1, .string t2, .string t3, .int .i64 t4, .bool t5, .int .i32 t6, .bool t7, .slice a1 ta.length c1] 46) (.cells #[.int .i64 nd, .int .i64 t0, .string t1, .string t2, .string t3, .int .i64 t4, .bool t5, .int .i32 t6, .bool t7, .slice a2 ta.length c2] 46) wr)
  case atStart => exact ⟨0, by omega, rfl, unhide HEK⟩
  case round =>
    obtain ⟨i, hig, rfl, hek⟩ := hrel
    clear x0 x1 x2 x3 x4 x5 x6 x7 x8 x9 y0 y1 y2 y3 y4 y5 y6 y7 y8 y9
    have HE := hide hek
    have x9 := cell_of_row _ _ 9 _ _ _ hek.x
    have y9 := cell_of_row _ _ 9 _ _ _ hek.y
    by_cases hi : i < ta.length
    · obtain ⟨y, hy⟩ : ∃ y, ta[i]? = some y := ⟨_, List.getElem?_eq_getElem hi⟩
      obtain ⟨b1, o1, rfl, a0, a1', a2', a3⟩ := ((unhide H1) _ hek.bel).cells i _ hy
      obtain ⟨b2, o2, rfl, d0, d1, d2, d3⟩ := ((unhide H2) _ hek.bel).cells i _ hy
      have hiz : (i : Int) < (ta.length : Int) := by omega
      have hg := guardA
      have hq := fun W => neqAttr y y W
      rw [eqA_iff.2 rfl] at hq
      have HIG := hide hig
      have HHI := hide hi
      clear hek hy hig hi
      go_wp2
      go_quiet (fail)
      go_wp2
      go_roundg (gk - 1)
      case measure => have := unhide HIG; have := unhide HHI; omega
      case rel => exact ⟨i + 1, by have := unhide HIG; have := unhide HHI; omega, by go_num, (unhide HE).more (below_dn (Below.refl _ _) _)⟩
    · have hiz : ¬ (i : Int) < (ta.length : Int) := by omega
      clear hek hig hi
      go_wp2
      go_ret
      exact ⟨rfl, (unhide HE).bel⟩
end Go.Proofs.Ytabdgmcajndgbaa
