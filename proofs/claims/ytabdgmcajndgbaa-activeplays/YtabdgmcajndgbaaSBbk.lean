/-
  The law's play: Last. The law's play: Remove.
-/
import Derived.Test.YtabdgmcajndgbaaSBbi
import Derived.Deep.RegionHeld3
namespace Go.Proofs.Ytabdgmcajndgbaa
open Go.RowKit Go.Sort

section
variable {w wx : World} {bA bR bL bQ : Nat} {ks : List Key} {qs : List EntQ}
set_option maxRecDepth 100000 in
set_option maxHeartbeats 8000000 in
theorem play_3 (h : E4 w wx bA bR bL bQ ks qs) (hg : GoodQ ks qs) (hl : qs.length < 1000000000000) (o : OpM) (hok : OpOk w o) (ho : o.what = 3) : Calls Try.prog 7 #[.pointer (some ⟨bL, 0, none⟩), .pointer (some ⟨bQ, 0, none⟩), .agg o.cells.toArray] wx fun e w' => e = .returned (.bool true) ∧ E4 w w' bA bR bL bQ ks (stepQ ks qs o) := by
  have hst : stepQ ks qs o = qs := by unfold stepQ; rw [ho]; rfl
  rw [hst]
  clear hst
  obtain ⟨ow, oa, ob, on, ot, ⟨t0, t1, t2, t3, t4, t5, t6, t7, ta⟩, pa, pc⟩ := o
  obtain ⟨hin, hlo, hfew⟩ := hok
  simp only at *
  subst ho
  simp only [OpM.cells, TokM.cells]
  have hle : (esOf ks qs).length < 1000000000000 := by rw [esOf_len]; exact hl
  have HP : Hid (∀ (W : World) (o3 o4 : Ob w.heap.size), Env w W [arOb _ bA ks, rfOb _ bR ks, liOb _ bL bA (esOf ks qs), o3, o4] → Calls Try.prog 26 #[.pointer (some ⟨bL, 0, none⟩), .string ot] W fun e w' => e = .returned (.int .i64 (lastQ ks ot qs qs.length)) ∧ Env w w' [arOb _ bA ks, rfOb _ bR ks, liOb _ bL bA (esOf ks (qs)), o3, o4]) := hide (fun W o3 o4 hv => by
    have := env_llast hv (j := 2) (bL := bL) (bA := bA) (es := esOf ks qs) rfl hle ot
    rw [esOf_len, last_of hg ot _ (Nat.le_refl _)] at this
    exact this)
  have HQ : Hid (∀ (W : World) (o2 o4 : Ob w.heap.size), Env w W [arOb _ bA ks, rfOb _ bR ks, o2, qOb w bQ bR qs, o4] → Calls Try.prog 27 #[.pointer (some ⟨bQ, 0, none⟩), .string ot] W fun e w' => e = .returned (.int .i64 (lastQ ks ot qs qs.length)) ∧ Env w w' [arOb _ bA ks, rfOb _ bR ks, o2, qOb w bQ bR (qs), o4]) := hide (fun W o2 o4 hv => env_qlast hv (i := 1) (j := 3) (bQ := bQ) (bR := bR) (ks := ks) (qs := qs) rfl rfl hl hg.ok ot)
  have HV0 : Hid (Env w (wx.alloc (.cells #[.int .i64 3, .int .i64 oa, .int .i64 ob, .int .i64 on, .string ot, .int .i64 t0, .string t1, .string t2, .string t3, .int .i64 t4, .bool t5, .int .i32 t6, .bool t7, .slice pa ta.length pc] 39)) [arOb _ bA ks, rfOb _ bR ks, liOb _ bL bA (esOf ks qs), qOb w bQ bR qs, blkOb _ wx.heap.size #[.int .i64 3, .int .i64 oa, .int .i64 ob, .int .i64 on, .string ot, .int .i64 t0, .string t1, .string t2, .string t3, .int .i64 t4, .bool t5, .int .i32 t6, .bool t7, .slice pa ta.length pc] 39]) := hide (Env.boxed (show Env w wx _ from h) #[.int .i64 3, .int .i64 oa, .int .i64 ob, .int .i64 on, .string ot, .int .i64 t0, .string t1, .string t2, .string t3, .int .i64 t4, .bool t5, .int .i32 t6, .bool t7, .slice pa ta.length pc] 39)
  have HC : Hid (∀ (W' : World) (o2 o3 : Ob w.heap.size), Env w W' [arOb _ bA ks, rfOb _ bR ks, o2, o3, blkOb _ wx.heap.size #[.int .i64 3, .int .i64 oa, .int .i64 ob, .int .i64 on, .string ot, .int .i64 t0, .string t1, .string t2, .string t3, .int .i64 t4, .bool t5, .int .i32 t6, .bool t7, .slice pa ta.length pc] 39] → W'.cell? ⟨wx.heap.size, 0, none⟩ = some (.int .i64 3) ∧ W'.cell? ⟨wx.heap.size, 1, none⟩ = some (.int .i64 oa) ∧ W'.cell? ⟨wx.heap.size, 2, none⟩ = some (.int .i64 ob) ∧ W'.cell? ⟨wx.heap.size, 3, none⟩ = some (.int .i64 on) ∧ W'.cell? ⟨wx.heap.size, 4, none⟩ = some (.string ot) ∧ W'.cell? ⟨wx.heap.size, 5, none⟩ = some (.int .i64 t0) ∧ W'.cell? ⟨wx.heap.size, 6, none⟩ = some (.string t1) ∧ W'.cell? ⟨wx.heap.size, 7, none⟩ = some (.string t2) ∧ W'.cell? ⟨wx.heap.size, 8, none⟩ = some (.string t3) ∧ W'.cell? ⟨wx.heap.size, 9, none⟩ = some (.int .i64 t4) ∧ W'.cell? ⟨wx.heap.size, 10, none⟩ = some (.bool t5) ∧ W'.cell? ⟨wx.heap.size, 11, none⟩ = some (.int .i32 t6) ∧ W'.cell? ⟨wx.heap.size, 12, none⟩ = some (.bool t7) ∧ W'.cell? ⟨wx.heap.size, 13, none⟩ = some (.slice pa ta.length pc)) := hide (fun W' o2 o3 hv => by
    have hb := hv.block (i := 4) rfl
    exact ⟨cell_of_row _ _ 0 _ _ _ hb, cell_of_row _ _ 1 _ _ _ hb, cell_of_row _ _ 2 _ _ _ hb, cell_of_row _ _ 3 _ _ _ hb, cell_of_row _ _ 4 _ _ _ hb, cell_of_row _ _ 5 _ _ _ hb, cell_of_row _ _ 6 _ _ _ hb, cell_of_row _ _ 7 _ _ _ hb, cell_of_row _ _ 8 _ _ _ hb, cell_of_row _ _ 9 _ _ _ hb, cell_of_row _ _ 10 _ _ _ hb, cell_of_row _ _ 11 _ _ _ hb, cell_of_row _ _ 12 _ _ _ hb, cell_of_row _ _ 13 _ _ _ hb⟩)
  generalize lastQ ks ot qs qs.length = r at *
  clear h hg hl hle hin hlo hfew
  obtain ⟨y0, y1, y2, y3, y4, y5, y6, y7, y8, y9, y10, y11, y12, y13⟩ := (unhide HC) _ _ _ (unhide HV0)
  go_enter Try.func7, Try.ntmps7
  go_wp2
  go_region_held3 (fun W' => W'.cell? ⟨wx.heap.size, 0, none⟩ = some (.int .i64 3) ∧ W'.cell? ⟨wx.heap.size, 1, none⟩ = some (.int .i64 oa) ∧ W'.cell? ⟨wx.heap.size, 2, none⟩ = some (.int .i64 ob) ∧ W'.cell? ⟨wx.heap.size, 3, none⟩ = some (.int .i64 on) ∧ W'.cell? ⟨wx.heap.size, 4, none⟩ = some (.string ot) ∧ W'.cell? ⟨wx.heap.size, 5, none⟩ = some (.int .i64 t0) ∧ W'.cell? ⟨wx.heap.size, 6, none⟩ = some (.string t1) ∧ W'.cell? ⟨wx.heap.size, 7, none⟩ = some (.string t2) ∧ W'.cell? ⟨wx.heap.size, 8, none⟩ = some (.string t3) ∧ W'.cell? ⟨wx.heap.size, 9, none⟩ = some (.int .i64 t4) ∧ W'.cell? ⟨wx.heap.size, 10, none⟩ = some (.bool t5) ∧ W'.cell? ⟨wx.heap.size, 11, none⟩ = some (.int .i32 t6) ∧ W'.cell? ⟨wx.heap.size, 12, none⟩ = some (.bool t7) ∧ W'.cell? ⟨wx.heap.size, 13, none⟩ = some (.slice pa ta.length pc)) (with_reducible (first | exact (unhide HC) _ _ _ (unhide HVF) | exact (unhide HC) _ _ _ ((unhide HVF).more (Below.refl _ _).drew) | exact (unhide HC) _ _ _ ((unhide HVF).more (Below.refl _ _).drew.drew) | exact (unhide HC) _ _ _ (unhide HVQ) | exact (unhide HC) _ _ _ ((unhide HVQ).more (Below.refl _ _).drew) | exact (unhide HC) _ _ _ ((unhide HVQ).more (Below.refl _ _).drew.drew) | exact (unhide HC) _ _ _ (unhide HVP) | exact (unhide HC) _ _ _ ((unhide HVP).more (Below.refl _ _).drew) | exact (unhide HC) _ _ _ ((unhide HVP).more (Below.refl _ _).drew.drew) | exact (unhide HC) _ _ _ (unhide HV0) | exact (unhide HC) _ _ _ ((unhide HV0).more (Below.refl _ _).drew) | exact (unhide HC) _ _ _ ((unhide HV0).more (Below.refl _ _).drew.drew))) (first
    | (go_at_call 26; have _x := unhide HVQ; clear _x; refine ((unhide HP) _ _ _ (by first | exact unhide HVQ | exact (unhide HVQ).more (Below.refl _ _).drew | exact (unhide HVQ).more (Below.refl _ _).drew.drew | exact (unhide HVQ).more (below_dn (Below.refl _ _) _))).mono ?_; rintro e w3 ⟨rfl, hv⟩; have HVF := hide hv; clear hv)
    | (go_at_call 26; refine ((unhide HP) _ _ _ (by first | exact unhide HV0 | exact (unhide HV0).more (Below.refl _ _).drew | exact (unhide HV0).more (Below.refl _ _).drew.drew | exact (unhide HV0).more (below_dn (Below.refl _ _) _))).mono ?_; rintro e w2 ⟨rfl, hv⟩; have HVP := hide hv; clear hv)
    | (go_at_call 27; have _x := unhide HVP; clear _x; refine ((unhide HQ) _ _ _ (by first | exact unhide HVP | exact (unhide HVP).more (Below.refl _ _).drew | exact (unhide HVP).more (Below.refl _ _).drew.drew | exact (unhide HVP).more (below_dn (Below.refl _ _) _))).mono ?_; rintro e w3 ⟨rfl, hv⟩; have HVF := hide hv; clear hv)
    | (go_at_call 27; refine ((unhide HQ) _ _ _ (by first | exact unhide HV0 | exact (unhide HV0).more (Below.refl _ _).drew | exact (unhide HV0).more (Below.refl _ _).drew.drew | exact (unhide HV0).more (below_dn (Below.refl _ _) _))).mono ?_; rintro e w2 ⟨rfl, hv⟩; have HVQ := hide hv; clear hv))
  all_goals go_wp2
  all_goals go_ret
  all_goals exact ⟨by first | rfl | simp, by first | exact e5_four (unhide HVF) | exact e5_four ((unhide HVF).more (Below.refl _ _).drew) | exact e5_four ((unhide HVF).more (Below.refl _ _).drew.drew) | exact e5_four ((unhide HVF).more (below_dn (Below.refl _ _) _))⟩
end
end Go.Proofs.Ytabdgmcajndgbaa

namespace Go.Proofs.Ytabdgmcajndgbaa
open Go.RowKit Go.Sort

section
variable {w wx : World} {bA bR bL bQ : Nat} {ks : List Key} {qs : List EntQ}
set_option maxRecDepth 100000 in
set_option maxHeartbeats 8000000 in
theorem play_4 (h : E4 w wx bA bR bL bQ ks qs) (hg : GoodQ ks qs) (hl : qs.length < 1000000000000) (o : OpM) (hok : OpOk w o) (ho : o.what = 4) : Calls Try.prog 7 #[.pointer (some ⟨bL, 0, none⟩), .pointer (some ⟨bQ, 0, none⟩), .agg o.cells.toArray] wx fun e w' => e = .returned (.bool true) ∧ E4 w w' bA bR bL bQ ks (stepQ ks qs o) := by
  have hst : stepQ ks qs o = remQ qs o.a := by unfold stepQ; rw [ho]; rfl
  rw [hst]
  clear hst
  obtain ⟨ow, oa, ob, on, ot, ⟨t0, t1, t2, t3, t4, t5, t6, t7, ta⟩, pa, pc⟩ := o
  obtain ⟨hin, hlo, hfew⟩ := hok
  simp only at *
  subst ho
  simp only [OpM.cells, TokM.cells]
  have hle : (esOf ks qs).length < 1000000000000 := by rw [esOf_len]; exact hl
  have HP : Hid (∀ (W : World) (o3 o4 : Ob w.heap.size), Env w W [arOb _ bA ks, rfOb _ bR ks, liOb _ bL bA (esOf ks qs), o3, o4] → Calls Try.prog 28 #[.pointer (some ⟨bL, 0, none⟩), .int .i64 oa] W fun e w' => e = .returned (.int .i64 (remR qs oa)) ∧ Env w w' [arOb _ bA ks, rfOb _ bR ks, liOb _ bL bA (esOf ks (remQ qs oa)), o3, o4]) := hide (fun W o3 o4 hv => by
    have := env_lremove hv (j := 2) (bL := bL) (bA := bA) (es := esOf ks qs) rfl hle oa
    rw [(rem_of hg oa).1, (rem_of hg oa).2] at this
    exact this)
  have HQ : Hid (∀ (W : World) (o2 o4 : Ob w.heap.size), Env w W [arOb _ bA ks, rfOb _ bR ks, o2, qOb w bQ bR qs, o4] → Calls Try.prog 29 #[.pointer (some ⟨bQ, 0, none⟩), .int .i64 oa] W fun e w' => e = .returned (.int .i64 (remR qs oa)) ∧ Env w w' [arOb _ bA ks, rfOb _ bR ks, o2, qOb w bQ bR (remQ qs oa), o4]) := hide (fun W o2 o4 hv => env_qrem hv (j := 3) (bQ := bQ) (bR := bR) (qs := qs) rfl hl oa)
  have HV0 : Hid (Env w (wx.alloc (.cells #[.int .i64 4, .int .i64 oa, .int .i64 ob, .int .i64 on, .string ot, .int .i64 t0, .string t1, .string t2, .string t3, .int .i64 t4, .bool t5, .int .i32 t6, .bool t7, .slice pa ta.length pc] 39)) [arOb _ bA ks, rfOb _ bR ks, liOb _ bL bA (esOf ks qs), qOb w bQ bR qs, blkOb _ wx.heap.size #[.int .i64 4, .int .i64 oa, .int .i64 ob, .int .i64 on, .string ot, .int .i64 t0, .string t1, .string t2, .string t3, .int .i64 t4, .bool t5, .int .i32 t6, .bool t7, .slice pa ta.length pc] 39]) := hide (Env.boxed (show Env w wx _ from h) #[.int .i64 4, .int .i64 oa, .int .i64 ob, .int .i64 on, .string ot, .int .i64 t0, .string t1, .string t2, .string t3, .int .i64 t4, .bool t5, .int .i32 t6, .bool t7, .slice pa ta.length pc] 39)
  have HC : Hid (∀ (W' : World) (o2 o3 : Ob w.heap.size), Env w W' [arOb _ bA ks, rfOb _ bR ks, o2, o3, blkOb _ wx.heap.size #[.int .i64 4, .int .i64 oa, .int .i64 ob, .int .i64 on, .string ot, .int .i64 t0, .string t1, .string t2, .string t3, .int .i64 t4, .bool t5, .int .i32 t6, .bool t7, .slice pa ta.length pc] 39] → W'.cell? ⟨wx.heap.size, 0, none⟩ = some (.int .i64 4) ∧ W'.cell? ⟨wx.heap.size, 1, none⟩ = some (.int .i64 oa) ∧ W'.cell? ⟨wx.heap.size, 2, none⟩ = some (.int .i64 ob) ∧ W'.cell? ⟨wx.heap.size, 3, none⟩ = some (.int .i64 on) ∧ W'.cell? ⟨wx.heap.size, 4, none⟩ = some (.string ot) ∧ W'.cell? ⟨wx.heap.size, 5, none⟩ = some (.int .i64 t0) ∧ W'.cell? ⟨wx.heap.size, 6, none⟩ = some (.string t1) ∧ W'.cell? ⟨wx.heap.size, 7, none⟩ = some (.string t2) ∧ W'.cell? ⟨wx.heap.size, 8, none⟩ = some (.string t3) ∧ W'.cell? ⟨wx.heap.size, 9, none⟩ = some (.int .i64 t4) ∧ W'.cell? ⟨wx.heap.size, 10, none⟩ = some (.bool t5) ∧ W'.cell? ⟨wx.heap.size, 11, none⟩ = some (.int .i32 t6) ∧ W'.cell? ⟨wx.heap.size, 12, none⟩ = some (.bool t7) ∧ W'.cell? ⟨wx.heap.size, 13, none⟩ = some (.slice pa ta.length pc)) := hide (fun W' o2 o3 hv => by
    have hb := hv.block (i := 4) rfl
    exact ⟨cell_of_row _ _ 0 _ _ _ hb, cell_of_row _ _ 1 _ _ _ hb, cell_of_row _ _ 2 _ _ _ hb, cell_of_row _ _ 3 _ _ _ hb, cell_of_row _ _ 4 _ _ _ hb, cell_of_row _ _ 5 _ _ _ hb, cell_of_row _ _ 6 _ _ _ hb, cell_of_row _ _ 7 _ _ _ hb, cell_of_row _ _ 8 _ _ _ hb, cell_of_row _ _ 9 _ _ _ hb, cell_of_row _ _ 10 _ _ _ hb, cell_of_row _ _ 11 _ _ _ hb, cell_of_row _ _ 12 _ _ _ hb, cell_of_row _ _ 13 _ _ _ hb⟩)
  generalize remR qs oa = r at *
  generalize hnew : remQ qs oa = ps at *
  clear hnew
  clear h hg hl hle hin hlo hfew
  obtain ⟨y0, y1, y2, y3, y4, y5, y6, y7, y8, y9, y10, y11, y12, y13⟩ := (unhide HC) _ _ _ (unhide HV0)
  go_enter Try.func7, Try.ntmps7
  go_wp2
  go_region_held3 (fun W' => W'.cell? ⟨wx.heap.size, 0, none⟩ = some (.int .i64 4) ∧ W'.cell? ⟨wx.heap.size, 1, none⟩ = some (.int .i64 oa) ∧ W'.cell? ⟨wx.heap.size, 2, none⟩ = some (.int .i64 ob) ∧ W'.cell? ⟨wx.heap.size, 3, none⟩ = some (.int .i64 on) ∧ W'.cell? ⟨wx.heap.size, 4, none⟩ = some (.string ot) ∧ W'.cell? ⟨wx.heap.size, 5, none⟩ = some (.int .i64 t0) ∧ W'.cell? ⟨wx.heap.size, 6, none⟩ = some (.string t1) ∧ W'.cell? ⟨wx.heap.size, 7, none⟩ = some (.string t2) ∧ W'.cell? ⟨wx.heap.size, 8, none⟩ = some (.string t3) ∧ W'.cell? ⟨wx.heap.size, 9, none⟩ = some (.int .i64 t4) ∧ W'.cell? ⟨wx.heap.size, 10, none⟩ = some (.bool t5) ∧ W'.cell? ⟨wx.heap.size, 11, none⟩ = some (.int .i32 t6) ∧ W'.cell? ⟨wx.heap.size, 12, none⟩ = some (.bool t7) ∧ W'.cell? ⟨wx.heap.size, 13, none⟩ = some (.slice pa ta.length pc)) (with_reducible (first | exact (unhide HC) _ _ _ (unhide HVF) | exact (unhide HC) _ _ _ ((unhide HVF).more (Below.refl _ _).drew) | exact (unhide HC) _ _ _ ((unhide HVF).more (Below.refl _ _).drew.drew) | exact (unhide HC) _ _ _ (unhide HVQ) | exact (unhide HC) _ _ _ ((unhide HVQ).more (Below.refl _ _).drew) | exact (unhide HC) _ _ _ ((unhide HVQ).more (Below.refl _ _).drew.drew) | exact (unhide HC) _ _ _ (unhide HVP) | exact (unhide HC) _ _ _ ((unhide HVP).more (Below.refl _ _).drew) | exact (unhide HC) _ _ _ ((unhide HVP).more (Below.refl _ _).drew.drew) | exact (unhide HC) _ _ _ (unhide HV0) | exact (unhide HC) _ _ _ ((unhide HV0).more (Below.refl _ _).drew) | exact (unhide HC) _ _ _ ((unhide HV0).more (Below.refl _ _).drew.drew))) (first
    | (go_at_call 28; have _x := unhide HVQ; clear _x; refine ((unhide HP) _ _ _ (by first | exact unhide HVQ | exact (unhide HVQ).more (Below.refl _ _).drew | exact (unhide HVQ).more (Below.refl _ _).drew.drew | exact (unhide HVQ).more (below_dn (Below.refl _ _) _))).mono ?_; rintro e w3 ⟨rfl, hv⟩; have HVF := hide hv; clear hv)
    | (go_at_call 28; refine ((unhide HP) _ _ _ (by first | exact unhide HV0 | exact (unhide HV0).more (Below.refl _ _).drew | exact (unhide HV0).more (Below.refl _ _).drew.drew | exact (unhide HV0).more (below_dn (Below.refl _ _) _))).mono ?_; rintro e w2 ⟨rfl, hv⟩; have HVP := hide hv; clear hv)
    | (go_at_call 29; have _x := unhide HVP; clear _x; refine ((unhide HQ) _ _ _ (by first | exact unhide HVP | exact (unhide HVP).more (Below.refl _ _).drew | exact (unhide HVP).more (Below.refl _ _).drew.drew | exact (unhide HVP).more (below_dn (Below.refl _ _) _))).mono ?_; rintro e w3 ⟨rfl, hv⟩; have HVF := hide hv; clear hv)
    | (go_at_call 29; refine ((unhide HQ) _ _ _ (by first | exact unhide HV0 | exact (unhide HV0).more (Below.refl _ _).drew | exact (unhide HV0).more (Below.refl _ _).drew.drew | exact (unhide HV0).more (below_dn (Below.refl _ _) _))).mono ?_; rintro e w2 ⟨rfl, hv⟩; have HVQ := hide hv; clear hv))
  all_goals go_wp2
  all_goals go_ret
  all_goals exact ⟨by first | rfl | simp, by first | exact e5_four (unhide HVF) | exact e5_four ((unhide HVF).more (Below.refl _ _).drew) | exact e5_four ((unhide HVF).more (Below.refl _ _).drew.drew) | exact e5_four ((unhide HVF).more (below_dn (Below.refl _ _) _))⟩
end
end Go.Proofs.Ytabdgmcajndgbaa
