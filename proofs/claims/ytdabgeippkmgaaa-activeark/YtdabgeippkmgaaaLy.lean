/-
  Package active: what stands at a place.
-/
import Derived.Test.YtdabgeippkmgaaaLw
namespace Go.Proofs.Ytdabgeippkmgaaa
open Go.RowKit Go.Sort

def zeroEV : Value := .agg #[.int .i64 0, .int .i64 0, .string ⟨#[]⟩, .string ⟨#[]⟩, .string ⟨#[]⟩, .int .i64 0, .bool false, .int .i32 0, .bool false, .slice none 0 0]
def zeroEO : Obj := .cells #[.int .i64 0, .int .i64 0, .string ⟨#[]⟩, .string ⟨#[]⟩, .string ⟨#[]⟩, .int .i64 0, .bool false, .int .i32 0, .bool false, .slice none 0 0] 60
def entV (x : EntM) (v : Value) : Value := .agg (Value.int .i64 x.node :: x.tok.cells v).toArray

section
variable {w : World} {base bL bA bW : Nat} {F : Nat → Prop} {v : Value} {ps : List Nat} {es : List EntM}
set_option maxHeartbeats 2000000 in
theorem lat_no (h : LiM w base bL bA bW F v ps es) (i : Int) (hi : i < 0 ∨ (es.length : Int) ≤ i) : Calls Try.prog 25 #[.pointer (some ⟨bL, 0, none⟩), .int .i64 i] w fun e w' => e = .returned (.tuple #[zeroEV, .int .i64 1]) ∧ Below w.heap.size w w' := by
  have hb0 : Below w.heap.size w (w.alloc zeroEO) := below_new _ _
  have HM := hide (lmade_any (h.below hb0))
  have HL := hide (llen_any (h.below hb0))
  unfold zeroEO at *
  clear h hb0
  by_cases h0 : i < 0
  · clear hi
    go_enter Try.func25, Try.ntmps25
    go_wp2_with (first | (go_at_call 88; refine (unhide HM).mono ?_; rintro e w1 ⟨rfl, rfl⟩) | (go_at_call 22; refine (unhide HL).mono ?_; rintro e w1 ⟨rfl, rfl⟩))
    exact bodyPost_ret (ret_two Try.results25 _ _ w.heap.size _ _ rfl rfl (run_loadVar_row _ _ _ _ _ _ _ (heap_alloc_new w _) Try.underlying60 rfl (by kernel_rfl))) rfl ⟨rfl, below_new _ _⟩
  · have h1 : (es.length : Int) ≤ i := by omega
    clear hi
    go_enter Try.func25, Try.ntmps25
    go_wp2_with (first | (go_at_call 88; refine (unhide HM).mono ?_; rintro e w1 ⟨rfl, rfl⟩) | (go_at_call 22; refine (unhide HL).mono ?_; rintro e w1 ⟨rfl, rfl⟩))
    exact bodyPost_ret (ret_two Try.results25 _ _ w.heap.size _ _ rfl rfl (run_loadVar_row _ _ _ _ _ _ _ (heap_alloc_new w _) Try.underlying60 rfl (by kernel_rfl))) rfl ⟨rfl, below_new _ _⟩

set_option maxHeartbeats 2000000 in
theorem lat_yes (h : LiM w base bL bA bW F v ps es) (i : Nat) {x : EntM} (hi : es[i]? = some x) : Calls Try.prog 25 #[.pointer (some ⟨bL, 0, none⟩), .int .i64 i] w fun e w' => ∃ ao ac, e = .returned (.tuple #[entV x (.slice ao x.tok.attrs.length ac), .int .i64 0]) ∧ AtrS w' w.heap.size ao x.tok.attrs ∧ Below w.heap.size w w' := by
  have hb0 : Below w.heap.size w (w.alloc zeroEO) := below_new _ _
  have HM := hide (lmade_any (h.below hb0))
  have HL := hide (llen_any (h.below hb0))
  have HA := hide (rat_any (h.below hb0).row hi)
  have c1 := (h.below hb0).cells.2
  have hlt : (i : Int) < (es.length : Int) := by have := (List.getElem?_eq_some_iff.1 hi).1; omega
  have hi0 : (0 : Int) ≤ (i : Int) := by omega
  obtain ⟨x0, x1, x2, t0, t1, t2, t3, t4, t5, t6, t7, ta⟩ := x
  have HOT := hide (fun (W : World) (a : Option Addr) (cap : Nat) hl hn => ownTok_any W ⟨t0, t1, t2, t3, t4, t5, t6, t7, ta⟩ a cap hl hn)
  simp only [TokM.cells, zeroEO] at *
  clear h hb0 hi
  go_enter Try.func25, Try.ntmps25
  go_wp2_with (first | (go_at_call 88; refine (unhide HM).mono ?_; rintro e w1 ⟨rfl, rfl⟩) | (go_at_call 22; refine (unhide HL).mono ?_; rintro e w1 ⟨rfl, rfl⟩) | (go_at_call 91; refine (unhide HA).mono ?_; rintro e w2 ⟨b, rfl, hpb, hen, rfl⟩; have hfew := hen.few; obtain ⟨ao, ac, so, sc, hbl, hA1, hA2⟩ := hen.lies; have HFW := hide hfew; have HAI := hide hA1.ins; have HBL := hide hbl; clear hpb hen hfew hA1 hA2 hbl; unfold ptrV))
  have HCC : Hid (∀ W', Below (w.alloc (.cells #[.int .i64 0, .int .i64 0, .string ⟨#[]⟩, .string ⟨#[]⟩, .string ⟨#[]⟩, .int .i64 0, .bool false, .int .i32 0, .bool false, .slice none 0 0] 60)).heap.size (w.alloc (.cells #[.int .i64 0, .int .i64 0, .string ⟨#[]⟩, .string ⟨#[]⟩, .string ⟨#[]⟩, .int .i64 0, .bool false, .int .i32 0, .bool false, .slice none 0 0] 60)) W' → (W'.cell? ⟨b, 0, none⟩ = some (.int .i64 x0) ∧ W'.cell? ⟨b, 3, none⟩ = some (.int .i64 t0) ∧ W'.cell? ⟨b, 4, none⟩ = some (.string t1) ∧ W'.cell? ⟨b, 5, none⟩ = some (.string t2) ∧ W'.cell? ⟨b, 6, none⟩ = some (.string t3) ∧ W'.cell? ⟨b, 7, none⟩ = some (.int .i64 t4) ∧ W'.cell? ⟨b, 8, none⟩ = some (.bool t5) ∧ W'.cell? ⟨b, 9, none⟩ = some (.int .i32 t6) ∧ W'.cell? ⟨b, 10, none⟩ = some (.bool t7) ∧ W'.cell? ⟨b, 11, none⟩ = some (.slice ao ta.length ac)) ∧ (W'.cell? ⟨w.heap.size, 0, none⟩ = some (.int .i64 0) ∧ W'.cell? ⟨w.heap.size, 1, none⟩ = some (.int .i64 0) ∧ W'.cell? ⟨w.heap.size, 2, none⟩ = some (.string ⟨#[]⟩) ∧ W'.cell? ⟨w.heap.size, 3, none⟩ = some (.string ⟨#[]⟩) ∧ W'.cell? ⟨w.heap.size, 4, none⟩ = some (.string ⟨#[]⟩) ∧ W'.cell? ⟨w.heap.size, 5, none⟩ = some (.int .i64 0) ∧ W'.cell? ⟨w.heap.size, 6, none⟩ = some (.bool false) ∧ W'.cell? ⟨w.heap.size, 7, none⟩ = some (.int .i32 0) ∧ W'.cell? ⟨w.heap.size, 8, none⟩ = some (.bool false) ∧ W'.cell? ⟨w.heap.size, 9, none⟩ = some (.slice none 0 0) ∧ W'.frozen? ⟨w.heap.size, 0, none⟩ = false ∧ W'.frozen? ⟨w.heap.size, 1, none⟩ = false ∧ W'.frozen? ⟨w.heap.size, 2, none⟩ = false ∧ W'.frozen? ⟨w.heap.size, 3, none⟩ = false ∧ W'.frozen? ⟨w.heap.size, 4, none⟩ = false ∧ W'.frozen? ⟨w.heap.size, 5, none⟩ = false ∧ W'.frozen? ⟨w.heap.size, 6, none⟩ = false ∧ W'.frozen? ⟨w.heap.size, 7, none⟩ = false ∧ W'.frozen? ⟨w.heap.size, 8, none⟩ = false ∧ W'.frozen? ⟨w.heap.size, 9, none⟩ = false) ∧ W'.heap[w.heap.size]? = some (.cells #[.int .i64 0, .int .i64 0, .string ⟨#[]⟩, .string ⟨#[]⟩, .string ⟨#[]⟩, .int .i64 0, .bool false, .int .i32 0, .bool false, .slice none 0 0] 60 (0, 0)) ∧ Below w.heap.size w W') := hide (fun W' hb => by
    have hbl := (hb.block b (lt_of_block (unhide HBL))).trans (unhide HBL)
    have hz := (hb.block w.heap.size (by simp)).trans (heap_alloc_new w (.cells #[.int .i64 0, .int .i64 0, .string ⟨#[]⟩, .string ⟨#[]⟩, .string ⟨#[]⟩, .int .i64 0, .bool false, .int .i32 0, .bool false, .slice none 0 0] 60))
    exact ⟨⟨cell_of_row _ _ 0 _ _ _ hbl, cell_of_row _ _ 3 _ _ _ hbl, cell_of_row _ _ 4 _ _ _ hbl, cell_of_row _ _ 5 _ _ _ hbl, cell_of_row _ _ 6 _ _ _ hbl, cell_of_row _ _ 7 _ _ _ hbl, cell_of_row _ _ 8 _ _ _ hbl, cell_of_row _ _ 9 _ _ _ hbl, cell_of_row _ _ 10 _ _ _ hbl, cell_of_row _ _ 11 _ _ _ hbl⟩, ⟨cell_of_row _ _ 0 _ _ _ hz, cell_of_row _ _ 1 _ _ _ hz, cell_of_row _ _ 2 _ _ _ hz, cell_of_row _ _ 3 _ _ _ hz, cell_of_row _ _ 4 _ _ _ hz, cell_of_row _ _ 5 _ _ _ hz, cell_of_row _ _ 6 _ _ _ hz, cell_of_row _ _ 7 _ _ _ hz, cell_of_row _ _ 8 _ _ _ hz, cell_of_row _ _ 9 _ _ _ hz, free_row hz 0, free_row hz 1, free_row hz 2, free_row hz 3, free_row hz 4, free_row hz 5, free_row hz 6, free_row hz 7, free_row hz 8, free_row hz 9⟩, hz, (below_new w _).trans (hb.mono (by simp))⟩)
  obtain ⟨a0, a1, a2, a3, a4, a5, a6, a7, a8, a9⟩ := ((unhide HCC) _ (Below.refl _ _)).1
  go_region_with (go_at_call 92; refine ((unhide HOT) _ ao ac (by first | exact unhide HAI | exact (unhide HAI).below (Below.refl _ _).drew) (unhide HFW)).mono ?_; rintro e w3 ⟨ao3, ac3, rfl, ha3, hb3⟩; have HA3 := hide ha3; have HB3 := hide (show Below (w.alloc (.cells #[.int .i64 0, .int .i64 0, .string ⟨#[]⟩, .string ⟨#[]⟩, .string ⟨#[]⟩, .int .i64 0, .bool false, .int .i32 0, .bool false, .slice none 0 0] 60)).heap.size (w.alloc (.cells #[.int .i64 0, .int .i64 0, .string ⟨#[]⟩, .string ⟨#[]⟩, .string ⟨#[]⟩, .int .i64 0, .bool false, .int .i32 0, .bool false, .slice none 0 0] 60)) w3 from ⟨hb3.os, hb3.tape, hb3.output, hb3.size, hb3.block⟩); obtain ⟨⟨e0, e1, e2, e3, e4, e5, e6, e7, e8, e9⟩, ⟨k0, k1, k2, k3, k4, k5, k6, k7, k8, k9, f0, f1, f2, f3, f4, f5, f6, f7, f8, f9⟩, _, _⟩ := (unhide HCC) w3 (unhide HB3); clear ha3 hb3)
  all_goals go_wp2
  all_goals have hz := ((unhide HCC) w3 (unhide HB3)).2.2.1
  all_goals have hbw := ((unhide HCC) w3 (unhide HB3)).2.2.2
  all_goals have hfin := run_whole w.heap.size [.int .i64 x0, .int .i64 t0, .string t1, .string t2, .string t3, .int .i64 t4, .bool t5, .int .i32 t6, .bool t7, .slice ao3 ta.length ac3] w3 _ _ hz rfl
  all_goals have hmod : Mod (fun k => k = w.heap.size) w3 (w3.setCells w.heap.size 0 [.int .i64 x0, .int .i64 t0, .string t1, .string t2, .string t3, .int .i64 t4, .bool t5, .int .i32 t6, .bool t7, .slice ao3 ta.length ac3]) := run_mod (F := fun k => k = w.heap.size) w.heap.size rfl _ _ _
  all_goals have hatr := (unhide HA3).mod hmod (fun b off e => by have := ((unhide HA3).lt e).1; simp at this; omega)
  all_goals exact bodyPost_ret (ret_two Try.results25 _ _ w.heap.size _ _ rfl rfl (run_loadVar_row _ _ _ _ _ _ _ hfin Try.underlying60 rfl (by kernel_rfl))) rfl ⟨ao3, ac3, rfl, hatr.lower (by simp), hbw.trans (hmod.below hbw.size (fun k e => by omega))⟩
end
section
variable {w wx : World} {obs : List (Ob w.heap.size)} {j bL bA : Nat} {es : List EntM}
theorem env_lat (h : Env w wx obs) (hj : obs[j]? = some (liOb _ bL bA es)) (i : Nat) {x : EntM} (hi : es[i]? = some x) :
    Calls Try.prog 25 #[.pointer (some ⟨bL, 0, none⟩), .int .i64 i] wx fun e w' => ∃ ao ac, e = .returned (.tuple #[entV x (.slice ao x.tok.attrs.length ac), .int .i64 0]) ∧ AtrS w' wx.heap.size ao x.tok.attrs ∧ Env w w' obs := by
  obtain ⟨F, ⟨bW, v, ps, R, hm, hF⟩, h3⟩ := h.li hj
  exact (lat_yes hm i hi).mono fun _ _ ⟨a, b, c, d, e⟩ => ⟨a, b, c, d, h.more e⟩
theorem env_lat_no (h : Env w wx obs) (hj : obs[j]? = some (liOb _ bL bA es)) (i : Int) (hi : i < 0 ∨ (es.length : Int) ≤ i) :
    Calls Try.prog 25 #[.pointer (some ⟨bL, 0, none⟩), .int .i64 i] wx fun e w' => e = .returned (.tuple #[zeroEV, .int .i64 1]) ∧ Env w w' obs := by
  obtain ⟨F, ⟨bW, v, ps, R, hm, hF⟩, h3⟩ := h.li hj
  exact (lat_no hm i hi).mono fun _ _ ⟨a, b⟩ => ⟨a, h.more b⟩
end
end Go.Proofs.Ytdabgeippkmgaaa
