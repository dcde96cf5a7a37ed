/-
  Package active: what stands at a place. The document's list of active elements in memory; a new one; where an element stands; what stands at a place. The document's list: a marker put last. The document's list: a marker put last, walked.
-/
import Derived.Test.YtmkdnmkckipnaaaGreatSBbi
import Derived.Test.YtmkdnmkckipnaaaGreatSBbj
namespace Go.Proofs.YtmkdnmkckipnaaaGreat
open Go.RowKit Go.Sort

def zeroEV : Value := .agg #[.int .i64 0, .int .i64 0, .string ⟨#[]⟩, .string ⟨#[]⟩, .string ⟨#[]⟩, .int .i64 0, .bool false, .int .i32 0, .bool false, .slice none 0 0]
def zeroEO : Obj := .cells #[.int .i64 0, .int .i64 0, .string ⟨#[]⟩, .string ⟨#[]⟩, .string ⟨#[]⟩, .int .i64 0, .bool false, .int .i32 0, .bool false, .slice none 0 0] 54
def entV (x : EntM) (v : Value) : Value := .agg (Value.int .i64 x.node :: x.tok.cells v).toArray

section
variable {w : World} {base bL bA bW : Nat} {F : Nat → Prop} {v : Value} {ps : List Nat} {es : List EntM}
set_option maxHeartbeats 2000000 in
theorem lat_no (h : LiM w base bL bA bW F v ps es) (i : Int) (hi : i < 0 ∨ (es.length : Int) ≤ i) : Calls Tryz.prog 17 #[.pointer (some ⟨bL, 0, none⟩), .int .i64 i] w fun e w' => e = .returned (.tuple #[zeroEV, .int .i64 1]) ∧ Below w.heap.size w w' := by
  have hb0 : Below w.heap.size w (w.alloc zeroEO) := below_newAc _ _
  have HM := hide (lmade_any (h.below hb0))
  have HL := hide (llen_any (h.below hb0))
  unfold zeroEO at *
  clear h hb0
  by_cases h0 : i < 0
  · clear hi
    go_enter Tryz.func17, Tryz.ntmps17
    go_wp2_with (first | (go_at_call 53; refine (unhide HM).mono ?_; rintro e w1 ⟨rfl, rfl⟩) | (go_at_call 16; refine (unhide HL).mono ?_; rintro e w1 ⟨rfl, rfl⟩))
    exact bodyPost_ret (ret_two Tryz.results17 _ _ w.heap.size _ _ rfl rfl (run_loadVar_row _ _ _ _ _ _ _ (heap_alloc_new w _) Tryz.underlying54 rfl (by kernel_rfl))) rfl ⟨rfl, below_newAc _ _⟩
  · have h1 : (es.length : Int) ≤ i := by omega
    clear hi
    go_enter Tryz.func17, Tryz.ntmps17
    go_wp2_with (first | (go_at_call 53; refine (unhide HM).mono ?_; rintro e w1 ⟨rfl, rfl⟩) | (go_at_call 16; refine (unhide HL).mono ?_; rintro e w1 ⟨rfl, rfl⟩))
    exact bodyPost_ret (ret_two Tryz.results17 _ _ w.heap.size _ _ rfl rfl (run_loadVar_row _ _ _ _ _ _ _ (heap_alloc_new w _) Tryz.underlying54 rfl (by kernel_rfl))) rfl ⟨rfl, below_newAc _ _⟩

set_option maxHeartbeats 2000000 in
theorem lat_yes (h : LiM w base bL bA bW F v ps es) (i : Nat) {x : EntM} (hi : es[i]? = some x) : Calls Tryz.prog 17 #[.pointer (some ⟨bL, 0, none⟩), .int .i64 i] w fun e w' => ∃ ao ac, e = .returned (.tuple #[entV x (.slice ao x.tok.attrs.length ac), .int .i64 0]) ∧ AtrS w' w.heap.size ao x.tok.attrs ∧ Below w.heap.size w w' := by
  have hb0 : Below w.heap.size w (w.alloc zeroEO) := below_newAc _ _
  have HM := hide (lmade_any (h.below hb0))
  have HL := hide (llen_any (h.below hb0))
  have HA := hide (rat_any (h.below hb0).row hi)
  have c1 := (h.below hb0).cells.2
  have hlt : (i : Int) < (es.length : Int) := by have := (List.getElem?_eq_some_iff.1 hi).1; omega
  have hi0 : (0 : Int) ≤ (i : Int) := by omega
  obtain ⟨x0, x1, x2, t0, t1, t2, t3, t4, t5, t6, t7, ta⟩ := x
  have HOT := hide (fun (W : World) (a : Option Addr) (cap : Nat) hl hn => ownTok_any W ⟨t0, t1, t2, t3, t4, t5, t6, t7, ta⟩ a cap hl hn)
  simp only [TokM.cells, zeroEO] at *
  clear h hb0 hi
  go_enter Tryz.func17, Tryz.ntmps17
  go_wp2_with (first | (go_at_call 53; refine (unhide HM).mono ?_; rintro e w1 ⟨rfl, rfl⟩) | (go_at_call 16; refine (unhide HL).mono ?_; rintro e w1 ⟨rfl, rfl⟩) | (go_at_call 55; refine (unhide HA).mono ?_; rintro e w2 ⟨b, rfl, hpb, hen, rfl⟩; have hfew := hen.few; obtain ⟨ao, ac, so, sc, hbl, hA1, hA2⟩ := hen.lies; have HFW := hide hfew; have HAI := hide hA1.ins; have HBL := hide hbl; clear hpb hen hfew hA1 hA2 hbl; unfold ptrV))
  have HCC : Hid (∀ W', Below (w.alloc (.cells #[.int .i64 0, .int .i64 0, .string ⟨#[]⟩, .string ⟨#[]⟩, .string ⟨#[]⟩, .int .i64 0, .bool false, .int .i32 0, .bool false, .slice none 0 0] 54)).heap.size (w.alloc (.cells #[.int .i64 0, .int .i64 0, .string ⟨#[]⟩, .string ⟨#[]⟩, .string ⟨#[]⟩, .int .i64 0, .bool false, .int .i32 0, .bool false, .slice none 0 0] 54)) W' → (W'.cell? ⟨b, 0, none⟩ = some (.int .i64 x0) ∧ W'.cell? ⟨b, 3, none⟩ = some (.int .i64 t0) ∧ W'.cell? ⟨b, 4, none⟩ = some (.string t1) ∧ W'.cell? ⟨b, 5, none⟩ = some (.string t2) ∧ W'.cell? ⟨b, 6, none⟩ = some (.string t3) ∧ W'.cell? ⟨b, 7, none⟩ = some (.int .i64 t4) ∧ W'.cell? ⟨b, 8, none⟩ = some (.bool t5) ∧ W'.cell? ⟨b, 9, none⟩ = some (.int .i32 t6) ∧ W'.cell? ⟨b, 10, none⟩ = some (.bool t7) ∧ W'.cell? ⟨b, 11, none⟩ = some (.slice ao ta.length ac)) ∧ (W'.cell? ⟨w.heap.size, 0, none⟩ = some (.int .i64 0) ∧ W'.cell? ⟨w.heap.size, 1, none⟩ = some (.int .i64 0) ∧ W'.cell? ⟨w.heap.size, 2, none⟩ = some (.string ⟨#[]⟩) ∧ W'.cell? ⟨w.heap.size, 3, none⟩ = some (.string ⟨#[]⟩) ∧ W'.cell? ⟨w.heap.size, 4, none⟩ = some (.string ⟨#[]⟩) ∧ W'.cell? ⟨w.heap.size, 5, none⟩ = some (.int .i64 0) ∧ W'.cell? ⟨w.heap.size, 6, none⟩ = some (.bool false) ∧ W'.cell? ⟨w.heap.size, 7, none⟩ = some (.int .i32 0) ∧ W'.cell? ⟨w.heap.size, 8, none⟩ = some (.bool false) ∧ W'.cell? ⟨w.heap.size, 9, none⟩ = some (.slice none 0 0) ∧ W'.frozen? ⟨w.heap.size, 0, none⟩ = false ∧ W'.frozen? ⟨w.heap.size, 1, none⟩ = false ∧ W'.frozen? ⟨w.heap.size, 2, none⟩ = false ∧ W'.frozen? ⟨w.heap.size, 3, none⟩ = false ∧ W'.frozen? ⟨w.heap.size, 4, none⟩ = false ∧ W'.frozen? ⟨w.heap.size, 5, none⟩ = false ∧ W'.frozen? ⟨w.heap.size, 6, none⟩ = false ∧ W'.frozen? ⟨w.heap.size, 7, none⟩ = false ∧ W'.frozen? ⟨w.heap.size, 8, none⟩ = false ∧ W'.frozen? ⟨w.heap.size, 9, none⟩ = false) ∧ W'.heap[w.heap.size]? = some (.cells #[.int .i64 0, .int .i64 0, .string ⟨#[]⟩, .string ⟨#[]⟩, .string ⟨#[]⟩, .int .i64 0, .bool false, .int .i32 0, .bool false, .slice none 0 0] 54 (0, 0)) ∧ Below w.heap.size w W') := hide (fun W' hb => by
    have hbl := (hb.block b (lt_of_block (unhide HBL))).trans (unhide HBL)
    have hz := (hb.block w.heap.size (by simp)).trans (heap_alloc_new w (.cells #[.int .i64 0, .int .i64 0, .string ⟨#[]⟩, .string ⟨#[]⟩, .string ⟨#[]⟩, .int .i64 0, .bool false, .int .i32 0, .bool false, .slice none 0 0] 54))
    exact ⟨⟨cell_of_row _ _ 0 _ _ _ hbl, cell_of_row _ _ 3 _ _ _ hbl, cell_of_row _ _ 4 _ _ _ hbl, cell_of_row _ _ 5 _ _ _ hbl, cell_of_row _ _ 6 _ _ _ hbl, cell_of_row _ _ 7 _ _ _ hbl, cell_of_row _ _ 8 _ _ _ hbl, cell_of_row _ _ 9 _ _ _ hbl, cell_of_row _ _ 10 _ _ _ hbl, cell_of_row _ _ 11 _ _ _ hbl⟩, ⟨cell_of_row _ _ 0 _ _ _ hz, cell_of_row _ _ 1 _ _ _ hz, cell_of_row _ _ 2 _ _ _ hz, cell_of_row _ _ 3 _ _ _ hz, cell_of_row _ _ 4 _ _ _ hz, cell_of_row _ _ 5 _ _ _ hz, cell_of_row _ _ 6 _ _ _ hz, cell_of_row _ _ 7 _ _ _ hz, cell_of_row _ _ 8 _ _ _ hz, cell_of_row _ _ 9 _ _ _ hz, free_row hz 0, free_row hz 1, free_row hz 2, free_row hz 3, free_row hz 4, free_row hz 5, free_row hz 6, free_row hz 7, free_row hz 8, free_row hz 9⟩, hz, (below_newAc w _).trans (hb.mono (by simp))⟩)
  obtain ⟨a0, a1, a2, a3, a4, a5, a6, a7, a8, a9⟩ := ((unhide HCC) _ (Below.refl _ _)).1
  go_region_with (go_at_call 56; refine ((unhide HOT) _ ao ac (by first | exact unhide HAI | exact (unhide HAI).below (Below.refl _ _).drew) (unhide HFW)).mono ?_; rintro e w3 ⟨ao3, ac3, rfl, ha3, hb3⟩; have HA3 := hide ha3; have HB3 := hide (show Below (w.alloc (.cells #[.int .i64 0, .int .i64 0, .string ⟨#[]⟩, .string ⟨#[]⟩, .string ⟨#[]⟩, .int .i64 0, .bool false, .int .i32 0, .bool false, .slice none 0 0] 54)).heap.size (w.alloc (.cells #[.int .i64 0, .int .i64 0, .string ⟨#[]⟩, .string ⟨#[]⟩, .string ⟨#[]⟩, .int .i64 0, .bool false, .int .i32 0, .bool false, .slice none 0 0] 54)) w3 from ⟨hb3.os, hb3.tape, hb3.output, hb3.size, hb3.block⟩); obtain ⟨⟨e0, e1, e2, e3, e4, e5, e6, e7, e8, e9⟩, ⟨k0, k1, k2, k3, k4, k5, k6, k7, k8, k9, f0, f1, f2, f3, f4, f5, f6, f7, f8, f9⟩, _, _⟩ := (unhide HCC) w3 (unhide HB3); clear ha3 hb3)
  all_goals go_wp2
  all_goals have hz := ((unhide HCC) w3 (unhide HB3)).2.2.1
  all_goals have hbw := ((unhide HCC) w3 (unhide HB3)).2.2.2
  all_goals have hfin := run_whole w.heap.size [.int .i64 x0, .int .i64 t0, .string t1, .string t2, .string t3, .int .i64 t4, .bool t5, .int .i32 t6, .bool t7, .slice ao3 ta.length ac3] w3 _ _ hz rfl
  all_goals have hmod : Mod (fun k => k = w.heap.size) w3 (w3.setCells w.heap.size 0 [.int .i64 x0, .int .i64 t0, .string t1, .string t2, .string t3, .int .i64 t4, .bool t5, .int .i32 t6, .bool t7, .slice ao3 ta.length ac3]) := run_mod (F := fun k => k = w.heap.size) w.heap.size rfl _ _ _
  all_goals have hatr := (unhide HA3).mod hmod (fun b off e => by have := ((unhide HA3).lt e).1; simp at this; omega)
  all_goals exact bodyPost_ret (ret_two Tryz.results17 _ _ w.heap.size _ _ rfl rfl (run_loadVar_row _ _ _ _ _ _ _ hfin Tryz.underlying54 rfl (by kernel_rfl))) rfl ⟨ao3, ac3, rfl, hatr.lower (by simp), hbw.trans (hmod.below hbw.size (fun k e => by omega))⟩
end
section
variable {w wx : World} {obs : List (Ob w.heap.size)} {j bL bA : Nat} {es : List EntM}
theorem env_lat (h : Env w wx obs) (hj : obs[j]? = some (liOb _ bL bA es)) (i : Nat) {x : EntM} (hi : es[i]? = some x) :
    Calls Tryz.prog 17 #[.pointer (some ⟨bL, 0, none⟩), .int .i64 i] wx fun e w' => ∃ ao ac, e = .returned (.tuple #[entV x (.slice ao x.tok.attrs.length ac), .int .i64 0]) ∧ AtrS w' wx.heap.size ao x.tok.attrs ∧ Env w w' obs := by
  obtain ⟨F, ⟨bW, v, ps, R, hm, hF⟩, h3⟩ := h.li hj
  exact (lat_yes hm i hi).mono fun _ _ ⟨a, b, c, d, e⟩ => ⟨a, b, c, d, h.more e⟩
theorem env_lat_no (h : Env w wx obs) (hj : obs[j]? = some (liOb _ bL bA es)) (i : Int) (hi : i < 0 ∨ (es.length : Int) ≤ i) :
    Calls Tryz.prog 17 #[.pointer (some ⟨bL, 0, none⟩), .int .i64 i] wx fun e w' => e = .returned (.tuple #[zeroEV, .int .i64 1]) ∧ Env w w' obs := by
  obtain ⟨F, ⟨bW, v, ps, R, hm, hF⟩, h3⟩ := h.li hj
  exact (lat_no hm i hi).mono fun _ _ ⟨a, b⟩ => ⟨a, h.more b⟩
end
end Go.Proofs.YtmkdnmkckipnaaaGreat

namespace Go.Proofs.YtmkdnmkckipnaaaGreat
open Go.RowKit Go.Sort

/-- An entry: its element, its token, where the token's attributes lie. -/
structure EntQ where
  node : Int
  tok : TokM
  a : Option Addr
  c : Nat
def EntQ.av (x : EntQ) : Value := .slice x.a x.tok.attrs.length x.c
def EntQ.cells (x : EntQ) : List Value := .int .i64 x.node :: x.tok.cells x.av
theorem entQ_len (x : EntQ) : x.cells.length = 10 := rfl
def qRow (l : List EntQ) : List Value := l.flatMap EntQ.cells

structure QlM (w : World) (base bQ bR : Nat) (v : Value) (qs : List EntQ) : Prop where
  box : w.heap[bQ]? = some (.cells #[.pointer (some ⟨bR, 0, none⟩), v] 104 (0, 0))
  own : w.ownsRow base 54 10 v qs.length (qRow qs)
  attrs : ∀ (i : Nat) x, qs[i]? = some x → AttrsIn w x.a x.tok.attrs ∧ ∀ b off, x.a = some ⟨b, off, none⟩ → b < base
  lo : base ≤ bQ
def footQ (bQ : Nat) (v : Value) (k : Nat) : Prop := k = bQ ∨ v.ownBlock = some k
def QlS (w : World) (base bQ bR : Nat) (qs : List EntQ) (F : Nat → Prop) : Prop := ∃ v, QlM w base bQ bR v qs ∧ ∀ k, F k ↔ footQ bQ v k
def UpdQ (F : Nat → Prop) (w w' : World) (base bQ bR : Nat) (qs : List EntQ) : Prop := ∃ F', QlS w' base bQ bR qs F' ∧ Mod F w w' ∧ ∀ k, F' k → F k ∨ w.heap.size ≤ k

section
variable {w w' w1 : World} {base bQ bR : Nat} {v : Value} {qs : List EntQ} {F G : Nat → Prop}
theorem QlM.lt (h : QlM w base bQ bR v qs) {k : Nat} (hk : footQ bQ v k) : base ≤ k ∧ k < w.heap.size := by
  rcases hk with rfl | hk
  · exact ⟨h.lo, lt_of_block h.box⟩
  · exact h.own.lt k hk
theorem QlM.cells (h : QlM w base bQ bR v qs) : w.cell? ⟨bQ, 0, none⟩ = some (.pointer (some ⟨bR, 0, none⟩)) ∧ w.cell? ⟨bQ, 1, none⟩ = some v ∧ ∀ j, w.frozen? ⟨bQ, j, none⟩ = false := by
  have hb := h.box
  exact ⟨by simp [World.cell?, hb], by simp [World.cell?, hb], fun j => by simp [World.frozen?, hb]⟩
theorem QlM.mod (h : QlM w base bQ bR v qs) (hm : Mod G w w') (hG : ∀ k, footQ bQ v k → ¬ G k) (hlo : ∀ k, G k → base ≤ k) : QlM w' base bQ bR v qs := by
  refine ⟨(hm.block bQ (lt_of_block h.box) (hG bQ (.inl rfl))).trans h.box, ownsRow_kept h.own (fun k hk => hm.block k (h.own.lt k hk).2 (hG k (.inr hk))), fun i x hx => ?_, h.lo⟩
  obtain ⟨h1, h2⟩ := h.attrs i x hx
  refine ⟨h1.mod (fun b off e => ?_), h2⟩
  have hb := h2 b off e
  exact hm.block b (Nat.lt_of_lt_of_le hb (Nat.le_trans h.lo (Nat.le_of_lt (lt_of_block h.box)))) (fun e => by have := hlo b e; omega)
theorem QlM.below (h : QlM w base bQ bR v qs) (hb : Below w.heap.size w w') : QlM w' base bQ bR v qs := h.mod (Mod.of_below (F := fun _ => False) hb) (fun _ _ e => e) (fun _ e => e.elim)
theorem QlM.val (h : QlM w base bQ bR v qs) : (v = .slice none 0 0 ∧ qs = []) ∨ ∃ g cap, v = .slice (some ⟨g, 0, none⟩) qs.length cap := by
  rcases h.own.2 with ⟨e, h0⟩ | ⟨g, cap, _, e, _⟩
  · exact .inl ⟨e, List.eq_nil_of_length_eq_zero h0⟩
  · exact .inr ⟨g, cap, e⟩
theorem QlM.len (h : QlM w base bQ bR v qs) : ∃ a cap, v = .slice a qs.length cap := by
  rcases h.val with ⟨e, rfl⟩ | ⟨g, cap, e⟩
  · exact ⟨none, 0, e⟩
  · exact ⟨_, cap, e⟩
/-- What stands at a place. -/
theorem QlM.at (h : QlM w base bQ bR v qs) {i : Nat} {x : EntQ} (hi : qs[i]? = some x) : ∃ g cap, v = .slice (some ⟨g, 0, none⟩) qs.length cap ∧ ∀ j, j < 10 → w.cell? ⟨g, i * 10 + j, none⟩ = x.cells[j]? := by
  have hlt := (List.getElem?_eq_some_iff.1 hi).1
  rcases h.val with ⟨_, h0⟩ | ⟨g, cap, e⟩
  · subst h0; simp at hi
  · subst e
    refine ⟨g, cap, rfl, fun j hj => ?_⟩
    rw [h.own.cellAt (i * 10 + j) (by omega), qRow, flat_get EntQ.cells 10 entQ_len qs i j hj, hi]
    rfl
theorem QlS.lt (h : QlS w base bQ bR qs F) {k : Nat} (hk : F k) : base ≤ k ∧ k < w.heap.size := by
  obtain ⟨v, h, hF⟩ := h
  exact h.lt ((hF k).1 hk)
theorem QlS.mod (h : QlS w base bQ bR qs F) (hm : Mod G w w') (hG : ∀ k, F k → ¬ G k) (hlo : ∀ k, G k → base ≤ k) : QlS w' base bQ bR qs F := by
  obtain ⟨v, h, hF⟩ := h
  exact ⟨v, h.mod hm (fun k hk => hG k ((hF k).2 hk)) hlo, hF⟩

theorem qnew_any (hb : base ≤ w.heap.size) : Calls Tryz.prog 27 #[.pointer (some ⟨bR, 0, none⟩)] w fun e w' => ∃ bQ F, e = .returned (.pointer (some ⟨bQ, 0, none⟩)) ∧ QlS w' base bQ bR [] F ∧ Below w.heap.size w w' ∧ ∀ k, F k → w.heap.size ≤ k := by
  have HB := hide hb
  clear hb
  go_enter Tryz.func27, Tryz.ntmps27
  go_wp2
  go_ret
  refine ⟨_, _, rfl, ⟨.slice none 0 0, ⟨heap_alloc_new w _, World.ownsRow_nil _ _ _ _, fun i x e => by simp at e, unhide HB⟩, fun k => Iff.rfl⟩, below_newAc _ _, ?_⟩
  rintro k (rfl | hk)
  · omega
  · simp [Value.ownBlock] at hk

/-- The last place of a number. -/
def backQ (ns : List Int) (id : Int) : Nat → Int
  | 0 => -1
  | n + 1 => if ns[n]? = some id then (n : Int) else backQ ns id n
def findQ (qs : List EntQ) (id : Int) : Int := if id = -1 then -1 else backQ (qs.map (·.node)) id qs.length
set_option maxRecDepth 100000 in
set_option maxHeartbeats 1000000 in
theorem qfind_any (h : QlM w base bQ bR v qs) (hl : qs.length < 1000000000000) (id : Int) : Calls Tryz.prog 42 #[.pointer (some ⟨bQ, 0, none⟩), .int .i64 id] w fun e w' => e = .returned (.int .i64 (findQ qs id)) ∧ w = w' := by
  obtain ⟨c0, c1, _⟩ := h.cells
  obtain ⟨va, vc, rfl⟩ := h.len
  have HAT : Hid (∀ (i : Nat) x, qs[i]? = some x → ∃ g, va = some ⟨g, 0, none⟩ ∧ w.cell? ⟨g, i * 10, none⟩ = some (.int .i64 x.node)) := hide (fun i x hi => by
    obtain ⟨g, cap, e, hc⟩ := h.at hi
    cases e
    exact ⟨g, rfl, hc 0 (by omega)⟩)
  have hz : (qs.length : Int) < 1000000000000 := by omega
  obtain ⟨r, hr⟩ : ∃ r, findQ qs id = r := ⟨_, rfl⟩
  rw [hr]
  have HR := hide hr
  clear h hl hr
  go_enter Tryz.func42, Tryz.ntmps42
  go_wp2
  go_loopg [5] qs.length (fun g s5 wr => s5 = .int .i64 ((g : Int) - 1) ∧ g ≤ qs.length ∧ wr = w ∧ (id ≠ -1 → backQ (qs.map (·.node)) id qs.length = backQ (qs.map (·.node)) id g))
  case atStart => exact ⟨rfl, Nat.le_refl _, rfl, fun _ => rfl⟩
  case round =>
    obtain ⟨rfl, hgl, rfl, hno⟩ := hrel
    have HNO := hide hno
    clear hno
    cases gk with
    | zero =>
      go_wp2
      go_ret
      refine ⟨?_, rfl⟩
      rw [← unhide HR, findQ]
      by_cases e : id = -1
      · rw [if_pos e]; rfl
      · rw [if_neg e, (unhide HNO) e]; rfl
    | succ n =>
      obtain ⟨y, hy⟩ : ∃ y, qs[n]? = some y := ⟨_, List.getElem?_eq_getElem (by omega)⟩
      obtain ⟨g, rfl, hcell⟩ := (unhide HAT) n y hy
      have e1 : (((n + 1 : Nat) : Int) - 1) = (n : Int) := by omega
      rw [e1]
      have HY : Hid ((qs.map (·.node))[n]? = some y.node) := hide (by rw [List.getElem?_map, hy]; rfl)
      have hnz : (n : Int) < (qs.length : Int) := by omega
      have hn0 : (0 : Int) ≤ (n : Int) := by omega
      have HGL := hide hgl
      clear hy e1 hgl
      cases hm : (id == -1) with
      | true =>
        have HM := hide hm
        have hm2 : (id != -1) = false := by simpa using hm
        go_wp2
        go_ret
        have e := eq_of_beq (unhide HM)
        rw [← unhide HR, findQ, if_pos e]
        exact ⟨rfl, rfl⟩
      | false =>
        have HM : Hid (¬ id = -1) := hide (by simpa using hm)
        have hm2 : (id != -1) = true := by simpa using hm
        cases hq : (y.node == id) with
        | true =>
          have HQ := hide hq
          go_wp2
          go_ret
          have e := eq_of_beq (unhide HQ)
          rw [← unhide HR, findQ, if_neg (unhide HM), (unhide HNO) (unhide HM), backQ, unhide HY, if_pos (by rw [e])]
          exact ⟨rfl, rfl⟩
        | false =>
          have HQ := hide hq
          go_wp2
          go_roundg n
          case measure => omega
          case rel =>
            refine ⟨by go_num, by have := unhide HGL; omega, rfl, fun e => ?_⟩
            rw [(unhide HNO) e, backQ, unhide HY, if_neg (fun h => by have := unhide HQ; simp at h; simp [h] at this)]
end
end Go.Proofs.YtmkdnmkckipnaaaGreat

namespace Go.Proofs.YtmkdnmkckipnaaaGreat
open Go.RowKit Go.Sort

def markQ : EntQ := ⟨-1, tok0, none, 0⟩
section
variable {w w1 : World} {base bQ bR : Nat} {v v' : Value} {qs : List EntQ} {F : Nat → Prop}
/-- One more entry laid last. -/
theorem QlM.grow (h : QlM w base bQ bR v qs) (hF : ∀ k, F k ↔ footQ bQ v k) (x : EntQ) (hx : AttrsIn w x.a x.tok.attrs ∧ ∀ b off, x.a = some ⟨b, off, none⟩ → b < base)
    (hown : w1.ownsRow base 54 10 v' (qs.length + 1) (qRow qs ++ x.cells)) (hgrow : w.grownBy w1 v.ownBlock) (hv : ∀ k, v'.ownBlock = some k → v.ownBlock = some k ∨ w.heap.size ≤ k) :
    UpdQ F w (w1.setCell ⟨bQ, 1, none⟩ v') base bQ bR (qs ++ [x]) := by
  have hlt := lt_of_block h.box
  have hlo := h.lo
  have hne : ∀ k, v.ownBlock = some k → k ≠ bQ := fun k hk e => by
    obtain ⟨cur, hc⟩ := ownsRow_block h.own hk
    rw [e, h.box] at hc
    cases hc
  have hm1 : Mod (fun k => v.ownBlock = some k) w w1 := Mod.grown hgrow (fun k e => e)
  have hb1 := (hm1.block bQ hlt (fun e => hne _ e rfl)).trans h.box
  have hne' : ∀ k, v'.ownBlock = some k → k ≠ bQ := fun k hk => by
    rcases hv k hk with e | e
    · exact hne k e
    · omega
  have hm : Mod F w (w1.setCell ⟨bQ, 1, none⟩ v') := (hm1.mono (fun k _ e => (hF k).2 (.inr e))).trans (Mod.setCell _ _ _ ((hF _).2 (.inl rfl)))
  refine ⟨footQ bQ v', ⟨v', ⟨?_, ?_, fun i y hy => ?_, h.lo⟩, fun _ => Iff.rfl⟩, hm, ?_⟩
  · have := heap_setCell_same w1 bQ 1 #[.pointer (some ⟨bR, 0, none⟩), v] 104 v' hb1
    simpa using this
  · have e : qRow (qs ++ [x]) = qRow qs ++ x.cells := by simp [qRow]
    rw [List.length_append, e]
    exact ownsRow_setCell_other hown (fun e => hne' _ e rfl) _
  · have hL : AttrsIn w y.a y.tok.attrs ∧ ∀ b off, y.a = some ⟨b, off, none⟩ → b < base := by
      by_cases hl : i < qs.length
      · rw [List.getElem?_append_left hl] at hy; exact h.attrs i y hy
      · rw [List.getElem?_append_right (by omega)] at hy
        have := List.mem_of_getElem? hy
        simp at this; subst this; exact hx
    refine ⟨hL.1.mod (fun b off e => ?_), hL.2⟩
    have hb := hL.2 b off e
    exact hm.block b (by omega) (fun e => by have := (h.lt ((hF b).1 e)).1; omega)
  · rintro k (rfl | hk)
    · exact .inl ((hF _).2 (.inl rfl))
    · exact (hv k hk).imp (fun e => (hF k).2 (.inr e)) id
end
end Go.Proofs.YtmkdnmkckipnaaaGreat

namespace Go.Proofs.YtmkdnmkckipnaaaGreat
open Go.RowKit Go.Sort

theorem Tryz.info54 : (Tryz.prog.info? 54).map (fun i => (i.zero, i.size, i.bytes)) = some (some zeroEV, 10, 112) := by kernel_rfl

section
variable {w : World} {base bQ bR : Nat} {v : Value} {qs : List EntQ} {F : Nat → Prop}
set_option maxHeartbeats 2000000 in
theorem qmark_any (h : QlM w base bQ bR v qs) (hF : ∀ k, F k ↔ footQ bQ v k) (hl : qs.length < 1000000000000) : Calls Tryz.prog 32 #[.pointer (some ⟨bQ, 0, none⟩)] w fun e w' => e = .returned (.tuple #[]) ∧ UpdQ F w w' base bQ bR (qs ++ [markQ]) := by
  obtain ⟨c0, c1, f1⟩ := h.cells
  have HH := hide h
  have HFF := hide hF
  have f1 := f1 1
  have HL := hide hl
  have hlt := lt_of_block h.box
  obtain ⟨i0, hi0, hz0, hz1, hz2⟩ := info_parts Tryz.info54
  have HOW := hide (fun (o : Obj) => (h.own).alloc o)
  have HB := hide (Nat.le_trans h.lo (Nat.le_of_lt hlt))
  have HGR : Hid (∀ (o : Obj) (w1 : World) (v' : Value), w1.ownsRow base 54 10 v' (qs.length + 1) (qRow qs ++ markQ.cells) → (w.alloc o).grownBy w1 v.ownBlock → (∀ k, v'.ownBlock = some k → v.ownBlock = some k ∨ k = w.heap.size + 1) → UpdQ F w (w1.setCell ⟨bQ, 1, none⟩ v') base bQ bR (qs ++ [markQ]) ∧ w1.cell? ⟨bQ, 1, none⟩ = some v ∧ w1.frozen? ⟨bQ, 1, none⟩ = false) := hide (fun o w1 v' hown hg hv => by
    have hb := below_newAc w o
    have h2 := h.below hb
    have hm : Mod (fun k => v.ownBlock = some k) (w.alloc o) w1 := Mod.grown hg (fun k e => e)
    have hbq := (hm.block bQ (lt_of_block h2.box) (fun e => by
      obtain ⟨cur, hc⟩ := ownsRow_block h2.own e
      rw [h2.box] at hc
      cases hc)).trans h2.box
    obtain ⟨F', u1, u2, u3⟩ := h2.grow hF markQ ⟨⟨fun i x hi => by simp [markQ, tok0] at hi⟩, fun b off e => by simp [markQ] at e⟩ hown hg (fun k hk => (hv k hk).imp id (fun e => by simp; omega))
    exact ⟨⟨F', u1, (Mod.of_below hb).trans u2, fun k hk => (u3 k hk).imp id (fun e => Nat.le_trans hb.size e)⟩, cell_of_row _ _ 1 _ _ _ hbq, by simp [World.frozen?, hbq]⟩)
  have HNW : Hid (∀ (j : Nat) (u : Value), markQ.cells[j]? = some u → (w.alloc (.cells markQ.cells.toArray 54)).cell? ((⟨w.heap.size, 0, none⟩ : Addr).add j) = some u) := hide (World.news_of_block (w := w.alloc (.cells markQ.cells.toArray 54)) (B := w.heap.size) (t := 54) (fr := (0, 0)) (heap_alloc_new w _))
  clear h hF hl
  go_enter Tryz.func32, Tryz.ntmps32
  go_wp2_with (at_builtin; go_must (refine wpList_append_lies _ (by rfl) _ _ 102 (by rfl) base 54 i0 _ 10 112 (by kernel_rfl) hi0 hz0 hz1 hz2 rfl (by omega) v qs.length (qRow qs) (by rfl) ((unhide HOW) _) ⟨w.heap.size, 0, none⟩ 1 1 markQ.cells (by rfl) (by rfl) (by exact unhide HNW) (by simp [markQ, tok0, EntQ.cells, EntQ.av, TokM.cells, Value.oneCell']) (by omega) (by have := unhide HL; unfold maxLen; omega) (by have := unhide HL; omega) (by have := unhide HB; simp; omega) (w.heap.size + 1) (by simp) ?_); intro g' cap' w1 hown1 hgrow hat hltg; obtain ⟨hu, d1, d2⟩ := (unhide HGR) _ w1 _ hown1 hgrow (fun k e => by simp only [Value.ownBlock, Option.some.injEq] at e; subst e; exact hat); have HU := hide hu; clear hown1 hgrow hat hltg hu c0 c1 f1)
  exact ⟨rfl, _, results_none rfl _ _ _, rfl, unhide HU⟩
end
end Go.Proofs.YtmkdnmkckipnaaaGreat
