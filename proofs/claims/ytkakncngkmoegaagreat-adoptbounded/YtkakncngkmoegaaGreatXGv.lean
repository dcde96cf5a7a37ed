import Derived.Test.YtkakncngkmoegaaGreatXGu
import Derived.Deep.RegionHeld3
/-
  The agency: an entry is dropped.
-/
namespace Go.Proofs.YtkakncngkmoegaaGreat
open Go.RowKit Go.Sort

/-- The agency's pointer and a number in their variables. -/
def boxW (wx : World) (bG : Nat) (id : Int) : World := (wx.alloc (.cells #[.pointer (some ⟨bG, 0, none⟩)] 83)).alloc (.cells #[.int .i64 id] 3)
theorem boxW_size (wx : World) (bG : Nat) (id : Int) : (boxW wx bG id).heap.size = wx.heap.size + 2 := by simp [boxW]
/-- Behind it nothing was written, only made. -/
structure Dk (wx : World) (bG : Nat) (id : Int) (W : World) : Prop where
  low : Below (boxW wx bG id).heap.size (boxW wx bG id) W
section
variable {wx W W' : World} {bG : Nat} {id : Int}
theorem Dk.start (wx : World) (bG : Nat) (id : Int) : Dk wx bG id ((wx.alloc (.cells #[.pointer (some ⟨bG, 0, none⟩)] 83)).alloc (.cells #[.int .i64 id] 3)) := ⟨Below.refl _ _⟩
theorem Dk.bel (h : Dk wx bG id W) : Below wx.heap.size wx W := by
  have h0 : Below wx.heap.size wx (boxW wx bG id) := (below_newAc _ _).alloc (by simp) _
  exact h0.trans (h.low.mono h0.size)
theorem Dk.g (h : Dk wx bG id W) : W.heap[wx.heap.size]? = some (.cells #[.pointer (some ⟨bG, 0, none⟩)] 83 (0, 0)) := by
  have h1 : (boxW wx bG id).heap[wx.heap.size]? = some (.cells #[.pointer (some ⟨bG, 0, none⟩)] 83 (0, 0)) := ((below_newAc (wx.alloc (.cells #[.pointer (some ⟨bG, 0, none⟩)] 83)) _).block _ (by simp)).trans (heap_alloc_new wx _)
  exact kept_old h1 h.low
theorem Dk.i (h : Dk wx bG id W) : W.heap[wx.heap.size + 1]? = some (.cells #[.int .i64 id] 3 (0, 0)) := by
  have h1 : (boxW wx bG id).heap[wx.heap.size + 1]? = some (.cells #[.int .i64 id] 3 (0, 0)) := by
    have := heap_alloc_new (wx.alloc (.cells #[.pointer (some ⟨bG, 0, none⟩)] 83)) (.cells #[.int .i64 id] 3)
    rwa [show (wx.alloc (.cells #[.pointer (some ⟨bG, 0, none⟩)] 83)).heap.size = wx.heap.size + 1 by simp] at this
  exact kept_old h1 h.low
theorem Dk.more (h : Dk wx bG id W) (hb : Below W.heap.size W W') : Dk wx bG id W' := ⟨h.low.trans (hb.mono h.low.size)⟩
theorem Dk.alloc (h : Dk wx bG id W) (o : Obj) : Dk wx bG id (W.alloc o) := h.more (below_newAc _ _)
theorem Dk.drew (h : Dk wx bG id W) : Dk wx bG id W.drew := h.more (Below.refl _ _).drew
theorem Dk.cells (h : Dk wx bG id W) : W.cell? ⟨wx.heap.size, 0, none⟩ = some (.pointer (some ⟨bG, 0, none⟩)) ∧ W.cell? ⟨wx.heap.size + 1, 0, none⟩ = some (.int .i64 id) := ⟨cell_of_row _ _ 0 _ _ _ h.g, cell_of_row _ _ 0 _ _ _ h.i⟩
theorem Dk.lt (h : Dk wx bG id W) : wx.heap.size + 1 < W.heap.size := lt_of_block h.i
theorem Dk.put1 (h : Dk wx bG id W) (b j : Nat) (v : Value) (hb : wx.heap.size + 1 < b) : Dk wx bG id (W.setCell ⟨b, j, none⟩ v) := by
  have hm : Mod (fun k => k = b) W (W.setCell ⟨b, j, none⟩ v) := Mod.setCell _ _ _ rfl
  exact ⟨h.low.trans (hm.below h.low.size (fun k e => by have := boxW_size wx bG id; omega))⟩
theorem Dk.put (h : Dk wx bG id W) (b : Nat) (hb : wx.heap.size + 1 < b) (vs : List Value) : Dk wx bG id (W.setCells b 0 vs) :=
  ⟨h.low.trans ((run_mod (F := fun k => k = b) b rfl vs 0 W).below h.low.size (fun k e => by have := boxW_size wx bG id; omega))⟩
end
/-- A number's variable, as it is made. -/
def numZ : Obj := .cells #[.int .i64 0] 3 (0, 0)
theorem kept_two {W w1 : World} {o o' : Obj} (hb : Below ((W.alloc o).alloc o').heap.size ((W.alloc o).alloc o') w1) : w1.heap[W.heap.size]? = some o ∧ w1.heap[W.heap.size + 1]? = some o' := by
  have h2 := kept_new hb
  rw [show (W.alloc o).heap.size = W.heap.size + 1 by simp] at h2
  exact ⟨(hb.block _ (by simp; omega)).trans (((below_newAc (W.alloc o) o').block _ (by simp)).trans (heap_alloc_new W o)), h2⟩
theorem kept_twoD {W w1 : World} {o o' : Obj} (hb : Below ((W.alloc o).alloc o').drew.heap.size ((W.alloc o).alloc o').drew w1) : w1.heap[W.heap.size]? = some o ∧ w1.heap[W.heap.size + 1]? = some o' := by
  have hd : Below ((W.alloc o).alloc o').heap.size ((W.alloc o).alloc o') ((W.alloc o).alloc o').drew := (Below.refl _ _).drew
  exact kept_two (hd.trans hb)
/-- What lies in a token's variable, as it is made. -/
theorem tokZ9 {w : World} {b : Nat} (h : w.heap[b]? = some tokO) : (w.cell? ⟨b, 0, none⟩ = some (.int .i64 0) ∧ w.cell? ⟨b, 1, none⟩ = some (.string ⟨#[]⟩) ∧ w.cell? ⟨b, 2, none⟩ = some (.string ⟨#[]⟩) ∧ w.cell? ⟨b, 3, none⟩ = some (.string ⟨#[]⟩) ∧ w.cell? ⟨b, 4, none⟩ = some (.int .i64 0) ∧ w.cell? ⟨b, 5, none⟩ = some (.bool false) ∧ w.cell? ⟨b, 6, none⟩ = some (.int .i32 0) ∧ w.cell? ⟨b, 7, none⟩ = some (.bool false) ∧ w.cell? ⟨b, 8, none⟩ = some (.slice none 0 0)) ∧ (w.frozen? ⟨b, 0, none⟩ = false ∧ w.frozen? ⟨b, 1, none⟩ = false ∧ w.frozen? ⟨b, 2, none⟩ = false ∧ w.frozen? ⟨b, 3, none⟩ = false ∧ w.frozen? ⟨b, 4, none⟩ = false ∧ w.frozen? ⟨b, 5, none⟩ = false ∧ w.frozen? ⟨b, 6, none⟩ = false ∧ w.frozen? ⟨b, 7, none⟩ = false ∧ w.frozen? ⟨b, 8, none⟩ = false) := by
  unfold tokO at h
  obtain ⟨a, b, c, d, e, f, g, i, j, k⟩ := nine h
  exact ⟨⟨a, b, c, d, e, f, g, i, j⟩, k 0, k 1, k 2, k 3, k 4, k 5, k 6, k 7, k 8⟩
theorem ne_size {w : World} {b : Nat} {o : Obj} (h : w.heap[b]? = some o) : ¬ b = w.heap.size ∧ ¬ w.heap.size = b := by
  have := lt_of_block h
  exact ⟨by omega, by omega⟩
theorem ne_two {w : World} {a b : Nat} (h : w.heap[a]? = some numZ) (h2 : w.heap[b]? = some tokO) : ¬ a = b ∧ ¬ b = a := by
  have key : ¬ a = b := fun e => by
    rw [e, h2] at h
    cases h
  exact ⟨key, fun e => key e.symm⟩
theorem numZ1 {w : World} {b : Nat} (h : w.heap[b]? = some numZ) : w.cell? ⟨b, 0, none⟩ = some (.int .i64 0) ∧ w.frozen? ⟨b, 0, none⟩ = false := ⟨cell_of_row _ _ 0 _ _ _ h, free_row h 0⟩
/-- Both variables are laid and filled. -/
structure Lk (wx : World) (bG : Nat) (id pv : Int) (bi : Nat) (W : World) : Prop where
  dk : Dk wx bG id W
  num : W.heap[bi]? = some (.cells #[.int .i64 pv] 3 (0, 0))
section
variable {wx w2 : World} {bG : Nat} {id pv : Int}
theorem Lk.c1 (h : Dk wx bG id w2) (o : Obj) : Lk wx bG id pv w2.heap.size ((w2.alloc (.cells #[.int .i64 pv] 3)).alloc o) := ⟨(h.alloc _).alloc _, ((below_newAc (w2.alloc (.cells #[.int .i64 pv] 3)) o).block _ (by simp)).trans (heap_alloc_new w2 _)⟩
theorem Lk.c2 (h : Dk wx bG id w2) (o : Obj) : Lk wx bG id pv (w2.heap.size + 1) ((w2.alloc o).alloc (.cells #[.int .i64 pv] 3)) := ⟨(h.alloc _).alloc _, by
  have := heap_alloc_new (w2.alloc o) (.cells #[.int .i64 pv] 3)
  rwa [show (w2.alloc o).heap.size = w2.heap.size + 1 by simp] at this⟩
theorem num_set {w : World} {b : Nat} (h : w.heap[b]? = some numZ) (v : Value) : (w.setCell ⟨b, 0, none⟩ v).heap[b]? = some (.cells #[v] 3 (0, 0)) := by
  unfold numZ at h
  have := heap_setCell_same w b 0 #[.int .i64 0] 3 v h
  simpa using this
theorem Lk.c3 (h : Dk wx bG id w2) (o : Obj) {bi : Nat} (hI : w2.heap[bi]? = some numZ) (hb : wx.heap.size + 1 < bi) (vs : List Value) : Lk wx bG id pv bi (((w2.alloc o).setCell ⟨bi, 0, none⟩ (.int .i64 pv)).setCells w2.heap.size 0 vs) := by
  have hn := ne_size hI
  refine ⟨((h.alloc _).put1 bi 0 _ hb).put _ h.lt vs, ?_⟩
  rw [run_other w2.heap.size bi hn.1 vs 0 _]
  exact num_set (kept_old hI (below_newAc w2 o)) _
theorem Lk.c4 (h : Dk wx bG id w2) {bi bt : Nat} (hI : w2.heap[bi]? = some numZ) (hT : w2.heap[bt]? = some tokO) (hb : wx.heap.size + 1 < bi) (hb2 : wx.heap.size + 1 < bt) (vs : List Value) : Lk wx bG id pv bi ((w2.setCell ⟨bi, 0, none⟩ (.int .i64 pv)).setCells bt 0 vs) := by
  refine ⟨(h.put1 bi 0 _ hb).put _ hb2 vs, ?_⟩
  rw [run_other bt bi (ne_two hI hT).1 vs 0 _]
  exact num_set hI _
theorem Lk.c5 (h : Dk wx bG id w2) {bt : Nat} (hT : w2.heap[bt]? = some tokO) (hb2 : wx.heap.size + 1 < bt) (vs : List Value) : Lk wx bG id pv w2.heap.size ((w2.alloc (.cells #[.int .i64 pv] 3)).setCells bt 0 vs) := by
  refine ⟨(h.alloc _).put _ hb2 vs, ?_⟩
  rw [run_other bt w2.heap.size (ne_size hT).2 vs 0 _]
  exact heap_alloc_new w2 _
end
theorem wrap_small {m : Int} (h0 : -9000000000 ≤ m) (h1 : m ≤ 9000000000) : IntKind.i64.wrap m = m := by rw [IntKind.wrap_i64]; omega
section
variable {w wx : World} {P : Pt} {s : St} {c : Ct} {rest : List (Ob w.heap.size)} {n : Nat}
theorem AE.drew (h : AE w wx P s c rest) : AE w wx.drew P s c rest := h.more (Below.refl _ _).drew
theorem AE.boxes (h : AE w wx P s c rest) {id : Int} {W : World} (hd : Dk wx P.bG id W) : AE w W P s c ((rest ++ [blkOb _ wx.heap.size #[.pointer (some ⟨P.bG, 0, none⟩)] 83]) ++ [blkOb _ (wx.heap.size + 1) #[.int .i64 id] 3]) := by
  have h2 := (h.boxed #[.pointer (some ⟨P.bG, 0, none⟩)] 83).boxed #[.int .i64 id] 3
  rw [show (wx.alloc (.cells #[.pointer (some ⟨P.bG, 0, none⟩)] 83)).heap.size = wx.heap.size + 1 by simp] at h2
  exact h2.more hd.low
set_option maxHeartbeats 4000000 in
theorem gdrop_any (h : AE w wx P s c rest) (hi : Inv s n) (hc : c.cnt < 1000000000) (hmk : s.mark ≤ 1000000) (id : Int) (hp : 0 ≤ placeE s.es id) : Calls Tryz.prog 90 #[.pointer (some ⟨P.bG, 0, none⟩), .int .i64 id] wx fun e w' => e = .returned (.tuple #[]) ∧ AE w w' P (dropP s id) ⟨c.another, c.errs, c.cnt + 1⟩ rest := by
  obtain ⟨m2, hm2⟩ : ∃ m2, (if placeE s.es id < s.mark then s.mark - 1 else s.mark) = m2 := ⟨_, rfl⟩
  rw [show dropP s id = ⟨s.os, s.L, delE s.es (placeE s.es id), m2⟩ by rw [← hm2]; rfl]
  have HM2 := hide hm2
  clear hm2
  have hmf : ∀ (fn : Fn) (first cap : Array Value) (w : World), (Instr.makeFunc fn first cap).run Tryz.prog w = .ok (.func fn first cap) w := fun _ _ _ _ => rfl
  have HF : Hid (∀ W, Dk wx P.bG id W → Calls Tryz.prog 84 #[.pointer (some ⟨P.bL, 0, none⟩), .int .i64 id] W fun e w' => e = .returned (.int .i64 (placeE s.es id)) ∧ Below W.heap.size W w' ∧ Dk wx P.bG id w') := hide (fun W hW => (ae_lfindB (h.more hW.bel) hi id).mono fun _ _ ⟨a, b⟩ => ⟨a, b, hW.more b⟩)
  have HT : Hid (∀ W, Dk wx P.bG id W → Calls Tryz.prog 123 #[.pointer (some ⟨P.bG, 0, none⟩), .int .i64 id] W fun e w' => ∃ ao ac, e = .returned (.agg ((tokE s.es id).cells (.slice ao (tokE s.es id).attrs.length ac)).toArray) ∧ Below W.heap.size W w' ∧ Dk wx P.bG id w') := hide (fun W hW => (gtoken_any (h.more hW.bel) hi id hp).mono fun _ _ ⟨a, b, c, _, e⟩ => ⟨a, b, c, e, hW.more e⟩)
  have HC : Hid (∀ W, Dk wx P.bG id W → W.cell? ⟨wx.heap.size, 0, none⟩ = some (.pointer (some ⟨P.bG, 0, none⟩)) ∧ W.cell? ⟨wx.heap.size + 1, 0, none⟩ = some (.int .i64 id) ∧ W.cell? ⟨P.bG, 2, none⟩ = some (.pointer (some ⟨P.bL, 0, none⟩))) := hide (fun W hW => ⟨hW.cells.1, hW.cells.2, (h.more hW.bel).cells.2.2.1⟩)
  have HD := hide (Dk.start wx P.bG id)
  obtain ⟨t0, t1, t2, t3, t4, t5, t6, t7, ta⟩ := tokE s.es id
  simp only [TokM.cells] at *
  go_enter Tryz.func90, Tryz.ntmps90
  go_wp2
  rename_i Q1 K1 hK1
  have HL : Hid (∀ (W : World) (bi bt : Nat) (u6 u7 u8 u9 u10 u11 u12 u13 u14 u15 u16 u17 u18 u19 u20 u21 u22 u23 u24 u25 u26 u27 u28 u29 u30 u31 u32 u33 u34 u35 u36 : Value), Lk wx P.bG id (placeE s.es id) bi W → K1 { tmps := #[.pointer (some ⟨P.bG, 0, none⟩), .int .i64 id, .pointer (some ⟨wx.heap.size, 0, none⟩), .pointer (some ⟨wx.heap.size + 1, 0, none⟩), .pointer (some ⟨bi, 0, none⟩), .pointer (some ⟨bt, 0, none⟩), u6, u7, u8, u9, u10, u11, u12, u13, u14, u15, u16, u17, u18, u19, u20, u21, u22, u23, u24, u25, u26, u27, u28, u29, u30, u31, u32, u33, u34, u35, u36], defers := [] } W) := hide (by
    intro W bi bt u6 u7 u8 u9 u10 u11 u12 u13 u14 u15 u16 u17 u18 u19 u20 u21 u22 u23 u24 u25 u26 u27 u28 u29 u30 u31 u32 u33 u34 u35 u36 hl
    have hae := h.boxes hl.dk
    have z0 := hl.dk.cells.1
    have z1 := hl.dk.cells.2
    have i0 := cell_of_row _ _ 0 _ _ _ hl.num
    obtain ⟨g0, g1, g2, g3, g4, g5, g6⟩ := hae.cells
    have HE := hide hae
    clear HF HT HC HD hl
    apply hK1
    clear hK1
    have hbk : ∀ (W' : World) (s' : St) (c' : Ct), AE w W' P s' c' ((rest ++ [blkOb _ wx.heap.size #[.pointer (some ⟨P.bG, 0, none⟩)] 83]) ++ [blkOb _ (wx.heap.size + 1) #[.int .i64 id] 3]) → W'.cell? ⟨wx.heap.size, 0, none⟩ = some (.pointer (some ⟨P.bG, 0, none⟩)) ∧ W'.cell? ⟨wx.heap.size + 1, 0, none⟩ = some (.int .i64 id) ∧ W'.cell? ⟨P.bG, 2, none⟩ = some (.pointer (some ⟨P.bL, 0, none⟩)) := fun W' s' c' hW => ⟨cell_of_row _ _ 0 _ _ _ (hW.block (i := rest.length) (K := wx.heap.size) (cs := #[.pointer (some ⟨P.bG, 0, none⟩)]) (t := 83) (by simp)), cell_of_row _ _ 0 _ _ _ (hW.block (i := rest.length + 1) (K := wx.heap.size + 1) (cs := #[.int .i64 id]) (t := 3) (by simp)), hW.cells.2.2.1⟩
    have HS := hide hbk
    have HRM : Hid (∀ (W' : World) (m : Int), AE w W' P ⟨s.os, s.L, s.es, m⟩ c ((rest ++ [blkOb _ wx.heap.size #[.pointer (some ⟨P.bG, 0, none⟩)] 83]) ++ [blkOb _ (wx.heap.size + 1) #[.int .i64 id] 3]) → Calls Tryz.prog 82 #[.pointer (some ⟨P.bL, 0, none⟩), .int .i64 id] W' fun e w' => e = .returned (.int .i64 (remA s.es id)) ∧ AE w w' P ⟨s.os, s.L, delE s.es (placeE s.es id), m⟩ c ((rest ++ [blkOb _ wx.heap.size #[.pointer (some ⟨P.bG, 0, none⟩)] 83]) ++ [blkOb _ (wx.heap.size + 1) #[.int .i64 id] 3])) := hide (fun W' m hW => ae_lremove (n := n) hW ⟨hi.good, hi.ent, hi.few, hi.less, hi.one⟩ id)
    have HCH : Hid (∀ (W' : World) (s' : St) (e : Int), AE w W' P s' c ((rest ++ [blkOb _ wx.heap.size #[.pointer (some ⟨P.bG, 0, none⟩)] 83]) ++ [blkOb _ (wx.heap.size + 1) #[.int .i64 id] 3]) → ∀ (fn : Fn) (fi ca : Array Value), Calls Tryz.prog 124 #[.pointer (some ⟨P.bG, 0, none⟩), .int .i64 e, .func fn fi ca] W' fun r w' => r = .returned (.tuple #[]) ∧ AE w w' P s' ⟨c.another, c.errs, c.cnt + 1⟩ ((rest ++ [blkOb _ wx.heap.size #[.pointer (some ⟨P.bG, 0, none⟩)] 83]) ++ [blkOb _ (wx.heap.size + 1) #[.int .i64 id] 3])) := hide (fun W' s' e hW fn fi ca => changed_any hW hc e fn fi ca)
    have HDR : Hid (∀ (W' : World) (s' : St) (c' : Ct), AE w W' P s' c' ((rest ++ [blkOb _ wx.heap.size #[.pointer (some ⟨P.bG, 0, none⟩)] 83]) ++ [blkOb _ (wx.heap.size + 1) #[.int .i64 id] 3]) → AE w W' P s' c' rest) := hide (fun _ _ _ hW => hW.drop1.drop1)
    have HSM := hide hae.setMark
    have hfz := hae.free 6
    generalize (rest ++ [blkOb w.heap.size wx.heap.size #[.pointer (some ⟨P.bG, 0, none⟩)] 83]) ++ [blkOb w.heap.size (wx.heap.size + 1) #[.int .i64 id] 3] = rest2 at *
    clear hbk hae h hi
    by_cases hlt : placeE s.es id < s.mark
    · have hm2 := unhide HM2
      rw [if_pos hlt] at hm2
      subst hm2
      have hwr : IntKind.i64.wrap (s.mark - 1) = s.mark - 1 := by
        have h1 : (0 : Int) ≤ placeE s.es id := hp
        exact wrap_small (by omega) (by omega)
      clear hp
      generalize hpl : placeE s.es id = pl at *
      generalize hmm : s.mark = mk at *
      have HPL := hide hpl
      have HMM := hide hmm
      clear hpl hmm
      go_wp2
      go_region
      all_goals go_wp2
      have HX := hide ((unhide HSM) (mk - 1))
      unfold markP at HX
      obtain ⟨y0, y1, y2⟩ := (unhide HS) _ _ _ (unhide HX)
      go_region_held3 (fun W' => W'.cell? ⟨wx.heap.size, 0, none⟩ = some (.pointer (some ⟨P.bG, 0, none⟩)) ∧ W'.cell? ⟨wx.heap.size + 1, 0, none⟩ = some (.int .i64 id) ∧ W'.cell? ⟨P.bG, 2, none⟩ = some (.pointer (some ⟨P.bL, 0, none⟩))) (first | exact (unhide HS) _ _ _ (unhide HX3) | exact (unhide HS) _ _ _ (unhide HX2) | exact (unhide HS) _ _ _ (unhide HX) | exact (unhide HS) _ _ _ (unhide HX).drew | exact (unhide HS) _ _ _ (unhide HX).drew.drew) (first
        | (go_at_call 82; refine ((unhide HRM) _ _ (by first | exact unhide HX | exact (unhide HX).drew | exact (unhide HX).drew.drew)).mono ?_; rintro e w3 ⟨rfl, he3⟩; have HX2 := hide he3; clear he3)
        | (go_at_call 124; refine ((unhide HCH) _ _ _ (unhide HX2) _ _ _).mono ?_; rintro e w4 ⟨rfl, he4⟩; have HX3 := hide he4; clear he4))
      all_goals go_wp2
      all_goals have e1 := unhide HPL
      all_goals have e2 := unhide HMM
      all_goals subst e1
      all_goals subst e2
      all_goals exact ⟨rfl, _, results_none rfl _ _ _, rfl, (unhide HDR) _ _ _ (unhide HX3)⟩
    · have hm2 := unhide HM2
      rw [if_neg hlt] at hm2
      subst hm2
      have HX : Hid (AE w W P ⟨s.os, s.L, s.es, s.mark⟩ c rest2) := HE
      clear hp
      generalize hpl : placeE s.es id = pl at *
      generalize hmm : s.mark = mk at *
      have HPL := hide hpl
      have HMM := hide hmm
      clear hpl hmm
      go_wp2
      go_region
      all_goals go_wp2
      obtain ⟨y0, y1, y2⟩ := (unhide HS) _ _ _ (unhide HX)
      go_region_held3 (fun W' => W'.cell? ⟨wx.heap.size, 0, none⟩ = some (.pointer (some ⟨P.bG, 0, none⟩)) ∧ W'.cell? ⟨wx.heap.size + 1, 0, none⟩ = some (.int .i64 id) ∧ W'.cell? ⟨P.bG, 2, none⟩ = some (.pointer (some ⟨P.bL, 0, none⟩))) (first | exact (unhide HS) _ _ _ (unhide HX3) | exact (unhide HS) _ _ _ (unhide HX2) | exact (unhide HS) _ _ _ (unhide HX) | exact (unhide HS) _ _ _ (unhide HX).drew | exact (unhide HS) _ _ _ (unhide HX).drew.drew) (first
        | (go_at_call 82; refine ((unhide HRM) _ _ (by first | exact unhide HX | exact (unhide HX).drew | exact (unhide HX).drew.drew)).mono ?_; rintro e w3 ⟨rfl, he3⟩; have HX2 := hide he3; clear he3)
        | (go_at_call 124; refine ((unhide HCH) _ _ _ (unhide HX2) _ _ _).mono ?_; rintro e w4 ⟨rfl, he4⟩; have HX3 := hide he4; clear he4))
      all_goals go_wp2
      all_goals have e1 := unhide HPL
      all_goals have e2 := unhide HMM
      all_goals subst e1
      all_goals subst e2
      all_goals exact ⟨rfl, _, results_none rfl _ _ _, rfl, (unhide HDR) _ _ _ (unhide HX3)⟩
      )
  clear hK1
  generalize hW0 : (wx.alloc (.cells #[.pointer (some ⟨P.bG, 0, none⟩)] 83)).alloc (.cells #[.int .i64 id] 3) = W0 at *
  clear hW0 h hi hp
  obtain ⟨z0, z1, z2⟩ := (unhide HC) _ (unhide HD)
  go_region_held3 (fun W' => W'.cell? ⟨wx.heap.size, 0, none⟩ = some (.pointer (some ⟨P.bG, 0, none⟩)) ∧ W'.cell? ⟨wx.heap.size + 1, 0, none⟩ = some (.int .i64 id) ∧ W'.cell? ⟨P.bG, 2, none⟩ = some (.pointer (some ⟨P.bL, 0, none⟩))) (first | (refine (unhide HC) _ ?_; repeat' (with_reducible (first | exact unhide HD2 | exact unhide HD1 | exact unhide HD | exact (unhide HD).lt | exact (unhide HD1).lt | exact (unhide HD2).lt | exact Nat.lt_succ_of_lt (unhide HD).lt | exact Nat.lt_succ_of_lt (unhide HD1).lt | exact Nat.lt_succ_of_lt (unhide HD2).lt | apply Dk.alloc | apply Dk.drew | apply Dk.put1)))) (first
    | (go_at_call 84; refine ((unhide HF) _ (by repeat' (with_reducible (first | exact unhide HD | apply Dk.alloc | apply Dk.drew)))).mono ?_; rintro e w1 ⟨rfl, hb1, hd1⟩; have HD1 := hide hd1; (first
        | (have yy : w1.heap[W0.heap.size]? = some numZ ∧ w1.heap[W0.heap.size + 1]? = some tokO := kept_two hb1; have HI1 := hide yy.1; have HT1 := hide yy.2; clear yy)
        | (have yy : w1.heap[W0.heap.size]? = some tokO ∧ w1.heap[W0.heap.size + 1]? = some numZ := kept_two hb1; have HI1 := hide yy.2; have HT1 := hide yy.1; clear yy)
        | (have yy : w1.heap[W0.heap.size]? = some numZ := kept_new hb1; have HI1 := hide yy; clear yy)
        | (have yy : w1.heap[W0.heap.size]? = some tokO := kept_new hb1; have HT1 := hide yy; clear yy)
        | (have yy : w1.heap[W0.heap.size]? = some numZ ∧ w1.heap[W0.heap.size + 1]? = some tokO := kept_twoD hb1; have HI1 := hide yy.1; have HT1 := hide yy.2; clear yy)
        | (have yy : w1.heap[W0.heap.size]? = some tokO ∧ w1.heap[W0.heap.size + 1]? = some numZ := kept_twoD hb1; have HI1 := hide yy.2; have HT1 := hide yy.1; clear yy)
        | (have yy : w1.heap[W0.heap.size]? = some numZ := kept_newD hb1; have HI1 := hide yy; clear yy)
        | (have yy : w1.heap[W0.heap.size]? = some tokO := kept_newD hb1; have HT1 := hide yy; clear yy)
        | skip); clear hb1 hd1)
    | (go_at_call 123; refine ((unhide HT) _ (by repeat' (with_reducible (first | exact unhide HD1 | apply Dk.alloc | apply Dk.drew)))).mono ?_; rintro e w2 ⟨ao, ac, rfl, hb2, hd2⟩; have HD2 := hide hd2; (first
        | (have yy : w2.heap[w1.heap.size]? = some numZ ∧ w2.heap[w1.heap.size + 1]? = some tokO := kept_two hb2; have HI2 := hide yy.1; have HT2 := hide yy.2; clear yy)
        | (have yy : w2.heap[w1.heap.size]? = some tokO ∧ w2.heap[w1.heap.size + 1]? = some numZ := kept_two hb2; have HI2 := hide yy.2; have HT2 := hide yy.1; clear yy)
        | (have yy : w2.heap[w1.heap.size]? = some numZ := kept_new hb2; have HI2 := hide yy; have HT2 := hide (kept_old (unhide HT1) ((below_newAc _ _).trans (hb2.mono (by simp)))); clear yy)
        | (have yy : w2.heap[w1.heap.size]? = some numZ := kept_new hb2; have HI2 := hide yy; clear yy)
        | (have yy : w2.heap[w1.heap.size]? = some tokO := kept_new hb2; have HT2 := hide yy; have HI2 := hide (kept_old (unhide HI1) ((below_newAc _ _).trans (hb2.mono (by simp)))); clear yy)
        | (have yy : w2.heap[w1.heap.size]? = some tokO := kept_new hb2; have HT2 := hide yy; clear yy)
        | (have HI2 := hide (kept_old (unhide HI1) hb2); have HT2 := hide (kept_old (unhide HT1) hb2))
        | (have HI2 := hide (kept_old (unhide HI1) hb2))
        | (have HT2 := hide (kept_old (unhide HT1) hb2))
        | skip); (first | (have ii := numZ1 (unhide HI2); obtain ⟨i0, i1⟩ := ii; have kk := numZ1 (kept_old (unhide HI2) (below_newAc w2 tokO)); unfold tokO at kk; obtain ⟨l0, l1⟩ := kk; have ll := ne_size (unhide HI2); obtain ⟨n1, n2⟩ := ll) | skip); (first | (have jj := tokZ9 (unhide HT2); obtain ⟨⟨d0, d1, d2, d3, d4, d5, d6, d7, d8⟩, f0, f1, f2, f3, f4, f5, f6, f7, f8⟩ := jj; have ll := ne_size (unhide HT2); obtain ⟨n3, n4⟩ := ll; have kk := tokZ9 (kept_old (unhide HT2) (below_newAc w2 (.cells #[.int .i64 (placeE s.es id)] 3))); obtain ⟨⟨p0, p1, p2, p3, p4, p5, p6, p7, p8⟩, q0, q1, q2, q3, q4, q5, q6, q7, q8⟩ := kk) | skip); (first | (have mm := ne_two (unhide HI2) (unhide HT2); obtain ⟨n5, n6⟩ := mm) | skip); clear hb2 hd2))
  all_goals go_wp2
  all_goals (first
    | exact (unhide HL) _ w2.heap.size (w2.heap.size + 1) _ _ _ _ _ _ _ _ _ _ _ _ _ _ _ _ _ _ _ _ _ _ _ _ _ _ _ _ _ _ _ (Lk.c1 (unhide HD2) _)
    | exact (unhide HL) _ (w2.heap.size + 1) w2.heap.size _ _ _ _ _ _ _ _ _ _ _ _ _ _ _ _ _ _ _ _ _ _ _ _ _ _ _ _ _ _ _ (Lk.c2 (unhide HD2) _)
    | exact (unhide HL) _ W0.heap.size w2.heap.size _ _ _ _ _ _ _ _ _ _ _ _ _ _ _ _ _ _ _ _ _ _ _ _ _ _ _ _ _ _ _ (Lk.c3 (unhide HD2) _ (unhide HI2) (unhide HD).lt [.int .i64 (tokE s.es id).kind, .string (tokE s.es id).name, .string (tokE s.es id).data, .string (tokE s.es id).system, .int .i64 (tokE s.es id).has, .bool (tokE s.es id).quirks, .int .i32 (tokE s.es id).char, .bool (tokE s.es id).self, .slice ao (tokE s.es id).attrs.length ac])
    | exact (unhide HL) _ w2.heap.size W0.heap.size _ _ _ _ _ _ _ _ _ _ _ _ _ _ _ _ _ _ _ _ _ _ _ _ _ _ _ _ _ _ _ (Lk.c5 (unhide HD2) (unhide HT2) (unhide HD).lt [.int .i64 (tokE s.es id).kind, .string (tokE s.es id).name, .string (tokE s.es id).data, .string (tokE s.es id).system, .int .i64 (tokE s.es id).has, .bool (tokE s.es id).quirks, .int .i32 (tokE s.es id).char, .bool (tokE s.es id).self, .slice ao (tokE s.es id).attrs.length ac])
    | exact (unhide HL) _ w1.heap.size w2.heap.size _ _ _ _ _ _ _ _ _ _ _ _ _ _ _ _ _ _ _ _ _ _ _ _ _ _ _ _ _ _ _ (Lk.c3 (unhide HD2) _ (unhide HI2) (unhide HD1).lt [.int .i64 (tokE s.es id).kind, .string (tokE s.es id).name, .string (tokE s.es id).data, .string (tokE s.es id).system, .int .i64 (tokE s.es id).has, .bool (tokE s.es id).quirks, .int .i32 (tokE s.es id).char, .bool (tokE s.es id).self, .slice ao (tokE s.es id).attrs.length ac])
    | exact (unhide HL) _ w2.heap.size w1.heap.size _ _ _ _ _ _ _ _ _ _ _ _ _ _ _ _ _ _ _ _ _ _ _ _ _ _ _ _ _ _ _ (Lk.c5 (unhide HD2) (unhide HT2) (unhide HD1).lt [.int .i64 (tokE s.es id).kind, .string (tokE s.es id).name, .string (tokE s.es id).data, .string (tokE s.es id).system, .int .i64 (tokE s.es id).has, .bool (tokE s.es id).quirks, .int .i32 (tokE s.es id).char, .bool (tokE s.es id).self, .slice ao (tokE s.es id).attrs.length ac])
    | exact (unhide HL) _ W0.heap.size w1.heap.size _ _ _ _ _ _ _ _ _ _ _ _ _ _ _ _ _ _ _ _ _ _ _ _ _ _ _ _ _ _ _ (Lk.c4 (unhide HD2) (unhide HI2) (unhide HT2) (unhide HD).lt (unhide HD1).lt [.int .i64 (tokE s.es id).kind, .string (tokE s.es id).name, .string (tokE s.es id).data, .string (tokE s.es id).system, .int .i64 (tokE s.es id).has, .bool (tokE s.es id).quirks, .int .i32 (tokE s.es id).char, .bool (tokE s.es id).self, .slice ao (tokE s.es id).attrs.length ac])
    | exact (unhide HL) _ W0.heap.size (W0.heap.size + 1) _ _ _ _ _ _ _ _ _ _ _ _ _ _ _ _ _ _ _ _ _ _ _ _ _ _ _ _ _ _ _ (Lk.c4 (unhide HD2) (unhide HI2) (unhide HT2) (unhide HD).lt (Nat.lt_succ_of_lt (unhide HD).lt) [.int .i64 (tokE s.es id).kind, .string (tokE s.es id).name, .string (tokE s.es id).data, .string (tokE s.es id).system, .int .i64 (tokE s.es id).has, .bool (tokE s.es id).quirks, .int .i32 (tokE s.es id).char, .bool (tokE s.es id).self, .slice ao (tokE s.es id).attrs.length ac])
    | exact (unhide HL) _ W0.heap.size (w1.heap.size + 1) _ _ _ _ _ _ _ _ _ _ _ _ _ _ _ _ _ _ _ _ _ _ _ _ _ _ _ _ _ _ _ (Lk.c4 (unhide HD2) (unhide HI2) (unhide HT2) (unhide HD).lt (Nat.lt_succ_of_lt (unhide HD1).lt) [.int .i64 (tokE s.es id).kind, .string (tokE s.es id).name, .string (tokE s.es id).data, .string (tokE s.es id).system, .int .i64 (tokE s.es id).has, .bool (tokE s.es id).quirks, .int .i32 (tokE s.es id).char, .bool (tokE s.es id).self, .slice ao (tokE s.es id).attrs.length ac])
    | exact (unhide HL) _ w1.heap.size W0.heap.size _ _ _ _ _ _ _ _ _ _ _ _ _ _ _ _ _ _ _ _ _ _ _ _ _ _ _ _ _ _ _ (Lk.c4 (unhide HD2) (unhide HI2) (unhide HT2) (unhide HD1).lt (unhide HD).lt [.int .i64 (tokE s.es id).kind, .string (tokE s.es id).name, .string (tokE s.es id).data, .string (tokE s.es id).system, .int .i64 (tokE s.es id).has, .bool (tokE s.es id).quirks, .int .i32 (tokE s.es id).char, .bool (tokE s.es id).self, .slice ao (tokE s.es id).attrs.length ac])
    | exact (unhide HL) _ w1.heap.size (W0.heap.size + 1) _ _ _ _ _ _ _ _ _ _ _ _ _ _ _ _ _ _ _ _ _ _ _ _ _ _ _ _ _ _ _ (Lk.c4 (unhide HD2) (unhide HI2) (unhide HT2) (unhide HD1).lt (Nat.lt_succ_of_lt (unhide HD).lt) [.int .i64 (tokE s.es id).kind, .string (tokE s.es id).name, .string (tokE s.es id).data, .string (tokE s.es id).system, .int .i64 (tokE s.es id).has, .bool (tokE s.es id).quirks, .int .i32 (tokE s.es id).char, .bool (tokE s.es id).self, .slice ao (tokE s.es id).attrs.length ac])
    | exact (unhide HL) _ w1.heap.size (w1.heap.size + 1) _ _ _ _ _ _ _ _ _ _ _ _ _ _ _ _ _ _ _ _ _ _ _ _ _ _ _ _ _ _ _ (Lk.c4 (unhide HD2) (unhide HI2) (unhide HT2) (unhide HD1).lt (Nat.lt_succ_of_lt (unhide HD1).lt) [.int .i64 (tokE s.es id).kind, .string (tokE s.es id).name, .string (tokE s.es id).data, .string (tokE s.es id).system, .int .i64 (tokE s.es id).has, .bool (tokE s.es id).quirks, .int .i32 (tokE s.es id).char, .bool (tokE s.es id).self, .slice ao (tokE s.es id).attrs.length ac])
    | exact (unhide HL) _ (W0.heap.size + 1) W0.heap.size _ _ _ _ _ _ _ _ _ _ _ _ _ _ _ _ _ _ _ _ _ _ _ _ _ _ _ _ _ _ _ (Lk.c4 (unhide HD2) (unhide HI2) (unhide HT2) (Nat.lt_succ_of_lt (unhide HD).lt) (unhide HD).lt [.int .i64 (tokE s.es id).kind, .string (tokE s.es id).name, .string (tokE s.es id).data, .string (tokE s.es id).system, .int .i64 (tokE s.es id).has, .bool (tokE s.es id).quirks, .int .i32 (tokE s.es id).char, .bool (tokE s.es id).self, .slice ao (tokE s.es id).attrs.length ac])
    | exact (unhide HL) _ (W0.heap.size + 1) w1.heap.size _ _ _ _ _ _ _ _ _ _ _ _ _ _ _ _ _ _ _ _ _ _ _ _ _ _ _ _ _ _ _ (Lk.c4 (unhide HD2) (unhide HI2) (unhide HT2) (Nat.lt_succ_of_lt (unhide HD).lt) (unhide HD1).lt [.int .i64 (tokE s.es id).kind, .string (tokE s.es id).name, .string (tokE s.es id).data, .string (tokE s.es id).system, .int .i64 (tokE s.es id).has, .bool (tokE s.es id).quirks, .int .i32 (tokE s.es id).char, .bool (tokE s.es id).self, .slice ao (tokE s.es id).attrs.length ac])
    | exact (unhide HL) _ (W0.heap.size + 1) (w1.heap.size + 1) _ _ _ _ _ _ _ _ _ _ _ _ _ _ _ _ _ _ _ _ _ _ _ _ _ _ _ _ _ _ _ (Lk.c4 (unhide HD2) (unhide HI2) (unhide HT2) (Nat.lt_succ_of_lt (unhide HD).lt) (Nat.lt_succ_of_lt (unhide HD1).lt) [.int .i64 (tokE s.es id).kind, .string (tokE s.es id).name, .string (tokE s.es id).data, .string (tokE s.es id).system, .int .i64 (tokE s.es id).has, .bool (tokE s.es id).quirks, .int .i32 (tokE s.es id).char, .bool (tokE s.es id).self, .slice ao (tokE s.es id).attrs.length ac])
    | exact (unhide HL) _ (w1.heap.size + 1) W0.heap.size _ _ _ _ _ _ _ _ _ _ _ _ _ _ _ _ _ _ _ _ _ _ _ _ _ _ _ _ _ _ _ (Lk.c4 (unhide HD2) (unhide HI2) (unhide HT2) (Nat.lt_succ_of_lt (unhide HD1).lt) (unhide HD).lt [.int .i64 (tokE s.es id).kind, .string (tokE s.es id).name, .string (tokE s.es id).data, .string (tokE s.es id).system, .int .i64 (tokE s.es id).has, .bool (tokE s.es id).quirks, .int .i32 (tokE s.es id).char, .bool (tokE s.es id).self, .slice ao (tokE s.es id).attrs.length ac])
    | exact (unhide HL) _ (w1.heap.size + 1) w1.heap.size _ _ _ _ _ _ _ _ _ _ _ _ _ _ _ _ _ _ _ _ _ _ _ _ _ _ _ _ _ _ _ (Lk.c4 (unhide HD2) (unhide HI2) (unhide HT2) (Nat.lt_succ_of_lt (unhide HD1).lt) (unhide HD1).lt [.int .i64 (tokE s.es id).kind, .string (tokE s.es id).name, .string (tokE s.es id).data, .string (tokE s.es id).system, .int .i64 (tokE s.es id).has, .bool (tokE s.es id).quirks, .int .i32 (tokE s.es id).char, .bool (tokE s.es id).self, .slice ao (tokE s.es id).attrs.length ac])
    | exact (unhide HL) _ (w1.heap.size + 1) (W0.heap.size + 1) _ _ _ _ _ _ _ _ _ _ _ _ _ _ _ _ _ _ _ _ _ _ _ _ _ _ _ _ _ _ _ (Lk.c4 (unhide HD2) (unhide HI2) (unhide HT2) (Nat.lt_succ_of_lt (unhide HD1).lt) (Nat.lt_succ_of_lt (unhide HD).lt) [.int .i64 (tokE s.es id).kind, .string (tokE s.es id).name, .string (tokE s.es id).data, .string (tokE s.es id).system, .int .i64 (tokE s.es id).has, .bool (tokE s.es id).quirks, .int .i32 (tokE s.es id).char, .bool (tokE s.es id).self, .slice ao (tokE s.es id).attrs.length ac]))
end
end Go.Proofs.YtkakncngkmoegaaGreat
