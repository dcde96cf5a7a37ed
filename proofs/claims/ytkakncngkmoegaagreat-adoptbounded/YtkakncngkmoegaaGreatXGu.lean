import Derived.Test.YtkakncngkmoegaaGreatXGt
/-
  The agency: an entry's token; a new element for it.
-/
namespace Go.Proofs.YtkakncngkmoegaaGreat
open Go.RowKit Go.Sort

/-- Nothing. -/
def noOb (base : Nat) : Ob base := ⟨fun _ F => ∀ k, ¬ F k, fun _ _ k h hk => absurd hk (h k), fun _ _ _ _ h _ _ => h⟩
theorem AE.wrote {w wx w' : World} {P : Pt} {s : St} {c : Ct} {rest : List (Ob w.heap.size)} {K : Nat} {cs : Array Value} {t : TypeId} (h : AE w wx P s c (rest ++ [blkOb _ K cs t])) (hm : Mod (fun k => k = K) wx w') : AE w w' P s c rest := by
  obtain ⟨F, ⟨_, _, hF⟩, _, hk⟩ := Env.upd (i := rest.length + 4) (o := blkOb _ K cs t) h (by simp)
  have h2 := hk w' (noOb _) (fun _ => False) (fun _ e => e) (hm.mono fun k _ e => (hF k).2 e) (fun _ e => e.elim)
  have h3 : AE w w' P s c ((rest ++ [blkOb _ K cs t]).set rest.length (noOb _)) := h2
  have h4 := h3.take rest.length
  have e : ((rest ++ [blkOb w.heap.size K cs t]).set rest.length (noOb _)).take rest.length = rest := by simp
  rw [e] at h4
  exact h4
theorem AE.ne {w wx : World} {P : Pt} {s : St} {c : Ct} {rest : List (Ob w.heap.size)} (h : AE w wx P s c rest) : ¬ P.bG = wx.heap.size ∧ ¬ wx.heap.size = P.bG := by
  obtain ⟨v, hm, _⟩ := h.ag
  have := lt_of_block hm.box
  exact ⟨by omega, by omega⟩
theorem run_loadTok {W : World} {b : Nat} {v0 v1 v2 v3 v4 v5 v6 v7 v8 : Value} (h : W.heap[b]? = some (.cells #[v0, v1, v2, v3, v4, v5, v6, v7, v8] 52 (0, 0))) : (loadVar 52 ⟨b, 0, none⟩).run Tryz.prog W = .ok (.agg #[v0, v1, v2, v3, v4, v5, v6, v7, v8]) W :=
  run_loadVar_row _ _ _ _ _ _ _ h Tryz.underlying52 rfl (by kernel_rfl)
set_option maxRecDepth 100000 in
theorem tok_ret {f : Func} {p : Tmp} (hr : f.results = #[.cell p 52]) {W : World} {b : Nat} {v0 v1 v2 v3 v4 v5 v6 v7 v8 : Value} (h : W.heap[b]? = some (.cells #[v0, v1, v2, v3, v4, v5, v6, v7, v8] 52 (0, 0))) (tmps : Array Value) (hp : tmps.getD p undef = .pointer (some ⟨b, 0, none⟩)) :
    (results f tmps).run Tryz.prog W = .ok (.agg #[v0, v1, v2, v3, v4, v5, v6, v7, v8]) W := by
  rw [results_cell hr tmps Tryz.prog W, hp]
  have e : (asAddr (.pointer (some ⟨b, 0, none⟩))).run Tryz.prog W = .ok ⟨b, 0, none⟩ W := by simp [go_sem]
  rw [e]
  exact run_loadTok h
theorem ten {w : World} {b : Nat} {v0 v1 v2 v3 v4 v5 v6 v7 v8 v9 : Value} {t : TypeId} (h : w.heap[b]? = some (.cells #[v0, v1, v2, v3, v4, v5, v6, v7, v8, v9] t (0, 0))) :
    w.cell? ⟨b, 0, none⟩ = some v0 ∧ w.cell? ⟨b, 1, none⟩ = some v1 ∧ w.cell? ⟨b, 2, none⟩ = some v2 ∧ w.cell? ⟨b, 3, none⟩ = some v3 ∧ w.cell? ⟨b, 4, none⟩ = some v4 ∧ w.cell? ⟨b, 5, none⟩ = some v5 ∧ w.cell? ⟨b, 6, none⟩ = some v6 ∧ w.cell? ⟨b, 7, none⟩ = some v7 ∧ w.cell? ⟨b, 8, none⟩ = some v8 ∧ w.cell? ⟨b, 9, none⟩ = some v9 ∧ w.frozen? ⟨b, 0, none⟩ = false ∧ w.frozen? ⟨b, 1, none⟩ = false ∧ w.frozen? ⟨b, 2, none⟩ = false ∧ w.frozen? ⟨b, 3, none⟩ = false ∧ w.frozen? ⟨b, 4, none⟩ = false ∧ w.frozen? ⟨b, 5, none⟩ = false ∧ w.frozen? ⟨b, 6, none⟩ = false ∧ w.frozen? ⟨b, 7, none⟩ = false ∧ w.frozen? ⟨b, 8, none⟩ = false ∧ w.frozen? ⟨b, 9, none⟩ = false :=
  ⟨cell_of_row _ _ 0 _ _ _ h, cell_of_row _ _ 1 _ _ _ h, cell_of_row _ _ 2 _ _ _ h, cell_of_row _ _ 3 _ _ _ h, cell_of_row _ _ 4 _ _ _ h, cell_of_row _ _ 5 _ _ _ h, cell_of_row _ _ 6 _ _ _ h, cell_of_row _ _ 7 _ _ _ h, cell_of_row _ _ 8 _ _ _ h, cell_of_row _ _ 9 _ _ _ h, free_row h 0, free_row h 1, free_row h 2, free_row h 3, free_row h 4, free_row h 5, free_row h 6, free_row h 7, free_row h 8, free_row h 9⟩

section
variable {w wx : World} {P : Pt} {s : St} {c : Ct} {rest : List (Ob w.heap.size)} {n : Nat}
theorem ae_lfindB (h : AE w wx P s c rest) (hi : Inv s n) (id : Int) : Calls Tryz.prog 84 #[.pointer (some ⟨P.bL, 0, none⟩), .int .i64 id] wx fun e w' => e = .returned (.int .i64 (placeE s.es id)) ∧ Below wx.heap.size wx w' := by
  obtain ⟨F, ⟨bW, v, ps, R, hm, hF⟩, h3⟩ := Env.li (j := 2) h rfl
  exact lfind_any hm hi.lt12 id
theorem ae_latB (h : AE w wx P s c rest) (i : Nat) {x : EntM} (hx : s.es[i]? = some x) : Calls Tryz.prog 17 #[.pointer (some ⟨P.bL, 0, none⟩), .int .i64 i] wx fun e w' => ∃ ao ac, e = .returned (.tuple #[entV x (.slice ao x.tok.attrs.length ac), .int .i64 0]) ∧ AtrS w' wx.heap.size ao x.tok.attrs ∧ Below wx.heap.size wx w' := by
  obtain ⟨F, ⟨bW, v, ps, R, hm, hF⟩, h3⟩ := Env.li (j := 2) h rfl
  exact lat_yes hm i hx
def tokO : Obj := .cells #[.int .i64 0, .string ⟨#[]⟩, .string ⟨#[]⟩, .string ⟨#[]⟩, .int .i64 0, .bool false, .int .i32 0, .bool false, .slice none 0 0] 52 (0, 0)
/-- Behind wx nothing was written, only made; the token's variable is laid. -/
structure Tk (wx W : World) : Prop where
  bel : Below wx.heap.size wx W
  box : W.heap[wx.heap.size]? = some tokO
theorem Tk.start (wx : World) : Tk wx (wx.alloc (.cells #[.int .i64 0, .string ⟨#[]⟩, .string ⟨#[]⟩, .string ⟨#[]⟩, .int .i64 0, .bool false, .int .i32 0, .bool false, .slice none 0 0] 52)) := ⟨below_newAc _ _, heap_alloc_new wx _⟩
theorem Tk.more {wx W W' : World} (h : Tk wx W) (hb : Below W.heap.size W W') : Tk wx W' := ⟨h.bel.trans (hb.mono h.bel.size), (hb.block _ (lt_of_block h.box)).trans h.box⟩
theorem Tk.alloc {wx W : World} (h : Tk wx W) (o : Obj) : Tk wx (W.alloc o) := h.more (below_newAc _ _)
theorem Tk.drew {wx W : World} (h : Tk wx W) : Tk wx W.drew := h.more (Below.refl _ _).drew
theorem Tk.put {wx W : World} (h : Tk wx W) (b : Nat) (hb : wx.heap.size < b) (vs : List Value) : Tk wx (W.setCells b 0 vs) := by
  refine ⟨h.bel.trans ((run_mod (F := fun k => k = b) b rfl vs 0 W).below h.bel.size (fun k e => by omega)), ?_⟩
  rw [run_other b wx.heap.size (by omega) vs 0 W]
  exact h.box
theorem Tk.ne {wx W : World} (h : Tk wx W) : wx.heap.size < W.heap.size := lt_of_block h.box
theorem Tk.fin {wx W : World} (h : Tk wx W) (v0 v1 v2 v3 v4 v5 v6 v7 v8 : Value) : (W.setCells wx.heap.size 0 [v0, v1, v2, v3, v4, v5, v6, v7, v8]).heap[wx.heap.size]? = some (.cells #[v0, v1, v2, v3, v4, v5, v6, v7, v8] 52 (0, 0)) ∧ Below wx.heap.size wx (W.setCells wx.heap.size 0 [v0, v1, v2, v3, v4, v5, v6, v7, v8]) :=
  ⟨run_whole wx.heap.size [v0, v1, v2, v3, v4, v5, v6, v7, v8] W _ _ h.box rfl, h.bel.trans ((run_mod (F := fun k => k = wx.heap.size) wx.heap.size rfl _ 0 W).below h.bel.size (fun k e => by omega))⟩
theorem Tk.cells {wx W : World} (h : Tk wx W) : (W.cell? ⟨wx.heap.size, 0, none⟩ = some (.int .i64 0) ∧ W.cell? ⟨wx.heap.size, 1, none⟩ = some (.string ⟨#[]⟩) ∧ W.cell? ⟨wx.heap.size, 2, none⟩ = some (.string ⟨#[]⟩) ∧ W.cell? ⟨wx.heap.size, 3, none⟩ = some (.string ⟨#[]⟩) ∧ W.cell? ⟨wx.heap.size, 4, none⟩ = some (.int .i64 0) ∧ W.cell? ⟨wx.heap.size, 5, none⟩ = some (.bool false) ∧ W.cell? ⟨wx.heap.size, 6, none⟩ = some (.int .i32 0) ∧ W.cell? ⟨wx.heap.size, 7, none⟩ = some (.bool false) ∧ W.cell? ⟨wx.heap.size, 8, none⟩ = some (.slice none 0 0)) ∧ (W.frozen? ⟨wx.heap.size, 0, none⟩ = false ∧ W.frozen? ⟨wx.heap.size, 1, none⟩ = false ∧ W.frozen? ⟨wx.heap.size, 2, none⟩ = false ∧ W.frozen? ⟨wx.heap.size, 3, none⟩ = false ∧ W.frozen? ⟨wx.heap.size, 4, none⟩ = false ∧ W.frozen? ⟨wx.heap.size, 5, none⟩ = false ∧ W.frozen? ⟨wx.heap.size, 6, none⟩ = false ∧ W.frozen? ⟨wx.heap.size, 7, none⟩ = false ∧ W.frozen? ⟨wx.heap.size, 8, none⟩ = false) := by
  have hb := h.box
  unfold tokO at hb
  obtain ⟨a, b, c, d, e, f, g, i, j, k⟩ := nine hb
  exact ⟨⟨a, b, c, d, e, f, g, i, j⟩, k 0, k 1, k 2, k 3, k 4, k 5, k 6, k 7, k 8⟩
theorem kept_new {W w1 : World} {o : Obj} (hb : Below (W.alloc o).heap.size (W.alloc o) w1) : w1.heap[W.heap.size]? = some o := (hb.block _ (by simp)).trans (heap_alloc_new W o)
theorem kept_newD {W w1 : World} {o : Obj} (hb : Below (W.alloc o).drew.heap.size (W.alloc o).drew w1) : w1.heap[W.heap.size]? = some o := (hb.block _ (show W.heap.size < (W.alloc o).heap.size by simp)).trans (heap_alloc_new W o)
theorem kept_old {W w1 : World} {b : Nat} {o : Obj} (h : W.heap[b]? = some o) (hb : Below W.heap.size W w1) : w1.heap[b]? = some o := (hb.block _ (lt_of_block h)).trans h
def entZ : Obj := .cells #[.int .i64 0, .int .i64 0, .string ⟨#[]⟩, .string ⟨#[]⟩, .string ⟨#[]⟩, .int .i64 0, .bool false, .int .i32 0, .bool false, .slice none 0 0] 54 (0, 0)
set_option maxHeartbeats 4000000 in
theorem gtoken_any (h : AE w wx P s c rest) (hi : Inv s n) (id : Int) (hp : 0 ≤ placeE s.es id) : Calls Tryz.prog 123 #[.pointer (some ⟨P.bG, 0, none⟩), .int .i64 id] wx fun e w' => ∃ ao ac, e = .returned (.agg ((tokE s.es id).cells (.slice ao (tokE s.es id).attrs.length ac)).toArray) ∧ AttrsIn w' ao (tokE s.es id).attrs ∧ Below wx.heap.size wx w' := by
  obtain ⟨i, x, hpl, hx, hxn, hid⟩ := place_at hp
  rw [tokE_at hpl hx]
  have hta : x.tok.attrs = [] := by
    rcases hi.ent x (List.mem_of_getElem? hx) with e | ⟨_, _, e⟩
    · exact absurd (hxn.symm.trans e) hid
    · exact e
  have HTA := hide hta
  clear hta
  have hb0 := Tk.start wx
  have HF : Hid (∀ W, Tk wx W → Calls Tryz.prog 84 #[.pointer (some ⟨P.bL, 0, none⟩), .int .i64 id] W fun e w' => e = .returned (.int .i64 i) ∧ Below W.heap.size W w' ∧ Tk wx w') := hide (fun W hW => by
    have := ae_lfindB (h.more hW.bel) hi id
    rw [hpl] at this
    exact this.mono fun _ _ ⟨a, b⟩ => ⟨a, b, hW.more b⟩)
  have HA : Hid (∀ W, Tk wx W → Calls Tryz.prog 17 #[.pointer (some ⟨P.bL, 0, none⟩), .int .i64 i] W fun e w' => ∃ ao ac, e = .returned (.tuple #[entV x (.slice ao x.tok.attrs.length ac), .int .i64 0]) ∧ AtrS w' W.heap.size ao x.tok.attrs ∧ Below W.heap.size W w' ∧ Tk wx w') := hide (fun W hW => (ae_latB (h.more hW.bel) i hx).mono fun _ _ ⟨a, b, c, d, e⟩ => ⟨a, b, c, d, e, hW.more e⟩)
  have HC := hide (fun W (hW : Tk wx W) => (h.more hW.bel).cells.2.2.1)
  have HB0 := hide hb0
  have g2 := (h.more hb0.bel).cells.2.2.1
  have HNE := hide (fun W (hW : Tk wx W) => (h.more hW.bel).ne)
  obtain ⟨ne1, ne2⟩ := (h.more hb0.bel).ne
  clear h hi hp hpl hx hb0
  obtain ⟨x0, x1, x2, t0, t1, t2, t3, t4, t5, t6, t7, ta⟩ := x
  simp only [TokM.cells, entV] at *
  subst hxn
  go_enter Tryz.func123, Tryz.ntmps123
  go_wp2
  rename_i Q1 K1 hK1
  have HL : Hid (∀ (W : World) (b ac : Nat) (ao : Option Addr) (u2 u3 u6 u7 u8 u9 u10 u11 u12 u13 u14 u15 u16 u17 u18 u19 u20 u21 u22 : Value), Tk wx W → wx.heap.size < b → W.heap[b]? = some (.cells #[.int .i64 x0, .int .i64 t0, .string t1, .string t2, .string t3, .int .i64 t4, .bool t5, .int .i32 t6, .bool t7, .slice ao ta.length ac] 54 (0, 0)) → K1 { tmps := #[.pointer (some ⟨P.bG, 0, none⟩), .int .i64 x0, u2, u3, .pointer (some ⟨wx.heap.size, 0, none⟩), .pointer (some ⟨b, 0, none⟩), u6, u7, u8, u9, u10, u11, u12, u13, u14, u15, u16, u17, u18, u19, u20, u21, u22], defers := [] } W) := hide (by
    intro W b ac ao u2 u3 u6 u7 u8 u9 u10 u11 u12 u13 u14 u15 u16 u17 u18 u19 u20 u21 u22 ht hlt hb
    have HT := hide ht
    obtain ⟨a0, a1, a2, a3, a4, a5, a6, a7, a8, a9, b0, b1, b2, b3, b4, b5, b6, b7, b8, b9⟩ := ten hb
    obtain ⟨⟨d0, d1, d2, d3, d4, d5, d6, d7, d8⟩, f0, f1, f2, f3, f4, f5, f6, f7, f8⟩ := ht.cells
    have n1 : ¬ b = wx.heap.size := by omega
    have n2 : ¬ wx.heap.size = b := by omega
    clear HF HA HC HB0 HNE g2 ne1 ne2 ht hlt hb
    apply hK1
    clear hK1
    go_wp2
    obtain ⟨R1, R2⟩ := (unhide HT).fin (.int .i64 t0) (.string t1) (.string t2) (.string t3) (.int .i64 t4) (.bool t5) (.int .i32 t6) (.bool t7) (.slice ao ta.length ac)
    exact bodyPost_ret (tok_ret (p := 4) Tryz.results123 (b := wx.heap.size) R1 _ rfl) rfl ⟨ao, ac, rfl, ⟨fun i y hy => by rw [show ta = [] from unhide HTA] at hy; simp at hy⟩, R2⟩)
  clear hK1
  generalize hW0 : wx.alloc (.cells #[.int .i64 0, .string ⟨#[]⟩, .string ⟨#[]⟩, .string ⟨#[]⟩, .int .i64 0, .bool false, .int .i32 0, .bool false, .slice none 0 0] 52) = W0 at *
  clear hW0
  have kz : (W0.alloc entZ).cell? ⟨P.bG, 2, none⟩ = some (.pointer (some ⟨P.bL, 0, none⟩)) := (unhide HC) _ ((unhide HB0).alloc _)
  unfold entZ at kz
  go_region_with (first
    | (go_at_call 84; refine ((unhide HF) _ (by first | exact unhide HB0 | exact (unhide HB0).drew | exact (unhide HB0).alloc _ | exact ((unhide HB0).alloc _).drew | exact (unhide HB0).drew.alloc _)).mono ?_; rintro e w1 ⟨rfl, hb1, ht1⟩; (first | (have hx1 : w1.heap[W0.heap.size]? = some entZ := kept_new hb1; have HX1 := hide hx1; clear hx1) | (have hx1 : w1.heap[W0.heap.size]? = some entZ := kept_newD hb1; have HX1 := hide hx1; clear hx1) | skip); have HT1 := hide ht1; have g3 := (unhide HC) w1 ht1; have kz1 : (w1.alloc entZ).cell? ⟨P.bG, 2, none⟩ = some (.pointer (some ⟨P.bL, 0, none⟩)) := (unhide HC) _ (ht1.alloc _); unfold entZ at kz1; clear hb1 ht1)
    | (go_at_call 17; refine ((unhide HA) _ (by first | exact unhide HT1 | exact (unhide HT1).drew | exact (unhide HT1).alloc _ | exact ((unhide HT1).alloc _).drew | exact (unhide HT1).drew.alloc _)).mono ?_; rintro e w2 ⟨ao, ac, rfl, hA2, hb2, ht2⟩; have HT2 := hide ht2; (first | (have hx2 : w2.heap[w1.heap.size]? = some entZ := kept_new hb2; have HX2 := hide hx2; unfold entZ at hx2; obtain ⟨a0, a1, a2, a3, a4, a5, a6, a7, a8, a9, b0, b1, b2, b3, b4, b5, b6, b7, b8, b9⟩ := ten hx2; clear hx2) | (have hx2 : w2.heap[w1.heap.size]? = some entZ := kept_newD hb2; have HX2 := hide hx2; unfold entZ at hx2; obtain ⟨a0, a1, a2, a3, a4, a5, a6, a7, a8, a9, b0, b1, b2, b3, b4, b5, b6, b7, b8, b9⟩ := ten hx2; clear hx2) | (have hx2 := kept_old (unhide HX1) hb2; have HX2 := hide hx2; unfold entZ at hx2; obtain ⟨a0, a1, a2, a3, a4, a5, a6, a7, a8, a9, b0, b1, b2, b3, b4, b5, b6, b7, b8, b9⟩ := ten hx2; clear hx2) | skip); clear hb2 hA2 ht2))
  all_goals go_wp2
  all_goals (first
    | exact (unhide HL) (w2.alloc _) w2.heap.size ac ao _ _ _ _ _ _ _ _ _ _ _ _ _ _ _ _ _ _ _ ((unhide HT2).alloc _) (unhide HT2).ne (heap_alloc_new w2 _)
    | exact (unhide HL) (w2.setCells W0.heap.size 0 [.int .i64 x0, .int .i64 t0, .string t1, .string t2, .string t3, .int .i64 t4, .bool t5, .int .i32 t6, .bool t7, .slice ao ta.length ac]) W0.heap.size ac ao _ _ _ _ _ _ _ _ _ _ _ _ _ _ _ _ _ _ _ ((unhide HT2).put _ (unhide HB0).ne _) (unhide HB0).ne (run_whole W0.heap.size _ w2 _ _ (unhide HX2) rfl)
    | exact (unhide HL) (w2.setCells w1.heap.size 0 [.int .i64 x0, .int .i64 t0, .string t1, .string t2, .string t3, .int .i64 t4, .bool t5, .int .i32 t6, .bool t7, .slice ao ta.length ac]) w1.heap.size ac ao _ _ _ _ _ _ _ _ _ _ _ _ _ _ _ _ _ _ _ ((unhide HT2).put _ (unhide HT1).ne _) (unhide HT1).ne (run_whole w1.heap.size _ w2 _ _ (unhide HX2) rfl))
end
end Go.Proofs.YtkakncngkmoegaaGreat
