/-
  A task in memory that is one's own: own.
-/
import Derived.Test.YtdfcdgjmjionbaaTc
namespace Go.Proofs.Ytdfcdgjmjionbaa
open Go.RowKit Go.Lib

/-- A value is that task; its bytes and acts lie in blocks of F. -/
structure TkIn (w : World) (F : Nat → Prop) (t : Tk) (x : TkV) : Prop where
  what : x.what = t.what
  bl : x.bl = t.bs.length
  al : x.al = t.acts.length
  bs : RowIn w F x.ba (bytesV t.bs)
  as_ : RowIn w F x.aa (actRow t.acts)
  bsz : t.bs.length ≤ 140737488351232
  asz : t.acts.length * 64 ≤ 140737488351232
section
variable {w w' : World} {F G : Nat → Prop} {t : Tk} {x : TkV}
theorem TkIn.mod (h : TkIn w F t x) (hm : Mod G w w') (hd : ∀ k, F k → ¬ G k) : TkIn w' F t x := ⟨h.what, h.bl, h.al, h.bs.mod hm hd, h.as_.mod hm hd, h.bsz, h.asz⟩
theorem TkIn.below (h : TkIn w F t x) (hb : Below w.heap.size w w') : TkIn w' F t x := ⟨h.what, h.bl, h.al, h.bs.below hb, h.as_.below hb, h.bsz, h.asz⟩
theorem TkIn.mono (h : TkIn w F t x) (hFG : ∀ k, k < w.heap.size → F k → G k) : TkIn w G t x := ⟨h.what, h.bl, h.al, h.bs.mono hFG, h.as_.mono hFG, h.bsz, h.asz⟩
theorem TkIn.z (w : World) (F : Nat → Prop) : TkIn w F tk0 tkZ := ⟨rfl, rfl, rfl, RowIn.nil _ _ _, RowIn.nil _ _ _, by decide, by decide⟩
end

theorem tk_ret {f : Func} {p : Tmp} (hr : f.results = #[.cell p 34]) {W : World} {b : Nat} {x : TkV} (h : W.heap[b]? = some (.cells x.cells 34 (0, 0))) (tmps : Array Value) (hp : tmps.getD p undef = .pointer (some ⟨b, 0, none⟩)) :
    (results f tmps).run Try.prog W = .ok x.val W := by
  rw [results_cell hr tmps Try.prog W, hp]
  have h2 := run_loadVar_row W b 34 34 x.cells (0, 0) _ h Try.underlying34 rfl (by kernel_rfl)
  simp [asAddr, h2, TkV.val]

set_option maxRecDepth 10000 in
theorem own_any {F : Nat → Prop} (t : Tk) (x : TkV) (w : World) (h : TkIn w F t x) :
    Calls Try.prog 26 #[x.val] w fun e w' => ∃ y : TkV, e = .returned y.val ∧ Below w.heap.size w w' ∧ TkIn w' (fun k => w.heap.size ≤ k) t y := by
  obtain ⟨a0, b1, b2, b3, c1, c2, c3⟩ := x
  obtain ⟨rfl, rfl, rfl, hbs, has, hbz, haz⟩ := h
  have HC1 : Hid (∀ W, Below w.heap.size w W → Calls Try.prog 31 #[.slice b1 t.bs.length b3] W fun e w' => ∃ ad c, e = .returned (.slice ad t.bs.length c) ∧ Below W.heap.size W w' ∧ RowIn w' (fun k => W.heap.size ≤ k) ad (bytesV t.bs)) := hide fun W hb => newBytes_any t.bs b1 b3 W (hbs.below hb) hbz
  have HC2 : Hid (∀ W, Below w.heap.size w W → Calls Try.prog 32 #[.slice c1 t.acts.length c3] W fun e w' => ∃ ad c, e = .returned (.slice ad t.acts.length c) ∧ Below W.heap.size W w' ∧ RowIn w' (fun k => W.heap.size ≤ k) ad (actRow t.acts)) := hide fun W hb => newActs_any t.acts c1 c3 W (has.below hb) haz
  have HZ := hide (And.intro hbz haz)
  clear hbs has hbz haz
  simp only [TkV.val, TkV.cells]
  have hb0 := (below_new w (.cells #[.int .i64 t.what, .slice b1 t.bs.length b3, .slice c1 t.acts.length c3] 34)).alloc (by simp) (.cells #[.int .i64 0, .slice none 0 0, .slice none 0 0] 34)
  have hr0 : (w.alloc (.cells #[.int .i64 t.what, .slice b1 t.bs.length b3, .slice c1 t.acts.length c3] 34)).heap[w.heap.size]? = _ := heap_alloc_new w _
  have hr1 := (Below.heap_alloc (w.alloc (.cells #[.int .i64 t.what, .slice b1 t.bs.length b3, .slice c1 t.acts.length c3] 34)) (.cells #[.int .i64 0, .slice none 0 0, .slice none 0 0] 34) w.heap.size (lt_of_block hr0)).trans hr0
  have hr2 := heap_alloc_new (w.alloc (.cells #[.int .i64 t.what, .slice b1 t.bs.length b3, .slice c1 t.acts.length c3] 34)) (.cells #[.int .i64 0, .slice none 0 0, .slice none 0 0] 34)
  simp only [World.size_alloc] at hr2
  have HB0 := hide hb0
  have HR1 := hide hr1
  have HR2 := hide hr2
  clear hb0 hr0 hr1 hr2
  go_enter Try.func26, Try.ntmps26
  go_wp2_with (first
    | (go_at_call 31; go_must (refine (unhide HC1 _ (unhide HB0)).mono ?_); rintro e w1 ⟨ad, cp, rfl, hb, hr⟩
       have hq1 := (hb.block w.heap.size (lt_of_block (unhide HR1))).trans (unhide HR1)
       have hq2 := (hb.block (w.heap.size + 1) (lt_of_block (unhide HR2))).trans (unhide HR2)
       have HB1 := hide ((unhide HB0).trans (hb.mono (unhide HB0).size)); have HQ1 := hide hq1; have HQ2 := hide hq2; have HRB := hide hr
       have k0 := (cell_of_row _ _ 0 _ _ _ hq1).trans (by rfl : _ = some (.int .i64 t.what)); have k1 := (cell_of_row _ _ 1 _ _ _ hq1).trans (by rfl : _ = some (.slice b1 t.bs.length b3)); have k2 := (cell_of_row _ _ 2 _ _ _ hq1).trans (by rfl : _ = some (.slice c1 t.acts.length c3))
       have kf : ∀ j, w1.frozen? ⟨w.heap.size, j, none⟩ = false := fun j => by simp [World.frozen?, hq1]
       clear hb hr hq1 hq2)
    | (go_at_call 32
       have hm1 := Mod.setCell (F := (· = w.heap.size)) w1 ⟨w.heap.size, 1, none⟩ (.slice ad t.bs.length cp) rfl
       have HS := hide (heap_setCell_same _ _ 1 _ _ (.slice ad t.bs.length cp) (unhide HQ1))
       have HS2 := hide ((Below.heap_setCell w1 ⟨w.heap.size, 1, none⟩ (.slice ad t.bs.length cp) (w.heap.size + 1) (by show w.heap.size + 1 ≠ w.heap.size; omega)).trans (unhide HQ2))
       have HBS := hide ((unhide HB1).setCell (p := ⟨w.heap.size, 1, none⟩) (Nat.le_refl _) (.slice ad t.bs.length cp))
       have HRS := hide (((unhide HRB).mod hm1 (fun k hk hx => by simp only [World.size_alloc] at hk; omega)).mono (G := fun k => w.heap.size + 2 ≤ k) (fun k _ hk => by simpa [World.size_alloc] using hk))
       clear hm1
       go_must (refine (unhide HC2 _ (unhide HBS)).mono ?_); rintro e w2 ⟨ad2, cp2, rfl, hb, hr⟩
       have hq1 := (hb.block w.heap.size (lt_of_block (unhide HS))).trans (unhide HS)
       have hq2 := (hb.block (w.heap.size + 1) (lt_of_block (unhide HS2))).trans (unhide HS2)
       simp only [List.setIfInBounds_toArray, List.set_cons_succ, List.set_cons_zero] at hq1
       have HB2 := hide ((unhide HBS).trans (hb.mono (unhide HBS).size)); have HQ3 := hide hq1; have HQ4 := hide hq2
       have HR1' := hide ((unhide HRS).below hb)
       have HR2' := hide (hr.mono (G := fun k => w.heap.size + 2 ≤ k) (fun k _ hk => by have := lt_of_block (unhide HQ2); simp at hk; omega))
       have m0 := (cell_of_row _ _ 0 _ _ _ hq1).trans (by rfl : _ = some (.int .i64 t.what)); have m1 := (cell_of_row _ _ 1 _ _ _ hq1).trans (by rfl : _ = some (.slice ad t.bs.length cp)); have m2 := (cell_of_row _ _ 2 _ _ _ hq1).trans (by rfl : _ = some (.slice c1 t.acts.length c3))
       have n0 := (cell_of_row _ _ 0 _ _ _ hq2).trans (by rfl : _ = some (.int .i64 0)); have n1 := (cell_of_row _ _ 1 _ _ _ hq2).trans (by rfl : _ = some (.slice none 0 0)); have n2 := (cell_of_row _ _ 2 _ _ _ hq2).trans (by rfl : _ = some (.slice none 0 0))
       have mf : ∀ j, w2.frozen? ⟨w.heap.size, j, none⟩ = false := fun j => by simp [World.frozen?, hq1]
       have nf : ∀ j, w2.frozen? ⟨w.heap.size + 1, j, none⟩ = false := fun j => by simp [World.frozen?, hq2]
       clear hb hr hq1 hq2 k0 k1 k2 kf))
  have hq3 := heap_setCell_same _ _ 2 _ _ (.slice ad2 t.acts.length cp2) (unhide HQ3)
  have hq4 := (Below.heap_setCell w2 ⟨w.heap.size, 2, none⟩ (.slice ad2 t.acts.length cp2) (w.heap.size + 1) (by show w.heap.size + 1 ≠ w.heap.size; omega)).trans (unhide HQ4)
  have h1 := heap_setCell_same _ (w.heap.size + 1) 0 _ _ (.int .i64 t.what) hq4
  have h2 := heap_setCell_same _ (w.heap.size + 1) 1 _ _ (.slice ad t.bs.length cp) h1
  have h3 := heap_setCell_same _ (w.heap.size + 1) 2 _ _ (.slice ad2 t.acts.length cp2) h2
  have hm := (((Mod.setCell (F := fun k => k = w.heap.size ∨ k = w.heap.size + 1) w2 ⟨w.heap.size, 2, none⟩ (.slice ad2 t.acts.length cp2) (.inl rfl)).trans (Mod.setCell _ ⟨w.heap.size + 1, 0, none⟩ (.int .i64 t.what) (.inr rfl))).trans (Mod.setCell _ ⟨w.heap.size + 1, 1, none⟩ (.slice ad t.bs.length cp) (.inr rfl))).trans (Mod.setCell _ ⟨w.heap.size + 1, 2, none⟩ (.slice ad2 t.acts.length cp2) (.inr rfl))
  have hbm := (unhide HB2).trans (hm.below (B := w.heap.size) (unhide HB2).size (by rintro k (h | h) <;> omega))
  refine bodyPost_ret (v := TkV.val ⟨t.what, ad, t.bs.length, cp, ad2, t.acts.length, cp2⟩) (tk_ret Try.results26 (b := w.heap.size + 1) (x := ⟨t.what, ad, t.bs.length, cp, ad2, t.acts.length, cp2⟩) h3 _ rfl) rfl ⟨_, rfl, hbm, rfl, rfl, rfl, ?_, ?_, (unhide HZ).1, (unhide HZ).2⟩
  · exact ((unhide HR1').mod hm (by rintro k hk (h | h) <;> omega)).mono (fun k _ hk => by omega)
  · exact ((unhide HR2').mod hm (by rintro k hk (h | h) <;> omega)).mono (fun k _ hk => by omega)
end Go.Proofs.Ytdfcdgjmjionbaa
