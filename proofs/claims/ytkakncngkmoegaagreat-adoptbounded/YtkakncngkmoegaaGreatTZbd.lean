/-
  The document's list: a marker put last. The document's list: a marker put last, walked. Stack, active, place and the document's list together, for stage 15. 
-/
import Derived.Test.YtkakncngkmoegaaGreatTZbc
import Derived.Test.YtkakncngkmoegaaGreatTZar
import Derived.Test.YtkakncngkmoegaaGreatTZau
namespace Go.Proofs.YtkakncngkmoegaaGreat
open Go.RowKit Go.Sort

def markQ : EntQ := ⟨-1, tok0, none, 0⟩
section
variable {w w1 : World} {base bQ bR : Nat} {v v' : Value} {qs : List EntQ} {F : Nat → Prop}
/-- One more entry laid last. -/
theorem QlM.grow (h : QlM w base bQ bR v qs) (hF : ∀ k, F k ↔ footQ bQ v k) (x : EntQ) (hx : AttrsIn w x.a x.tok.attrs ∧ ∀ b off, x.a = some ⟨b, off, none⟩ → b < base)
    (hown : w1.ownsRow base 54 10 v' (qs.length + 1) (qRow qs ++ x.cells)) (hgrow : w.grownBy w1 v.ownBlock) (hv : ∀ k, v'.ownBlock = some k → v.ownBlock = some k ∨ w.heap.size ≤ k) :
    UpdQ F w (w1.setCell ⟨bQ, 1, none⟩ v') base bQ bR (qs ++ [x]) := by
  have hlt := lt_of_block h.box
  have hlo := h.lo
  have hne : ∀ k, v.ownBlock = some k → k ≠ bQ := fun k hk e => by
    obtain ⟨cur, hc⟩ := ownsRow_block h.own hk
    rw [e, h.box] at hc
    cases hc
  have hm1 : Mod (fun k => v.ownBlock = some k) w w1 := Mod.grown hgrow (fun k e => e)
  have hb1 := (hm1.block bQ hlt (fun e => hne _ e rfl)).trans h.box
  have hne' : ∀ k, v'.ownBlock = some k → k ≠ bQ := fun k hk => by
    rcases hv k hk with e | e
    · exact hne k e
    · omega
  have hm : Mod F w (w1.setCell ⟨bQ, 1, none⟩ v') := (hm1.mono (fun k _ e => (hF k).2 (.inr e))).trans (Mod.setCell _ _ _ ((hF _).2 (.inl rfl)))
  refine ⟨footQ bQ v', ⟨v', ⟨?_, ?_, fun i y hy => ?_, h.lo⟩, fun _ => Iff.rfl⟩, hm, ?_⟩
  · have := heap_setCell_same w1 bQ 1 #[.pointer (some ⟨bR, 0, none⟩), v] 104 v' hb1
    simpa using this
  · have e : qRow (qs ++ [x]) = qRow qs ++ x.cells := by simp [qRow]
    rw [List.length_append, e]
    exact ownsRow_setCell_other hown (fun e => hne' _ e rfl) _
  · have hL : AttrsIn w y.a y.tok.attrs ∧ ∀ b off, y.a = some ⟨b, off, none⟩ → b < base := by
      by_cases hl : i < qs.length
      · rw [List.getElem?_append_left hl] at hy; exact h.attrs i y hy
      · rw [List.getElem?_append_right (by omega)] at hy
        have := List.mem_of_getElem? hy
        simp at this; subst this; exact hx
    refine ⟨hL.1.mod (fun b off e => ?_), hL.2⟩
    have hb := hL.2 b off e
    exact hm.block b (by omega) (fun e => by have := (h.lt ((hF b).1 e)).1; omega)
  · rintro k (rfl | hk)
    · exact .inl ((hF _).2 (.inl rfl))
    · exact (hv k hk).imp (fun e => (hF k).2 (.inr e)) id
end
end Go.Proofs.YtkakncngkmoegaaGreat

namespace Go.Proofs.YtkakncngkmoegaaGreat
open Go.RowKit Go.Sort

theorem Tryz.info54 : (Tryz.prog.info? 54).map (fun i => (i.zero, i.size, i.bytes)) = some (some zeroEV, 10, 112) := by kernel_rfl

section
variable {w : World} {base bQ bR : Nat} {v : Value} {qs : List EntQ} {F : Nat → Prop}
set_option maxHeartbeats 2000000 in
theorem qmark_any (h : QlM w base bQ bR v qs) (hF : ∀ k, F k ↔ footQ bQ v k) (hl : qs.length < 1000000000000) : Calls Tryz.prog 32 #[.pointer (some ⟨bQ, 0, none⟩)] w fun e w' => e = .returned (.tuple #[]) ∧ UpdQ F w w' base bQ bR (qs ++ [markQ]) := by
  obtain ⟨c0, c1, f1⟩ := h.cells
  have HH := hide h
  have HFF := hide hF
  have f1 := f1 1
  have HL := hide hl
  have hlt := lt_of_block h.box
  obtain ⟨i0, hi0, hz0, hz1, hz2⟩ := info_parts Tryz.info54
  have HOW := hide (fun (o : Obj) => (h.own).alloc o)
  have HB := hide (Nat.le_trans h.lo (Nat.le_of_lt hlt))
  have HGR : Hid (∀ (o : Obj) (w1 : World) (v' : Value), w1.ownsRow base 54 10 v' (qs.length + 1) (qRow qs ++ markQ.cells) → (w.alloc o).grownBy w1 v.ownBlock → (∀ k, v'.ownBlock = some k → v.ownBlock = some k ∨ k = w.heap.size + 1) → UpdQ F w (w1.setCell ⟨bQ, 1, none⟩ v') base bQ bR (qs ++ [markQ]) ∧ w1.cell? ⟨bQ, 1, none⟩ = some v ∧ w1.frozen? ⟨bQ, 1, none⟩ = false) := hide (fun o w1 v' hown hg hv => by
    have hb := below_newAc w o
    have h2 := h.below hb
    have hm : Mod (fun k => v.ownBlock = some k) (w.alloc o) w1 := Mod.grown hg (fun k e => e)
    have hbq := (hm.block bQ (lt_of_block h2.box) (fun e => by
      obtain ⟨cur, hc⟩ := ownsRow_block h2.own e
      rw [h2.box] at hc
      cases hc)).trans h2.box
    obtain ⟨F', u1, u2, u3⟩ := h2.grow hF markQ ⟨⟨fun i x hi => by simp [markQ, tok0] at hi⟩, fun b off e => by simp [markQ] at e⟩ hown hg (fun k hk => (hv k hk).imp id (fun e => by simp; omega))
    exact ⟨⟨F', u1, (Mod.of_below hb).trans u2, fun k hk => (u3 k hk).imp id (fun e => Nat.le_trans hb.size e)⟩, cell_of_row _ _ 1 _ _ _ hbq, by simp [World.frozen?, hbq]⟩)
  have HNW : Hid (∀ (j : Nat) (u : Value), markQ.cells[j]? = some u → (w.alloc (.cells markQ.cells.toArray 54)).cell? ((⟨w.heap.size, 0, none⟩ : Addr).add j) = some u) := hide (World.news_of_block (w := w.alloc (.cells markQ.cells.toArray 54)) (B := w.heap.size) (t := 54) (fr := (0, 0)) (heap_alloc_new w _))
  clear h hF hl
  go_enter Tryz.func32, Tryz.ntmps32
  go_wp2_with (at_builtin; go_must (refine wpList_append_lies _ (by rfl) _ _ 102 (by rfl) base 54 i0 _ 10 112 (by kernel_rfl) hi0 hz0 hz1 hz2 rfl (by omega) v qs.length (qRow qs) (by rfl) ((unhide HOW) _) ⟨w.heap.size, 0, none⟩ 1 1 markQ.cells (by rfl) (by rfl) (by exact unhide HNW) (by simp [markQ, tok0, EntQ.cells, EntQ.av, TokM.cells, Value.oneCell']) (by omega) (by have := unhide HL; unfold maxLen; omega) (by have := unhide HL; omega) (by have := unhide HB; simp; omega) (w.heap.size + 1) (by simp) ?_); intro g' cap' w1 hown1 hgrow hat hltg; obtain ⟨hu, d1, d2⟩ := (unhide HGR) _ w1 _ hown1 hgrow (fun k e => by simp only [Value.ownBlock, Option.some.injEq] at e; subst e; exact hat); have HU := hide hu; clear hown1 hgrow hat hltg hu c0 c1 f1)
  exact ⟨rfl, _, results_none rfl _ _ _, rfl, unhide HU⟩
end
end Go.Proofs.YtkakncngkmoegaaGreat

namespace Go.Proofs.YtkakncngkmoegaaGreat
open Go.RowKit

section
variable {w wx : World} {obs : List (Ob w.heap.size)} {i j bL bA : Nat} {os : List OneM} {es : List EntM}
theorem alput_any (h : Env w wx obs) (hi : obs[i]? = some (aO _ bA os)) (hj : obs[j]? = some (liOb _ bL bA es)) (hl : es.length < 1000000000000) (n : Int) (id : Int) (t : TokM) (a : Option Addr) (cap : Nat) (ht : AttrsIn wx a t.attrs) (hn : t.attrs.length ≤ 2513169434916) :
    Calls Tryz.prog 126 #[.pointer (some ⟨bL, 0, none⟩), .int .i64 n, .int .i64 id, .agg (t.cells (.slice a t.attrs.length cap)).toArray] wx fun e w' => e = .returned (.int .i64 (putA (keysO os) es n id)) ∧ Env w w' (obs.set j (liOb _ bL bA (putEAc (keysO os) es n id t))) := by
  obtain ⟨FA, h1⟩ := h.arK hi
  obtain ⟨F, ⟨bW, v, ps, R, hm, hF⟩, h3⟩ := h.li hj
  exact (lput_any h1 hm hF hl id t a cap ht hn n).mono fun _ _ ⟨a, b⟩ => ⟨a, h3 _ _ b⟩
theorem alswap_any (h : Env w wx obs) (hi : obs[i]? = some (aO _ bA os)) (hj : obs[j]? = some (liOb _ bL bA es)) (hl : es.length < 1000000000000) (old id : Int) :
    Calls Tryz.prog 190 #[.pointer (some ⟨bL, 0, none⟩), .int .i64 old, .int .i64 id] wx fun e w' => e = .returned (.int .i64 (swapA (keysO os) es old id)) ∧ Env w w' (obs.set j (liOb _ bL bA (swapEAc (keysO os) es old id))) := by
  obtain ⟨FA, h1⟩ := h.arK hi
  obtain ⟨F, ⟨bW, v, ps, R, hm, hF⟩, h3⟩ := h.li hj
  exact (lswap_any h1 hm hF hl old id).mono fun _ _ ⟨a, b⟩ => ⟨a, h3 _ _ b⟩
end
end Go.Proofs.YtkakncngkmoegaaGreat

namespace Go.Proofs.YtkakncngkmoegaaGreat
open Go.RowKit Go.Sort

/-- The document's list as an object; its entries' attributes lie in the world that came in. -/
structure QlC (w wx : World) (bQ bR : Nat) (v : Value) (qs : List EntQ) : Prop where
  box : wx.heap[bQ]? = some (.cells #[.pointer (some ⟨bR, 0, none⟩), v] 104 (0, 0))
  own : wx.ownsRow w.heap.size 54 10 v qs.length (qRow qs)
  attrs : ∀ (i : Nat) x, qs[i]? = some x → AttrsIn w x.a x.tok.attrs ∧ ∀ b off, x.a = some ⟨b, off, none⟩ → b < w.heap.size
  lo : w.heap.size ≤ bQ
theorem QlC.lt {w wx : World} {bQ bR : Nat} {v : Value} {qs : List EntQ} (h : QlC w wx bQ bR v qs) {k : Nat} (hk : footQ bQ v k) : w.heap.size ≤ k ∧ k < wx.heap.size := by
  rcases hk with rfl | hk
  · exact ⟨h.lo, lt_of_block h.box⟩
  · exact h.own.lt k hk
def qOb (w : World) (bQ bR : Nat) (qs : List EntQ) : Ob w.heap.size := ⟨fun wx F => ∃ v, QlC w wx bQ bR v qs ∧ ∀ k, F k ↔ footQ bQ v k, fun _ _ k ⟨_, h, hF⟩ hk => h.lt ((hF k).1 hk), fun _ _ _ _ ⟨v, h, hF⟩ hm hG => ⟨v, ⟨(hm.block bQ (lt_of_block h.box) (hG bQ ((hF bQ).2 (.inl rfl)))).trans h.box, ownsRow_kept h.own (fun k hk => hm.block k (h.own.lt k hk).2 (hG k ((hF k).2 (.inr hk)))), h.attrs, h.lo⟩, hF⟩⟩
section
variable {w wx : World} {obs : List (Ob w.heap.size)} {i bQ bR : Nat} {qs : List EntQ}
theorem QlC.of {v : Value} (hb : Below w.heap.size w wx) (h : QlC w wx bQ bR v qs) : QlM wx w.heap.size bQ bR v qs := ⟨h.box, h.own, fun i x hx => ⟨(h.attrs i x hx).1.mod (fun b off e => hb.block b ((h.attrs i x hx).2 b off e)), (h.attrs i x hx).2⟩, h.lo⟩
theorem QlC.to {v : Value} (hb : Below w.heap.size w wx) (h : QlM wx w.heap.size bQ bR v qs) : QlC w wx bQ bR v qs := ⟨h.box, h.own, fun i x hx => ⟨(h.attrs i x hx).1.mod (fun b off e => (hb.block b ((h.attrs i x hx).2 b off e)).symm), (h.attrs i x hx).2⟩, h.lo⟩
theorem Env.q (h : Env w wx obs) (hi : obs[i]? = some (qOb w bQ bR qs)) : ∃ F v, QlM wx w.heap.size bQ bR v qs ∧ (∀ k, F k ↔ footQ bQ v k) ∧ ∀ w2 qs2, UpdQ F wx w2 w.heap.size bQ bR qs2 → Env w w2 (obs.set i (qOb w bQ bR qs2)) := by
  obtain ⟨F, ⟨v, ho, hF⟩, _, hk⟩ := h.upd hi
  refine ⟨F, v, QlC.of h.bel ho, hF, fun w2 qs2 hu => ?_⟩
  obtain ⟨F', ⟨v2, h1, hF2⟩, h2, h3⟩ := hu
  have hb : Below w.heap.size w w2 := h.bel.trans (h2.below h.bel.size (fun k e => (ho.lt ((hF k).1 e)).1))
  exact hk w2 (qOb w bQ bR qs2) F' ⟨v2, QlC.to hb h1, hF2⟩ h2 h3
theorem aqnew_any (h : Env w wx obs) : Calls Tryz.prog 27 #[.pointer (some ⟨bR, 0, none⟩)] wx fun e w' => ∃ bQ, e = .returned (.pointer (some ⟨bQ, 0, none⟩)) ∧ Env w w' (obs ++ [qOb w bQ bR []]) := by
  refine (qnew_any (base := w.heap.size) h.bel.size).mono ?_
  rintro e w' ⟨bQ, F, rfl, ⟨v, h1, hF⟩, h2, h3⟩
  exact ⟨bQ, rfl, h.add h2 (o := qOb w bQ bR []) (F := F) ⟨v, QlC.to (h.bel.trans (h2.mono h.bel.size)) h1, hF⟩ h3⟩
end

def ptr3 (a b c : Nat) : Value := .agg #[.pointer (some ⟨a, 0, none⟩), .pointer (some ⟨b, 0, none⟩), .pointer (some ⟨c, 0, none⟩)]
theorem results_two_cells {fn : Func} {p q : Tmp} {t t' : TypeId} (h : fn.results = #[.cell p t, .cell q t']) (tmps : Array Value) (P : Program) (w : World) :
    (results fn tmps).run P w = ((asAddr (tmps.getD p undef)).run P w).andThen fun a w₁ => ((loadVar t a).run P w₁).andThen fun x w₂ => ((asAddr (tmps.getD q undef)).run P w₂).andThen fun b w₃ => ((loadVar t' b).run P w₃).andThen fun y w₄ => .ok (.tuple #[x, y]) w₄ := by
  simp only [results, h]
  simp [Sem.run_bind, Result.andThen]
/-- Nothing. -/
def goneOb (base : Nat) : Ob base := ⟨fun _ F => ∀ k, ¬ F k, fun _ _ k h hk => absurd hk (h k), fun _ _ _ _ h _ _ => h⟩
section
variable {w wx : World} {obs : List (Ob w.heap.size)}
/-- Some of the objects, in whatever order. -/
theorem Env.pick (h : Env w wx obs) (obs2 : List (Ob w.heap.size)) (js : List Nat) (hn : js.Nodup) (hj : ∀ (i : Nat) o, obs2[i]? = some o → ∃ j, js[i]? = some j ∧ obs[j]? = some o) : Env w wx obs2 := by
  obtain ⟨h0, Fs, h1, h2⟩ := h
  refine ⟨h0, (js.take obs2.length).map (fun j => (Fs[j]?).getD (fun _ => False)), fun i o hi => ?_, fun i k F G hik hF hG => ?_⟩
  · obtain ⟨j, e1, e2⟩ := hj i o hi
    obtain ⟨F, e3, e4⟩ := h1 j o e2
    have hlt := (List.getElem?_eq_some_iff.1 hi).1
    exact ⟨F, by rw [List.getElem?_map, List.getElem?_take, if_pos hlt, e1]; simp [e3], e4⟩
  · rw [List.getElem?_map, List.getElem?_take] at hF hG
    split at hF
    · split at hG
      · rename_i hi hk
        obtain ⟨j, e1, e2⟩ := hj i _ (List.getElem?_eq_getElem hi)
        obtain ⟨l, f1, f2⟩ := hj k _ (List.getElem?_eq_getElem hk)
        obtain ⟨A, e3, _⟩ := h1 j _ e2
        obtain ⟨B, f3, _⟩ := h1 l _ f2
        rw [e1] at hF
        rw [f1] at hG
        simp only [Option.map_some, e3, f3, Option.getD_some, Option.some.injEq] at hF hG
        subst hF; subst hG
        refine h2 j l A B (fun e => hik ?_) e3 f3
        subst e
        have a1 := (List.getElem?_eq_some_iff.1 e1)
        have b1 := (List.getElem?_eq_some_iff.1 f1)
        have hp := List.pairwise_iff_getElem.1 hn
        rcases Nat.lt_trichotomy i k with e | e | e
        · exact absurd (a1.2.trans b1.2.symm) (hp i k a1.1 b1.1 e)
        · exact e
        · exact absurd (b1.2.trans a1.2.symm) (hp k i b1.1 a1.1 e)
      · simp at hG
    · simp at hF
/-- A block of its own is written, and of no matter then. -/
theorem Env.lose {w' : World} (h : Env w wx obs) {i K : Nat} {cs : Array Value} {t : TypeId} (hi : obs[i]? = some (blkOb _ K cs t)) (hm : Mod (fun k => k = K) wx w') : Env w w' (obs.set i (goneOb _)) := by
  obtain ⟨F, ⟨_, _, hF⟩, _, hk⟩ := h.upd hi
  exact hk w' (goneOb _) (fun _ => False) (fun _ e => e) (hm.mono fun k _ e => (hF k).2 e) (fun _ e => e.elim)
/-- A cell of a block of its own is written. -/
theorem Env.setBlk (h : Env w wx obs) {i K : Nat} {cs : Array Value} {t : TypeId} (hi : obs[i]? = some (blkOb _ K cs t)) (j : Nat) (u : Value) : Env w (wx.setCell ⟨K, j, none⟩ u) (obs.set i (blkOb _ K (cs.setIfInBounds j u) t)) := by
  obtain ⟨F, ⟨h1, h2, hF⟩, _, hk⟩ := h.upd hi
  exact hk _ (blkOb _ K _ _) F ⟨h1, heap_setCell_same wx K j cs t u h2, hF⟩ (Mod.setCell (F := F) wx ⟨K, j, none⟩ u ((hF K).2 rfl)) (fun k e => .inl e)
end
theorem asAddr_run (P : Program) (W : World) (a : Addr) : (asAddr (.pointer (some a))).run P W = .ok a W := by simp [go_sem]
theorem build_ret {f : Func} {p q : Tmp} (hr : f.results = #[.cell p 28, .cell q 33]) {W : World} {b1 b2 : Nat} {u0 u1 u2 v0 v1 v2 : Value} (h1 : W.heap[b1]? = some (.cells #[u0, u1, u2] 28 (0, 0))) (h2 : W.heap[b2]? = some (.cells #[v0, v1, v2] 33 (0, 0))) (tmps : Array Value) (hp : tmps.getD p undef = .pointer (some ⟨b1, 0, none⟩)) (hq : tmps.getD q undef = .pointer (some ⟨b2, 0, none⟩)) :
    (results f tmps).run Tryz.prog W = .ok (.tuple #[.agg #[u0, u1, u2], .agg #[v0, v1, v2]]) W := by
  have l1 := run_loadVar_row (P := Tryz.prog) _ _ _ _ _ _ _ h1 Tryz.underlying28 rfl (by kernel_rfl)
  have l2 := run_loadVar_row (P := Tryz.prog) _ _ _ _ _ _ _ h2 Tryz.underlying33 rfl (by kernel_rfl)
  rw [results_two_cells hr tmps Tryz.prog W, hp, hq, asAddr_run]
  simp only [Result.andThen, asAddr_run, l1, l2]
section
variable {w : World}
set_option maxHeartbeats 1000000 in
theorem build_nil (w : World) : Calls Tryz.prog 7 #[.slice none 0 0] w fun e w' => ∃ bA bK bL bR bW bQ, e = .returned (.tuple #[ptr3 bA bK bL, ptr3 bR bW bQ]) ∧ Env w w' [aO _ bA [oneM 0], stOb _ bK bA (keysO [oneM 0]) [], liOb _ bL bA [], rO _ bR [oneM 0], rsO _ bW bR [], qOb w bQ bR []] := by
  have HE0 := hide (((Env.start w).boxed #[.pointer none, .pointer none, .pointer none] 28).boxed #[.pointer none, .pointer none, .pointer none] 33)
  have HA := hide (fun W obs (hW : Env w W obs) => anew_any hW)
  go_enter Tryz.func7, Tryz.ntmps7
  go_wp2_with (first
    | (go_at_call 22; refine ((unhide HA) _ _ (unhide HE0)).mono ?_; rintro e w1 ⟨bA, rfl, he1⟩; have HE1 := hide (he1.boxed #[.pointer (some ⟨bA, 0, none⟩), .pointer none, .pointer none] 28); clear he1)
    | (go_at_call 23; refine (asnew_any (bA := bA) (i := 2) (unhide HE1) rfl).mono ?_; rintro e w2 ⟨bK, rfl, he2⟩; have hb2 := he2.block (i := 3) rfl; have HE2 := hide (he2.setBlk (i := 3) rfl 1 (.pointer (some ⟨bK, 0, none⟩))); have k20 := cell_of_row _ _ 0 _ _ _ hb2; have k21 := cell_of_row _ _ 1 _ _ _ hb2; have k22 := cell_of_row _ _ 2 _ _ _ hb2; have f21 := free_row hb2 1; clear he2 hb2)
    | (go_at_call 24; refine (alnew_any (bA := bA) (i := 2) (unhide HE2) rfl).mono ?_; rintro e w3 ⟨bL, rfl, he3⟩; have hb3 := he3.block (i := 3) rfl; have HE3 := hide (he3.setBlk (i := 3) rfl 2 (.pointer (some ⟨bL, 0, none⟩))); have k30 := cell_of_row _ _ 0 _ _ _ hb3; have k31 := cell_of_row _ _ 1 _ _ _ hb3; have k32 := cell_of_row _ _ 2 _ _ _ hb3; have f32 := free_row hb3 2; clear he3 hb3)
    | (go_at_call 25; refine (arnew_any (unhide HE3)).mono ?_; rintro e w4 ⟨bR, rfl, he4⟩; have HE4 := hide he4; clear he4)
    | (go_at_call 26; refine (arsnew_any (bR := bR) (unhide HE4)).mono ?_; rintro e w5 ⟨bW, rfl, he5⟩; have HE5 := hide he5; clear he5)
    | (go_at_call 27; refine (aqnew_any (bR := bR) (unhide HE5)).mono ?_; rintro e w6 ⟨bQ, rfl, he6⟩; have HE6 := hide he6; clear he6))
  have he7 := (unhide HE6).boxed #[.pointer (some ⟨bR, 0, none⟩), .pointer (some ⟨bW, 0, none⟩), .pointer (some ⟨bQ, 0, none⟩)] 33
  generalize w6.alloc (.cells #[.pointer (some ⟨bR, 0, none⟩), .pointer (some ⟨bW, 0, none⟩), .pointer (some ⟨bQ, 0, none⟩)] 33) = W7 at *
  have hr := he7.block (i := 0) rfl
  have hs := he7.block (i := 1) rfl
  rw [show (w.alloc (.cells #[.pointer none, .pointer none, .pointer none] 28)).heap.size = w.heap.size + 1 by simp] at hs
  have hx := he7.block (i := 3) rfl
  have hy := he7.block (i := 9) rfl
  have n1 : ¬ w1.heap.size = w.heap.size := fun e => by
    have hx' := hx
    rw [e, hr] at hx'
    cases hx'
  have n2 : ¬ w1.heap.size = w.heap.size + 1 := fun e => by
    have hx' := hx
    rw [e, hs] at hx'
    cases hx'
  have n3 : ¬ w6.heap.size = w.heap.size := fun e => by
    have hx' := hy
    rw [e, hr] at hx'
    cases hx'
  have n4 : ¬ w6.heap.size = w.heap.size + 1 := fun e => by
    have hx' := hy
    rw [e, hs] at hx'
    cases hx'
  have n5 : ¬ w.heap.size = w1.heap.size := fun e => n1 e.symm
  have n6 : ¬ w.heap.size + 1 = w1.heap.size := fun e => n2 e.symm
  have n7 : ¬ w.heap.size = w6.heap.size := fun e => n3 e.symm
  have n8 : ¬ w.heap.size + 1 = w6.heap.size := fun e => n4 e.symm
  have x0 := cell_of_row _ _ 0 _ _ _ hx
  have x1 := cell_of_row _ _ 1 _ _ _ hx
  have x2 := cell_of_row _ _ 2 _ _ _ hx
  have y0 := cell_of_row _ _ 0 _ _ _ hy
  have y1 := cell_of_row _ _ 1 _ _ _ hy
  have y2 := cell_of_row _ _ 2 _ _ _ hy
  have r0 := cell_of_row _ _ 0 _ _ _ hr
  have r1 := cell_of_row _ _ 1 _ _ _ hr
  have r2 := cell_of_row _ _ 2 _ _ _ hr
  have s0 := cell_of_row _ _ 0 _ _ _ hs
  have s1 := cell_of_row _ _ 1 _ _ _ hs
  have s2 := cell_of_row _ _ 2 _ _ _ hs
  have fr0 := free_row hr 0
  have fr1 := free_row hr 1
  have fr2 := free_row hr 2
  have fs0 := free_row hs 0
  have fs1 := free_row hs 1
  have fs2 := free_row hs 2
  have HR := hide hr
  have HS := hide hs
  have HE7 := hide he7
  clear hr hs hx hy he7 HE0 HE1 HE2 HE3 HE4 HE5 HE6 HA k20 k21 k22 f21 k30 k31 k32 f32
  go_loopg [7] 0 (fun _ s7 wr => s7 = .int .i64 0 ∧ wr = W7)
  case atStart => exact ⟨rfl, rfl⟩
  case round =>
    obtain ⟨rfl, rfl⟩ := hrel
    set_option maxRecDepth 20000 in
    go_wp2
    have nA : ¬ w.heap.size = w.heap.size + 1 := by omega
    have nB : ¬ w.heap.size + 1 = w.heap.size := by omega
    go_region
    all_goals go_wp2
    have he := unhide HE7
    rw [show (w.alloc (.cells #[.pointer none, .pointer none, .pointer none] 28)).heap.size = w.heap.size + 1 by simp] at he
    have g3 := he.lose (i := 0) rfl (run_mod (F := fun k => k = w.heap.size) w.heap.size rfl [.pointer (some ⟨bA, 0, none⟩), .pointer (some ⟨bK, 0, none⟩), .pointer (some ⟨bL, 0, none⟩)] 0 wr)
    have g6 := (g3.lose (i := 1) rfl (run_mod (F := fun k => k = w.heap.size + 1) (w.heap.size + 1) rfl [.pointer (some ⟨bR, 0, none⟩), .pointer (some ⟨bW, 0, none⟩), .pointer (some ⟨bQ, 0, none⟩)] 0 _)).more (Below.refl _ _).drew
    have q1 := run_whole w.heap.size [.pointer (some ⟨bA, 0, none⟩), .pointer (some ⟨bK, 0, none⟩), .pointer (some ⟨bL, 0, none⟩)] wr _ _ (unhide HR) rfl
    have q2 := run_whole (w.heap.size + 1) [.pointer (some ⟨bR, 0, none⟩), .pointer (some ⟨bW, 0, none⟩), .pointer (some ⟨bQ, 0, none⟩)] _ _ _ ((run_other w.heap.size (w.heap.size + 1) (by omega) [.pointer (some ⟨bA, 0, none⟩), .pointer (some ⟨bK, 0, none⟩), .pointer (some ⟨bL, 0, none⟩)] 0 wr).trans (unhide HS)) rfl
    have q3 := (run_other (w.heap.size + 1) w.heap.size (by omega) [.pointer (some ⟨bR, 0, none⟩), .pointer (some ⟨bW, 0, none⟩), .pointer (some ⟨bQ, 0, none⟩)] 0 (wr.setCells w.heap.size 0 [.pointer (some ⟨bA, 0, none⟩), .pointer (some ⟨bK, 0, none⟩), .pointer (some ⟨bL, 0, none⟩)])).trans q1
    refine bodyPost_ret (build_ret (p := 2) (q := 3) Tryz.results7 (b1 := w.heap.size) (b2 := w.heap.size + 1) (heap_drew_at q3) (heap_drew_at q2) _ rfl rfl) rfl ⟨bA, bK, bL, bR, bW, bQ, rfl, ?_⟩
    refine g6.pick _ [2, 4, 5, 6, 7, 8] (by decide) (fun i o hi => ?_)
    match i, hi with
    | 0, hi => exact ⟨2, rfl, hi⟩
    | 1, hi => exact ⟨4, rfl, hi⟩
    | 2, hi => exact ⟨5, rfl, hi⟩
    | 3, hi => exact ⟨6, rfl, hi⟩
    | 4, hi => exact ⟨7, rfl, hi⟩
    | 5, hi => exact ⟨8, rfl, hi⟩
end
end Go.Proofs.YtkakncngkmoegaaGreat

namespace Go.Proofs.YtkakncngkmoegaaGreat
open Go.RowKit Go.Sort

section
variable {w wx : World} {obs : List (Ob w.heap.size)} {i j bA bK bL : Nat} {os : List OneM} {L : List Int}
theorem gmadeA (h : Env w wx obs) (hi : obs[i]? = some (aO _ bA os)) : Calls Tryz.prog 34 #[.pointer (some ⟨bA, 0, none⟩)] wx fun e w' => e = .returned (.bool true) ∧ wx = w' := by
  have hm := (h.mostA hi).2
  have HL := hide (alen_any h hi)
  have h1 : ((os.length : Int) != 0) = true := by rw [bne_iff_ne]; omega
  have h2 : ¬ ((os.length : Int) = 0) := by omega
  clear h hi hm
  go_enter Tryz.func34, Tryz.ntmps34
  go_wp2_with (go_at_call 12; refine (unhide HL).mono ?_; rintro e w' ⟨rfl, rfl⟩)
  go_ret
  exact ⟨rfl, rfl⟩
theorem gmadeS (h : Env w wx obs) (hi : obs[i]? = some (aO _ bA os)) (hj : obs[j]? = some (stOb _ bK bA (keysO os) L)) (hij : i ≠ j) (hg : Good (keysO os) L) : Calls Tryz.prog 35 #[.pointer (some ⟨bK, 0, none⟩)] wx fun e w' => e = .returned (.bool true) ∧ wx = w' := by
  have hno : (-1 : Int) ∉ L := fun hx => by have := hg.pos hx; omega
  obtain ⟨FA, F, h1, h2, _⟩ := h.as hi hj hij
  have HR := hide (sremove_no h2 (by have := (Live.mk' h1 h2).few hg; omega) hg.nodup hno)
  clear h hi hj hg hno h1 h2
  go_enter Tryz.func35, Tryz.ntmps35
  go_wp2_with (go_at_call 81; refine (unhide HR).mono ?_; rintro e w' ⟨rfl, rfl⟩)
  go_ret
  exact ⟨rfl, rfl⟩
end
end Go.Proofs.YtkakncngkmoegaaGreat
