/-
  The document's list of active elements in memory; a new one; where an element stands; what stands at a place. The document's list: a marker put last. The document's list: a marker put last, walked. The document's arena behind its list: a node's cells, whether a number is an element's; what stays of blocks and cells.
-/
import Derived.Test.YtabdgmcajndgbaaSBax
namespace Go.Proofs.Ytabdgmcajndgbaa
open Go.RowKit Go.Sort

theorem AttrsIn.modN {w w' : World} {a : Option Addr} {l : List AttrM} (h : AttrsIn w a l) (hb : ∀ b off, a = some ⟨b, off, none⟩ → l ≠ [] → w'.heap[b]? = w.heap[b]?) : AttrsIn w' a l := by
  cases l with
  | nil => exact ⟨fun i x hi => by simp at hi⟩
  | cons y r => exact h.mod (fun b off e => hb b off e (by simp))
theorem AttrsIn.modAN {w w' : World} {F : Nat → Prop} {a : Option Addr} {l : List AttrM} (h : AttrsIn w a l) (hm : Mod F w w') (hF : ∀ b off, a = some ⟨b, off, none⟩ → l ≠ [] → ¬ F b) : AttrsIn w' a l := by
  cases l with
  | nil => exact ⟨fun i x hi => by simp at hi⟩
  | cons y r => exact h.modA hm (fun b off e => hF b off e (by simp))
/-- An entry: its element, its token, where the token's attributes lie. -/
structure EntQ where
  node : Int
  tok : TokM
  a : Option Addr
  c : Nat
def EntQ.av (x : EntQ) : Value := .slice x.a x.tok.attrs.length x.c
def EntQ.cells (x : EntQ) : List Value := .int .i64 x.node :: x.tok.cells x.av
theorem entQ_len (x : EntQ) : x.cells.length = 10 := rfl
def qRow (l : List EntQ) : List Value := l.flatMap EntQ.cells

structure QlM (w : World) (base bQ bR : Nat) (v : Value) (qs : List EntQ) : Prop where
  box : w.heap[bQ]? = some (.cells #[.pointer (some ⟨bR, 0, none⟩), v] 43 (0, 0))
  own : w.ownsRow base 46 10 v qs.length (qRow qs)
  attrs : ∀ (i : Nat) x, qs[i]? = some x → AttrsIn w x.a x.tok.attrs ∧ ∀ b off, x.a = some ⟨b, off, none⟩ → x.tok.attrs ≠ [] → b < base
  lo : base ≤ bQ
def footQ (bQ : Nat) (v : Value) (k : Nat) : Prop := k = bQ ∨ v.ownBlock = some k
def QlS (w : World) (base bQ bR : Nat) (qs : List EntQ) (F : Nat → Prop) : Prop := ∃ v, QlM w base bQ bR v qs ∧ ∀ k, F k ↔ footQ bQ v k
def UpdQ (F : Nat → Prop) (w w' : World) (base bQ bR : Nat) (qs : List EntQ) : Prop := ∃ F', QlS w' base bQ bR qs F' ∧ Mod F w w' ∧ ∀ k, F' k → F k ∨ w.heap.size ≤ k

section
variable {w w' w1 : World} {base bQ bR : Nat} {v : Value} {qs : List EntQ} {F G : Nat → Prop}
theorem QlM.lt (h : QlM w base bQ bR v qs) {k : Nat} (hk : footQ bQ v k) : base ≤ k ∧ k < w.heap.size := by
  rcases hk with rfl | hk
  · exact ⟨h.lo, lt_of_block h.box⟩
  · exact h.own.lt k hk
theorem QlM.cells (h : QlM w base bQ bR v qs) : w.cell? ⟨bQ, 0, none⟩ = some (.pointer (some ⟨bR, 0, none⟩)) ∧ w.cell? ⟨bQ, 1, none⟩ = some v ∧ ∀ j, w.frozen? ⟨bQ, j, none⟩ = false := by
  have hb := h.box
  exact ⟨by simp [World.cell?, hb], by simp [World.cell?, hb], fun j => by simp [World.frozen?, hb]⟩
theorem QlM.mod (h : QlM w base bQ bR v qs) (hm : Mod G w w') (hG : ∀ k, footQ bQ v k → ¬ G k) (hlo : ∀ k, G k → base ≤ k) : QlM w' base bQ bR v qs := by
  refine ⟨(hm.block bQ (lt_of_block h.box) (hG bQ (.inl rfl))).trans h.box, ownsRow_kept h.own (fun k hk => hm.block k (h.own.lt k hk).2 (hG k (.inr hk))), fun i x hx => ?_, h.lo⟩
  obtain ⟨h1, h2⟩ := h.attrs i x hx
  refine ⟨h1.modN (fun b off e hne => ?_), h2⟩
  have hb := h2 b off e hne
  exact hm.block b (Nat.lt_of_lt_of_le hb (Nat.le_trans h.lo (Nat.le_of_lt (lt_of_block h.box)))) (fun e => by have := hlo b e; omega)
theorem QlM.below (h : QlM w base bQ bR v qs) (hb : Below w.heap.size w w') : QlM w' base bQ bR v qs := h.mod (Mod.of_below (F := fun _ => False) hb) (fun _ _ e => e) (fun _ e => e.elim)
theorem QlM.val (h : QlM w base bQ bR v qs) : (v = .slice none 0 0 ∧ qs = []) ∨ ∃ g cap, v = .slice (some ⟨g, 0, none⟩) qs.length cap := by
  rcases h.own.2 with ⟨e, h0⟩ | ⟨g, cap, _, e, _⟩
  · exact .inl ⟨e, List.eq_nil_of_length_eq_zero h0⟩
  · exact .inr ⟨g, cap, e⟩
theorem QlM.len (h : QlM w base bQ bR v qs) : ∃ a cap, v = .slice a qs.length cap := by
  rcases h.val with ⟨e, rfl⟩ | ⟨g, cap, e⟩
  · exact ⟨none, 0, e⟩
  · exact ⟨_, cap, e⟩
/-- What stands at a place. -/
theorem QlM.at (h : QlM w base bQ bR v qs) {i : Nat} {x : EntQ} (hi : qs[i]? = some x) : ∃ g cap, v = .slice (some ⟨g, 0, none⟩) qs.length cap ∧ ∀ j, j < 10 → w.cell? ⟨g, i * 10 + j, none⟩ = x.cells[j]? := by
  have hlt := (List.getElem?_eq_some_iff.1 hi).1
  rcases h.val with ⟨_, h0⟩ | ⟨g, cap, e⟩
  · subst h0; simp at hi
  · subst e
    refine ⟨g, cap, rfl, fun j hj => ?_⟩
    rw [h.own.cellAt (i * 10 + j) (by omega), qRow, flat_get EntQ.cells 10 entQ_len qs i j hj, hi]
    rfl
theorem QlS.lt (h : QlS w base bQ bR qs F) {k : Nat} (hk : F k) : base ≤ k ∧ k < w.heap.size := by
  obtain ⟨v, h, hF⟩ := h
  exact h.lt ((hF k).1 hk)
theorem QlS.mod (h : QlS w base bQ bR qs F) (hm : Mod G w w') (hG : ∀ k, F k → ¬ G k) (hlo : ∀ k, G k → base ≤ k) : QlS w' base bQ bR qs F := by
  obtain ⟨v, h, hF⟩ := h
  exact ⟨v, h.mod hm (fun k hk => hG k ((hF k).2 hk)) hlo, hF⟩

theorem qnew_any (hb : base ≤ w.heap.size) : Calls Try.prog 6 #[.pointer (some ⟨bR, 0, none⟩)] w fun e w' => ∃ bQ F, e = .returned (.pointer (some ⟨bQ, 0, none⟩)) ∧ QlS w' base bQ bR [] F ∧ Below w.heap.size w w' ∧ ∀ k, F k → w.heap.size ≤ k := by
  have HB := hide hb
  clear hb
  go_enter Try.func6, Try.ntmps6
  go_wp2
  go_ret
  refine ⟨_, _, rfl, ⟨.slice none 0 0, ⟨heap_alloc_new w _, World.ownsRow_nil _ _ _ _, fun i x e => by simp at e, unhide HB⟩, fun k => Iff.rfl⟩, below_new _ _, ?_⟩
  rintro k (rfl | hk)
  · omega
  · simp [Value.ownBlock] at hk

/-- The last place of a number. -/
def backQ (ns : List Int) (id : Int) : Nat → Int
  | 0 => -1
  | n + 1 => if ns[n]? = some id then (n : Int) else backQ ns id n
def findQ (qs : List EntQ) (id : Int) : Int := if id = -1 then -1 else backQ (qs.map (·.node)) id qs.length
set_option maxRecDepth 100000 in
set_option maxHeartbeats 1000000 in
theorem qfind_any (h : QlM w base bQ bR v qs) (hl : qs.length < 1000000000000) (id : Int) : Calls Try.prog 10 #[.pointer (some ⟨bQ, 0, none⟩), .int .i64 id] w fun e w' => e = .returned (.int .i64 (findQ qs id)) ∧ w = w' := by
  obtain ⟨c0, c1, _⟩ := h.cells
  obtain ⟨va, vc, rfl⟩ := h.len
  have HAT : Hid (∀ (i : Nat) x, qs[i]? = some x → ∃ g, va = some ⟨g, 0, none⟩ ∧ w.cell? ⟨g, i * 10, none⟩ = some (.int .i64 x.node)) := hide (fun i x hi => by
    obtain ⟨g, cap, e, hc⟩ := h.at hi
    cases e
    exact ⟨g, rfl, hc 0 (by omega)⟩)
  have hz : (qs.length : Int) < 1000000000000 := by omega
  obtain ⟨r, hr⟩ : ∃ r, findQ qs id = r := ⟨_, rfl⟩
  rw [hr]
  have HR := hide hr
  clear h hl hr
  go_enter Try.func10, Try.ntmps10
  go_wp2
  go_loopg [5] qs.length (fun g s5 wr => s5 = .int .i64 ((g : Int) - 1) ∧ g ≤ qs.length ∧ wr = w ∧ (id ≠ -1 → backQ (qs.map (·.node)) id qs.length = backQ (qs.map (·.node)) id g))
  case atStart => exact ⟨rfl, Nat.le_refl _, rfl, fun _ => rfl⟩
  case round =>
    obtain ⟨rfl, hgl, rfl, hno⟩ := hrel
    have HNO := hide hno
    clear hno
    cases gk with
    | zero =>
      go_wp2
      go_ret
      refine ⟨?_, rfl⟩
      rw [← unhide HR, findQ]
      by_cases e : id = -1
      · rw [if_pos e]; rfl
      · rw [if_neg e, (unhide HNO) e]; rfl
    | succ n =>
      obtain ⟨y, hy⟩ : ∃ y, qs[n]? = some y := ⟨_, List.getElem?_eq_getElem (by omega)⟩
      obtain ⟨g, rfl, hcell⟩ := (unhide HAT) n y hy
      have e1 : (((n + 1 : Nat) : Int) - 1) = (n : Int) := by omega
      rw [e1]
      have HY : Hid ((qs.map (·.node))[n]? = some y.node) := hide (by rw [List.getElem?_map, hy]; rfl)
      have hnz : (n : Int) < (qs.length : Int) := by omega
      have hn0 : (0 : Int) ≤ (n : Int) := by omega
      have HGL := hide hgl
      clear hy e1 hgl
      cases hm : (id == -1) with
      | true =>
        have HM := hide hm
        have hm2 : (id != -1) = false := by simpa using hm
        go_wp2
        go_ret
        have e := eq_of_beq (unhide HM)
        rw [← unhide HR, findQ, if_pos e]
        exact ⟨rfl, rfl⟩
      | false =>
        have HM : Hid (¬ id = -1) := hide (by simpa using hm)
        have hm2 : (id != -1) = true := by simpa using hm
        cases hq : (y.node == id) with
        | true =>
          have HQ := hide hq
          go_wp2
          go_ret
          have e := eq_of_beq (unhide HQ)
          rw [← unhide HR, findQ, if_neg (unhide HM), (unhide HNO) (unhide HM), backQ, unhide HY, if_pos (by rw [e])]
          exact ⟨rfl, rfl⟩
        | false =>
          have HQ := hide hq
          go_wp2
          go_roundg n
          case measure => omega
          case rel =>
            refine ⟨by go_num, by have := unhide HGL; omega, rfl, fun e => ?_⟩
            rw [(unhide HNO) e, backQ, unhide HY, if_neg (fun h => by have := unhide HQ; simp at h; simp [h] at this)]
end
end Go.Proofs.Ytabdgmcajndgbaa

namespace Go.Proofs.Ytabdgmcajndgbaa
open Go.RowKit Go.Sort

def markQ : EntQ := ⟨-1, tok0, none, 0⟩
section
variable {w w1 : World} {base bQ bR : Nat} {v v' : Value} {qs : List EntQ} {F : Nat → Prop}
/-- One more entry laid last. -/
theorem QlM.grow (h : QlM w base bQ bR v qs) (hF : ∀ k, F k ↔ footQ bQ v k) (x : EntQ) (hx : AttrsIn w x.a x.tok.attrs ∧ ∀ b off, x.a = some ⟨b, off, none⟩ → x.tok.attrs ≠ [] → b < base)
    (hown : w1.ownsRow base 46 10 v' (qs.length + 1) (qRow qs ++ x.cells)) (hgrow : w.grownBy w1 v.ownBlock) (hv : ∀ k, v'.ownBlock = some k → v.ownBlock = some k ∨ w.heap.size ≤ k) :
    UpdQ F w (w1.setCell ⟨bQ, 1, none⟩ v') base bQ bR (qs ++ [x]) := by
  have hlt := lt_of_block h.box
  have hlo := h.lo
  have hne : ∀ k, v.ownBlock = some k → k ≠ bQ := fun k hk e => by
    obtain ⟨cur, hc⟩ := ownsRow_block h.own hk
    rw [e, h.box] at hc
    cases hc
  have hm1 : Mod (fun k => v.ownBlock = some k) w w1 := Mod.grown hgrow (fun k e => e)
  have hb1 := (hm1.block bQ hlt (fun e => hne _ e rfl)).trans h.box
  have hne' : ∀ k, v'.ownBlock = some k → k ≠ bQ := fun k hk => by
    rcases hv k hk with e | e
    · exact hne k e
    · omega
  have hm : Mod F w (w1.setCell ⟨bQ, 1, none⟩ v') := (hm1.mono (fun k _ e => (hF k).2 (.inr e))).trans (Mod.setCell _ _ _ ((hF _).2 (.inl rfl)))
  refine ⟨footQ bQ v', ⟨v', ⟨?_, ?_, fun i y hy => ?_, h.lo⟩, fun _ => Iff.rfl⟩, hm, ?_⟩
  · have := heap_setCell_same w1 bQ 1 #[.pointer (some ⟨bR, 0, none⟩), v] 43 v' hb1
    simpa using this
  · have e : qRow (qs ++ [x]) = qRow qs ++ x.cells := by simp [qRow]
    rw [List.length_append, e]
    exact ownsRow_setCell_other hown (fun e => hne' _ e rfl) _
  · have hL : AttrsIn w y.a y.tok.attrs ∧ ∀ b off, y.a = some ⟨b, off, none⟩ → y.tok.attrs ≠ [] → b < base := by
      by_cases hl : i < qs.length
      · rw [List.getElem?_append_left hl] at hy; exact h.attrs i y hy
      · rw [List.getElem?_append_right (by omega)] at hy
        have := List.mem_of_getElem? hy
        simp at this; subst this; exact hx
    refine ⟨hL.1.modN (fun b off e hne => ?_), hL.2⟩
    have hb := hL.2 b off e hne
    exact hm.block b (by omega) (fun e => by have := (h.lt ((hF b).1 e)).1; omega)
  · rintro k (rfl | hk)
    · exact .inl ((hF _).2 (.inl rfl))
    · exact (hv k hk).imp (fun e => (hF k).2 (.inr e)) id
end
end Go.Proofs.Ytabdgmcajndgbaa

namespace Go.Proofs.Ytabdgmcajndgbaa
open Go.RowKit Go.Sort

theorem Try.info46 : (Try.prog.info? 46).map (fun i => (i.zero, i.size, i.bytes)) = some (some zeroEV, 10, 112) := by kernel_rfl

section
variable {w : World} {base bQ bR : Nat} {v : Value} {qs : List EntQ} {F : Nat → Prop}
set_option maxHeartbeats 2000000 in
theorem qmark_any (h : QlM w base bQ bR v qs) (hF : ∀ k, F k ↔ footQ bQ v k) (hl : qs.length < 1000000000000) : Calls Try.prog 22 #[.pointer (some ⟨bQ, 0, none⟩)] w fun e w' => e = .returned (.tuple #[]) ∧ UpdQ F w w' base bQ bR (qs ++ [markQ]) := by
  obtain ⟨c0, c1, f1⟩ := h.cells
  have HH := hide h
  have HFF := hide hF
  have f1 := f1 1
  have HL := hide hl
  have hlt := lt_of_block h.box
  obtain ⟨i0, hi0, hz0, hz1, hz2⟩ := info_parts Try.info46
  have HOW := hide (fun (o : Obj) => (h.own).alloc o)
  have HB := hide (Nat.le_trans h.lo (Nat.le_of_lt hlt))
  have HGR : Hid (∀ (o : Obj) (w1 : World) (v' : Value), w1.ownsRow base 46 10 v' (qs.length + 1) (qRow qs ++ markQ.cells) → (w.alloc o).grownBy w1 v.ownBlock → (∀ k, v'.ownBlock = some k → v.ownBlock = some k ∨ k = w.heap.size + 1) → UpdQ F w (w1.setCell ⟨bQ, 1, none⟩ v') base bQ bR (qs ++ [markQ]) ∧ w1.cell? ⟨bQ, 1, none⟩ = some v ∧ w1.frozen? ⟨bQ, 1, none⟩ = false) := hide (fun o w1 v' hown hg hv => by
    have hb := below_new w o
    have h2 := h.below hb
    have hm : Mod (fun k => v.ownBlock = some k) (w.alloc o) w1 := Mod.grown hg (fun k e => e)
    have hbq := (hm.block bQ (lt_of_block h2.box) (fun e => by
      obtain ⟨cur, hc⟩ := ownsRow_block h2.own e
      rw [h2.box] at hc
      cases hc)).trans h2.box
    obtain ⟨F', u1, u2, u3⟩ := h2.grow hF markQ ⟨⟨fun i x hi => by simp [markQ, tok0] at hi⟩, fun b off e => by simp [markQ] at e⟩ hown hg (fun k hk => (hv k hk).imp id (fun e => by simp; omega))
    exact ⟨⟨F', u1, (Mod.of_below hb).trans u2, fun k hk => (u3 k hk).imp id (fun e => Nat.le_trans hb.size e)⟩, cell_of_row _ _ 1 _ _ _ hbq, by simp [World.frozen?, hbq]⟩)
  have HNW : Hid (∀ (j : Nat) (u : Value), markQ.cells[j]? = some u → (w.alloc (.cells markQ.cells.toArray 46)).cell? ((⟨w.heap.size, 0, none⟩ : Addr).add j) = some u) := hide (World.news_of_block (w := w.alloc (.cells markQ.cells.toArray 46)) (B := w.heap.size) (t := 46) (fr := (0, 0)) (heap_alloc_new w _))
  clear h hF hl
  go_enter Try.func22, Try.ntmps22
  go_wp2_with (at_builtin; go_must (refine wpList_append_lies _ (by rfl) _ _ 41 (by rfl) base 46 i0 _ 10 112 (by kernel_rfl) hi0 hz0 hz1 hz2 rfl (by omega) v qs.length (qRow qs) (by rfl) ((unhide HOW) _) ⟨w.heap.size, 0, none⟩ 1 1 markQ.cells (by rfl) (by rfl) (by exact unhide HNW) (by simp [markQ, tok0, EntQ.cells, EntQ.av, TokM.cells, Value.oneCell']) (by omega) (by have := unhide HL; unfold maxLen; omega) (by have := unhide HL; omega) (by have := unhide HB; simp; omega) (w.heap.size + 1) (by simp) ?_); intro g' cap' w1 hown1 hgrow hat hltg; obtain ⟨hu, d1, d2⟩ := (unhide HGR) _ w1 _ hown1 hgrow (fun k e => by simp only [Value.ownBlock, Option.some.injEq] at e; subst e; exact hat); have HU := hide hu; clear hown1 hgrow hat hltg hu c0 c1 f1)
  exact ⟨rfl, _, results_none rfl _ _ _, rfl, unhide HU⟩
end
end Go.Proofs.Ytabdgmcajndgbaa

namespace Go.Proofs.Ytabdgmcajndgbaa
open Go.RowKit Go.Sort

theorem RfK.most {w : World} {base bR : Nat} {ks : List Key} {F : Nat → Prop} (h : RfK w base bR ks F) : ks.length ≤ 32768 := by
  obtain ⟨os, ⟨g, cap, rs, h, e, _⟩, rfl⟩ := h
  rw [List.length_map, ← e, osOf_len]
  exact h.most

/-- A node of the document's arena in memory: its ten cells. -/
theorem RfK.open {w : World} {base bR : Nat} {ks : List Key} {F : Nat → Prop} (h : RfK w base bR ks F) {i : Nat} {q : Key} (hq : ks[i]? = some q) :
    ∃ g cap av kv, ∃ (r : OneM) (aa : Option Addr) (an ac : Nat) (ka : Option Addr) (kn kc : Nat), av = .slice aa an ac ∧ kv = .slice ka kn kc ∧ w.cell? ⟨bR, 0, none⟩ = some (.slice (some ⟨g, 0, none⟩) ks.length cap) ∧ i < ks.length ∧
      w.cell? ⟨g, i * 10, none⟩ = some (.int .i64 q.kind) ∧ w.cell? ⟨g, i * 10 + 1, none⟩ = some (.int .i64 q.space) ∧ w.cell? ⟨g, i * 10 + 2, none⟩ = some (.string q.name) ∧ w.cell? ⟨g, i * 10 + 3, none⟩ = some av ∧ w.cell? ⟨g, i * 10 + 4, none⟩ = some (.string r.data) ∧
      w.cell? ⟨g, i * 10 + 5, none⟩ = some (.string r.system) ∧ w.cell? ⟨g, i * 10 + 6, none⟩ = some (.int .i64 r.inner) ∧ w.cell? ⟨g, i * 10 + 7, none⟩ = some (.int .i64 r.host) ∧ w.cell? ⟨g, i * 10 + 8, none⟩ = some (.int .i64 r.up) ∧ w.cell? ⟨g, i * 10 + 9, none⟩ = some kv := by
  obtain ⟨os, ⟨g, cap, rs, h, rfl, _⟩, rfl⟩ := h
  have hlt := (List.getElem?_eq_some_iff.1 hq).1
  rw [List.length_map, osOf_len] at hlt
  obtain ⟨r, hr⟩ : ∃ r, rs[i]? = some r := ⟨_, List.getElem?_eq_getElem hlt⟩
  have hro := osOf_get hr
  rw [List.getElem?_map, hro] at hq
  cases hq
  obtain ⟨c0, c1, c2, c3, c4, c5, c6, c7, c8, c9⟩ := h.cells10 hr
  obtain ⟨aa, ac, ea, _⟩ := h.attrs i r hr
  obtain ⟨ka, kc, ek, _⟩ := h.kids i r hr
  refine ⟨g, cap, r.av, r.kv, r.o, aa, _, ac, ka, _, kc, ea, ek, ?_, ?_, c0, c1, c2, c3, c4, c5, c6, c7, c8, c9⟩
  · rw [List.length_map, osOf_len]; exact h.cR
  · rw [List.length_map, osOf_len]; exact hlt

section
variable {w : World} {base bR : Nat} {ks : List Key} {F : Nat → Prop}
theorem rIs_any (h : RfK w base bR ks F) (id : Int) : Calls Try.prog 68 #[.pointer (some ⟨bR, 0, none⟩), .int .i64 id] w fun e w' => e = .returned (.bool (keyAt ks id).isSome) ∧ w = w' := by
  obtain ⟨os, ⟨g, cap, rs, h, rfl, _⟩, rfl⟩ := h
  have e : (keyAt ((osOf rs).map keyO) id).isSome = hasO (osOf rs) id := by
    unfold keyAt hasO
    by_cases h0 : 0 ≤ id
    · rw [if_pos h0]
      by_cases h1 : id < ((osOf rs).length : Int)
      · rw [List.getElem?_eq_getElem (by rw [List.length_map]; omega)]
        simp [h0, h1]
      · rw [List.getElem?_eq_none (by rw [List.length_map]; omega)]
        simp [h1]
    · rw [if_neg h0]
      simp [h0]
  rw [e]
  exact refIs_any h id

set_option maxHeartbeats 1000000 in
theorem rElement_any (h : RfK w base bR ks F) (id : Int) : Calls Try.prog 53 #[.pointer (some ⟨bR, 0, none⟩), .int .i64 id] w fun e w' => e = .returned (.bool (elK ks id).isSome) ∧ w = w' := by
  have HI := hide (rIs_any h id)
  have hm := h.most
  cases hk : keyAt ks id with
  | none =>
    rw [hk] at HI
    rw [elK_none hk]
    clear h hk hm
    go_enter Try.func53, Try.ntmps53
    go_wp2_with (go_at_call 68; refine (unhide HI).mono ?_; rintro e w1 ⟨rfl, rfl⟩)
    go_ret
    exact ⟨rfl, rfl⟩
  | some q =>
    rw [hk] at HI
    obtain ⟨i, rfl, hi⟩ := keyAt_some hk
    obtain ⟨g, cap, av, kv, r, aa, an, ac, ka, kn, kc, _, _, cR, hlt, c0, _⟩ := h.open hi
    have e0 : (elK ks (i : Int)).isSome = (q.kind == 1) := by
      rw [elK_key hk]
      by_cases h1 : q.kind = 1
      · rw [if_pos h1, h1]; rfl
      · rw [if_neg h1]
        have : (q.kind == 1) = false := by simpa using h1
        rw [this]
        rfl
    rw [e0]
    have hltz : (i : Int) < (ks.length : Int) := by omega
    have hmz : (ks.length : Int) ≤ 32768 := by omega
    generalize ks.length = n at *
    obtain ⟨qk, qs, qn⟩ := q
    simp only at *
    clear h hk hm hi e0
    go_enter Try.func53, Try.ntmps53
    go_wp2_with (go_at_call 68; refine (unhide HI).mono ?_; rintro e w1 ⟨rfl, rfl⟩)
    go_ret
    exact ⟨rfl, rfl⟩
end
theorem add_at (b off j : Nat) : (⟨b, off, none⟩ : Addr).add j = ⟨b, off + j, none⟩ := by unfold Addr.add; split <;> simp_all
theorem kept_oldK {W w1 : World} {b : Nat} {o : Obj} (h : W.heap[b]? = some o) (hb : Below W.heap.size W w1) : w1.heap[b]? = some o := (hb.block _ (lt_of_block h)).trans h
theorem cell_kept {w W' : World} (hb : Below w.heap.size w W') {b o : Nat} {v : Value} (hv : w.cell? ⟨b, o, none⟩ = some v) : W'.cell? ⟨b, o, none⟩ = some v := by
  have hlt : b < w.heap.size := by
    rcases Nat.lt_or_ge b w.heap.size with h | h
    · exact h
    · rw [World.cell?, Array.getElem?_eq_none h] at hv
      cases hv
  have e := hb.block b hlt
  unfold World.cell? at hv ⊢
  simp only at hv ⊢
  rw [e]
  exact hv
/-- Two structs in their variables, and what was made behind them. -/
structure Ek (w : World) (ox oy : Obj) (W : World) : Prop where
  low : Below ((w.alloc ox).alloc oy).heap.size ((w.alloc ox).alloc oy) W
section
variable {w W W' : World} {ox oy : Obj}
theorem Ek.start (w : World) (ox oy : Obj) : Ek w ox oy ((w.alloc ox).alloc oy) := ⟨Below.refl _ _⟩
theorem Ek.bel (h : Ek w ox oy W) : Below w.heap.size w W := by
  have h0 : Below w.heap.size w ((w.alloc ox).alloc oy) := (below_new _ _).alloc (by simp) _
  exact h0.trans (h.low.mono h0.size)
theorem Ek.x (h : Ek w ox oy W) : W.heap[w.heap.size]? = some ox := kept_oldK (((below_new (w.alloc ox) oy).block _ (by simp)).trans (heap_alloc_new w ox)) h.low
theorem Ek.y (h : Ek w ox oy W) : W.heap[w.heap.size + 1]? = some oy := by
  have := heap_alloc_new (w.alloc ox) oy
  rw [show (w.alloc ox).heap.size = w.heap.size + 1 by simp] at this
  exact kept_oldK this h.low
theorem Ek.more (h : Ek w ox oy W) (hb : Below W.heap.size W W') : Ek w ox oy W' := ⟨h.low.trans (hb.mono h.low.size)⟩
theorem Ek.alloc (h : Ek w ox oy W) (o : Obj) : Ek w ox oy (W.alloc o) := h.more (below_new _ _)
theorem Ek.drew (h : Ek w ox oy W) : Ek w ox oy W.drew := h.more (Below.refl _ _).drew
theorem Ek.put1 (h : Ek w ox oy W) (b j : Nat) (v : Value) (hb : w.heap.size + 1 < b) : Ek w ox oy (W.setCell ⟨b, j, none⟩ v) := by
  have hm : Mod (fun k => k = b) W (W.setCell ⟨b, j, none⟩ v) := Mod.setCell _ _ _ rfl
  exact ⟨h.low.trans (hm.below h.low.size (fun k e => by simp; omega))⟩
theorem Ek.lt (h : Ek w ox oy W) : w.heap.size + 1 < W.heap.size := lt_of_block h.y
end
theorem ten {w : World} {b : Nat} {v0 v1 v2 v3 v4 v5 v6 v7 v8 v9 : Value} {t : TypeId} (h : w.heap[b]? = some (.cells #[v0, v1, v2, v3, v4, v5, v6, v7, v8, v9] t (0, 0))) :
    w.cell? ⟨b, 0, none⟩ = some v0 ∧ w.cell? ⟨b, 1, none⟩ = some v1 ∧ w.cell? ⟨b, 2, none⟩ = some v2 ∧ w.cell? ⟨b, 3, none⟩ = some v3 ∧ w.cell? ⟨b, 4, none⟩ = some v4 ∧ w.cell? ⟨b, 5, none⟩ = some v5 ∧ w.cell? ⟨b, 6, none⟩ = some v6 ∧ w.cell? ⟨b, 7, none⟩ = some v7 ∧ w.cell? ⟨b, 8, none⟩ = some v8 ∧ w.cell? ⟨b, 9, none⟩ = some v9 ∧ w.frozen? ⟨b, 0, none⟩ = false ∧ w.frozen? ⟨b, 1, none⟩ = false ∧ w.frozen? ⟨b, 2, none⟩ = false ∧ w.frozen? ⟨b, 3, none⟩ = false ∧ w.frozen? ⟨b, 4, none⟩ = false ∧ w.frozen? ⟨b, 5, none⟩ = false ∧ w.frozen? ⟨b, 6, none⟩ = false ∧ w.frozen? ⟨b, 7, none⟩ = false ∧ w.frozen? ⟨b, 8, none⟩ = false ∧ w.frozen? ⟨b, 9, none⟩ = false :=
  ⟨cell_of_row _ _ 0 _ _ _ h, cell_of_row _ _ 1 _ _ _ h, cell_of_row _ _ 2 _ _ _ h, cell_of_row _ _ 3 _ _ _ h, cell_of_row _ _ 4 _ _ _ h, cell_of_row _ _ 5 _ _ _ h, cell_of_row _ _ 6 _ _ _ h, cell_of_row _ _ 7 _ _ _ h, cell_of_row _ _ 8 _ _ _ h, cell_of_row _ _ 9 _ _ _ h, free_row h 0, free_row h 1, free_row h 2, free_row h 3, free_row h 4, free_row h 5, free_row h 6, free_row h 7, free_row h 8, free_row h 9⟩
end Go.Proofs.Ytabdgmcajndgbaa
