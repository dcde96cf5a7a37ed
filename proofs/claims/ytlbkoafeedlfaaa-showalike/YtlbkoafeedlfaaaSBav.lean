/-
  The document's own arena: an attribute is set. The document's own arena: an attribute is set. The document's own arena: an attribute is set, told by plain nodes.
-/
import Derived.Test.YtlbkoafeedlfaaaSBat
namespace Go.Proofs.Ytlbkoafeedlfaaa
open Go.RowKit

/-- A list of attributes that is being made, in new memory. -/
structure AccA (w0 wx : World) (v : Value) (xs : List AttrM) : Prop where
  own : wx.ownsRow w0.heap.size 29 4 v xs.length (attrRow xs)
  below : Below w0.heap.size w0 wx

section
variable {w w' : World} {base bR g cap : Nat} {rs : List OneR}

theorem attr_news (w : World) (x : AttrM) : ∀ j u, x.cells[j]? = some u → (w.alloc (.cells #[.int .i64 x.space, .string x.pre, .string x.name, .string x.val] 29)).cell? ((⟨w.heap.size, 0, none⟩ : Addr).add j) = some u :=
  World.news_of_block (w := w.alloc (.cells #[.int .i64 x.space, .string x.pre, .string x.name, .string x.val] 29)) (B := w.heap.size) (t := 29) (fr := (0, 0)) (heap_alloc_new w _)

theorem AccA.step {w0 wx w1 : World} {v : Value} {xs ys : List AttrM} {g1 c1 : Nat} (h : AccA w0 wx v xs) (w2 : World) (hb2 : Below wx.heap.size wx w2) (hown : w1.ownsRow w0.heap.size 29 4 (.slice (some ⟨g1, 0, none⟩) (xs.length + ys.length) c1) (xs.length + ys.length) (attrRow xs ++ attrRow ys)) (hgrow : w2.grownBy w1 v.ownBlock) :
    AccA w0 w1 (.slice (some ⟨g1, 0, none⟩) (xs.length + ys.length) c1) (xs ++ ys) := by
  refine ⟨by simpa [attrRow] using hown, (h.below.trans (hb2.mono h.below.size)).grown hgrow (Nat.le_trans h.below.size hb2.size) (fun k hk => (ownsRow_base h.own hk).1)⟩

/-- The attributes of one node told anew. -/
theorem attr_close {wx : World} {v : Value} {xs : List AttrM} (h : Rf w base bR g cap rs) (hacc : AccA w wx v xs) {i : Nat} {r : OneR} (hi : rs[i]? = some r) (hlen : xs.length ≤ 1024) :
    ∃ av, Rf (wx.setCell ⟨g, i * 10 + 3, none⟩ v) base bR g cap (rs.set i { r with o := { r.o with attrs := xs }, av := av }) ∧ Mod (fun k => k = g) w (wx.setCell ⟨g, i * 10 + 3, none⟩ v) ∧ (∀ k, blk av = some k → w.heap.size ≤ k) := by
  have hx := h.below hacc.below
  obtain ⟨a, cp, hv, hin⟩ := ownsRow_attrs hacc.own
  have hcap : xs.length ≤ cp := by
    rcases hacc.own.2 with ⟨e, h0⟩ | ⟨g', cap', cur, e, _, _, hc, _⟩
    · omega
    · rw [hv] at e
      simp only [Value.slice.injEq] at e
      omega
  have hnew : ∀ k, blk v = some k → w.heap.size ≤ k ∧ k < wx.heap.size := fun k hk => ownsRow_base hacc.own (by
    rcases hacc.own.2 with ⟨e, _⟩ | ⟨g', cap', cur, e, _⟩
    · rw [e] at hk; simp [blk] at hk
    · rw [e] at hk ⊢; simpa [blk, Value.ownBlock] using hk)
  have L := hx.lists hi
  have hbase : base ≤ w.heap.size := Nat.le_trans h.base_g (Nat.le_of_lt h.lt.2)
  have h1 := hx.setC (r' := { r with o := { r.o with attrs := xs }, av := v }) hi 3 (by omega) v rfl ⟨⟨a, cp, hv, hin, hlen, hcap⟩, L.kids, fun k e => by
    rcases e with e | e
    · obtain ⟨e1, e2⟩ := hnew k e
      have := h.lt
      exact ⟨by omega, e2, by omega, by omega⟩
    · exact L.held k (.inr e)⟩
  exact ⟨v, h1, (Mod.of_below hacc.below).trans (Mod.setCell (F := fun k => k = g) wx ⟨g, i * 10 + 3, none⟩ v rfl), fun k hk => (hnew k hk).1⟩

theorem refSetAttr_none (h : Rf w base bR g cap rs) (k : Int) (x : AttrM) (hk : hasO (osOf rs) k = false) :
    Calls Try.prog 44 #[.pointer (some ⟨bR, 0, none⟩), .int .i64 k, x.agg] w fun e w' => e = .returned (.int .i64 6) ∧ Below w.heap.size w w' := by
  have HI := hide (fun w' hb => refIs_any (h.below hb) k (w := w'))
  rw [hk] at HI
  have hb0 := Below.refl w.heap.size w
  have hb1 := (Below.refl w.heap.size w).alloc (Nat.le_refl _) (.cells #[.int .i64 x.space, .string x.pre, .string x.name, .string x.val] 29)
  unfold AttrM.agg
  clear h hk
  go_enter Try.func44, Try.ntmps44
  go_wp2_with (go_at_call 79; refine ((unhide HI) _ (by assumption)).mono ?_; rintro e w' ⟨rfl, rfl⟩)
  go_ret
  exact ⟨rfl, by assumption⟩
end
end Go.Proofs.Ytlbkoafeedlfaaa

namespace Go.Proofs.Ytlbkoafeedlfaaa
open Go.RowKit

section
variable {w w' : World} {base bR g cap : Nat} {rs : List OneR}

def xObj (x : AttrM) : Obj := .cells #[.int .i64 x.space, .string x.pre, .string x.name, .string x.val] 29
def xStr (x : AttrM) : Obj := .cells #[.string x.pre, .string x.name, .string x.val] 9

theorem box_cells {w w3 : World} (x : AttrM) (o : Obj) (hb : Below ((w.alloc (xObj x)).alloc o).heap.size ((w.alloc (xObj x)).alloc o) w3) :
    w3.cell? ⟨w.heap.size, 0, none⟩ = some (.int .i64 x.space) ∧ w3.cell? ⟨w.heap.size, 1, none⟩ = some (.string x.pre) ∧ w3.cell? ⟨w.heap.size, 2, none⟩ = some (.string x.name) ∧ w3.cell? ⟨w.heap.size, 3, none⟩ = some (.string x.val) := by
  have hlt : w.heap.size < ((w.alloc (xObj x)).alloc o).heap.size := by simp; omega
  refine ⟨(hb.cell (p := ⟨w.heap.size, 0, none⟩) hlt).trans ?_, (hb.cell (p := ⟨w.heap.size, 1, none⟩) hlt).trans ?_, (hb.cell (p := ⟨w.heap.size, 2, none⟩) hlt).trans ?_, (hb.cell (p := ⟨w.heap.size, 3, none⟩) hlt).trans ?_⟩
  all_goals simp [xObj]

/-- Behind the first append: the list is made, the attribute still lies where it lay. -/
theorem first_app {w w3 w4 : World} {l : List AttrM} {g4 c4 : Nat} {x : AttrM} (hb : Below w.heap.size w w3) (hlx : w.heap.size < w3.heap.size) (x0 : w3.cell? ⟨w.heap.size, 0, none⟩ = some (.int .i64 x.space)) (x1 : w3.cell? ⟨w.heap.size, 1, none⟩ = some (.string x.pre)) (x2 : w3.cell? ⟨w.heap.size, 2, none⟩ = some (.string x.name)) (x3 : w3.cell? ⟨w.heap.size, 3, none⟩ = some (.string x.val))
    (hown : w4.ownsRow w.heap.size 29 4 (.slice (some ⟨g4, 0, none⟩) (0 + l.length) c4) (0 + l.length) ([] ++ attrRow l)) (hgrow : (w3.alloc (.cells #[] 29)).grownBy w4 (Value.slice (some ⟨w3.heap.size, 0, none⟩) 0 0).ownBlock) (hat : (Value.slice (some ⟨w3.heap.size, 0, none⟩) 0 0).ownBlock = some g4 ∨ g4 = (w3.alloc (.cells #[] 29)).heap.size) :
    Hid (AccA w w4 (.slice (some ⟨g4, 0, none⟩) l.length c4) l) ∧ w4.cell? ⟨w.heap.size, 0, none⟩ = some (.int .i64 x.space) ∧ w4.cell? ⟨w.heap.size, 1, none⟩ = some (.string x.pre) ∧ w4.cell? ⟨w.heap.size, 2, none⟩ = some (.string x.name) ∧ w4.cell? ⟨w.heap.size, 3, none⟩ = some (.string x.val) ∧
      w.heap.size < w4.heap.size ∧ w.heap.size ≠ g4 := by
  simp only [Nat.zero_add, List.nil_append] at hown
  have far : ∀ j, w4.cell? ⟨w.heap.size, j, none⟩ = w3.cell? ⟨w.heap.size, j, none⟩ := fun j =>
    (hgrow.cell_far ⟨w.heap.size, j, none⟩ (by simp; omega) (by simp [Value.ownBlock]; omega)).trans (((Below.refl _ w3).alloc (Nat.le_refl _) _).cell (p := ⟨w.heap.size, j, none⟩) hlx)
  refine ⟨hide ⟨hown, (hb.alloc hb.size _).grown hgrow (by have := hb.size; simp; omega) (fun k hk => by simp [Value.ownBlock] at hk; have := hb.size; omega)⟩, (far 0).trans x0, (far 1).trans x1, (far 2).trans x2, (far 3).trans x3, ?_, ?_⟩
  · have := hgrow.size; simp at this; omega
  · rcases hat with e | e
    · simp [Value.ownBlock] at e; omega
    · simp at e; omega

theorem AccA.setv {w0 wx : World} {l : List AttrM} {g4 c4 j : Nat} {y : AttrM} (h : AccA w0 wx (.slice (some ⟨g4, 0, none⟩) l.length c4) l) (hy : l[j]? = some y) (v : ByteArray) :
    AccA w0 (wx.setCell ⟨g4, j * 4 + 3, none⟩ (.string v)) (.slice (some ⟨g4, 0, none⟩) l.length c4) (setVal l j v) ∧ wx.frozen? ⟨g4, j * 4 + 3, none⟩ = false ∧ ∃ u, wx.cell? ⟨g4, j * 4 + 3, none⟩ = some u := by
  have hjl : j < l.length := (List.getElem?_eq_some_iff.1 hy).1
  have hst := h.own.stored (j * 4 + 3) (.string v)
  refine ⟨⟨?_, ?_⟩, h.own.frozenAt (j * 4 + 3), ?_⟩
  · rw [setVal_len, setVal_of hy, attrRow, ← flat_set AttrM.cells 4 attr_len l j 3 (by omega) y { y with val := v } (.string v) hy (by simp [AttrM.cells])]
    exact hst.1
  · have hg : w0.heap.size ≤ g4 := (ownsRow_base h.own (k := g4) rfl).1
    exact h.below.trans ((Mod.setCell (F := fun k => k = g4) wx ⟨g4, j * 4 + 3, none⟩ (.string v) rfl).below h.below.size (fun k hk => by subst hk; exact hg))
  · rw [h.own.cellAt (j * 4 + 3) (by omega)]
    exact ⟨_, List.getElem?_eq_getElem (by rw [show (attrRow l).length = l.length * 4 from flat_len AttrM.cells 4 attr_len _]; omega)⟩

set_option maxHeartbeats 4000000 in
theorem refSetAttr_in (h : Rf w base bR g cap rs) (i : Nat) (r : OneR) (hi : rs[i]? = some r) (x : AttrM) (hk : r.o.kind = 1) (hx : x.long = false) (hroom : ¬ (idxM (sameKey x.space x.name) r.o.attrs = -1 ∧ ¬ r.o.attrs.length < 1024)) :
    Calls Try.prog 44 #[.pointer (some ⟨bR, 0, none⟩), .int .i64 i, x.agg] w fun e w' => e = .returned (.int .i64 0) ∧
      ∃ av, Rf w' base bR g cap (rs.set i { r with o := { r.o with attrs := setL r.o.attrs x }, av := av }) ∧ Mod (fun k => k = g) w w' ∧ (∀ k, blk av = some k → w.heap.size ≤ k) := by
  have hlt : i < rs.length := (List.getElem?_eq_some_iff.1 hi).1
  have HI := hide (fun w' hb => refIs_any (h.below hb) i (w := w'))
  have q1 : hasO (osOf rs) i = true := hasO_of (osOf_get hi)
  rw [q1] at HI
  have hA := h.cR
  have hlR := h.lt.1
  have hlg := h.lt.2
  have hn := h.most
  have c0 := (h.cells10 hi).1
  rw [hk] at c0
  have hb1 : Below w.heap.size w (w.alloc (xObj x)) := (Below.refl w.heap.size w).alloc (Nat.le_refl _) _
  have hb2 : Below w.heap.size w ((w.alloc (xObj x)).alloc (xStr x)) := hb1.alloc (by simp) _
  have HL := hide (refLong_any ((w.alloc (xObj x)).alloc (xStr x)) (w.heap.size + 1) 3 [x.pre, x.name, x.val] (by have := threeS (w.alloc (xObj x)) 9 x.pre x.name x.val; rw [World.size_alloc] at this; exact this) (by simp))
  have e3 : [x.pre, x.name, x.val].any longS = false := hx
  rw [e3] at HL
  have HF := hide (refFind_any (h.below hb2) i r hi x.space x.name)
  have HB1 := hide hb1
  have HB2 := hide hb2
  have HH := hide h
  have HIR := hide hi
  unfold AttrM.agg
  obtain ⟨a, cp, hav, hin, hal⟩ := h.attrs i r hi
  have HAV := hide hav
  have HIN := hide hin
  obtain ⟨i0, hi0, hz0, hz1, hz2⟩ := info_parts Try.info29
  generalize hl : r.o.attrs = l at *
  unfold xObj xStr at HL HF HB2
  unfold xObj at HB1
  clear h hi hk hx q1 hb1 hb2 e3 hin hav
  rcases idxM_or (sameKey x.space x.name) l with hj | ⟨j, hj⟩
  · have hlen : l.length < 1024 := Decidable.byContradiction fun e => hroom ⟨hj, e⟩
    have hmany : ¬ (1024 : Int) ≤ (l.length : Int) := by omega
    have hset : setL l x = l ++ [x] := by rw [setL, if_pos hj]
    have HSET := hide hset
    rw [hj] at HF
    clear hroom hset
    by_cases hl0 : 0 < l.length
    · obtain ⟨b, off, rfl⟩ := Addr.of_lt (unhide HIN) hl0
      go_enter Try.func44, Try.ntmps44
      set_option maxRecDepth 10000 in
      go_wp2_with (first
        | (go_at_call 79; refine ((unhide HI) _ (unhide HB1)).mono ?_; rintro e w' ⟨rfl, rfl⟩)
        | (go_at_call 95; refine (unhide HL).mono ?_; rintro e w' ⟨rfl, rfl⟩)
        | (go_at_call 99; refine (unhide HF).mono ?_; rintro e w3 ⟨rfl, hb3⟩; have HB3 := hide hb3; have hb03 := (unhide HB2).trans (hb3.mono (unhide HB2).size); have HB03 := hide hb03; have har3 := (unhide HH).below hb03; have hA3 := har3.cR; have lR3 : bR < w3.heap.size := har3.lt.1; have lg3 : g < w3.heap.size := har3.lt.2; have fg3 := har3.fg; have c33 := (har3.cells10 (unhide HIR)).2.2.2.1; rw [unhide HAV] at c33; obtain ⟨x0, x1, x2, x3⟩ := box_cells x _ hb3; have hs3 := hb03.size; have hlx : w.heap.size < w3.heap.size := (by have := hb3.size; simp at this; omega); have HIN3 := hide ((unhide HIN).below hb03); clear hb3 hb03 har3)
        | (at_builtin; refine wpList_append_lies _ (by rfl) _ _ 30 (by rfl) w.heap.size 29 i0 _ 4 56 Try.underlying30 hi0 hz0 hz1 hz2 rfl (by omega) (.slice (some ⟨g4, 0, none⟩) l.length c4) l.length (attrRow l) (by rfl) ((unhide HC4).own.alloc _) ⟨w4.heap.size, 0, none⟩ 1 1 x.cells (by rfl) (by rfl) (attr_news w4 x) (by simp [AttrM.cells, Value.oneCell']) (by omega) (by unfold maxLen; omega) (by omega) (by have := (unhide HC4).below.size; simp; omega) _ rfl ?_; intro g5 c5 w5 hown5 hgrow5 hat5 hlt5; have HC5 : Hid (AccA w w5 (.slice (some ⟨g5, 0, none⟩) (l.length + 1) c5) (l ++ [x])) := (unhide HC4).step (ys := [x]) _ ((Below.refl _ w4).alloc (Nat.le_refl _) _) (by simpa [attrRow] using hown5) hgrow5; have har5 := (unhide HH).below (unhide HC5).below; have hA5 := har5.cR; have fg5 := har5.fg; have nR5 := har5.neRg; obtain ⟨v5, d5⟩ := har5.there (unhide HIR) 3 (by omega); clear har5; clear hown5 hgrow5 hat5)
        | (at_builtin; go_must (refine wpList_append_lies _ (by rfl) _ _ 30 (by rfl) w.heap.size 29 i0 _ 4 56 Try.underlying30 hi0 hz0 hz1 hz2 rfl (by omega) (.slice (some ⟨w3.heap.size, 0, none⟩) 0 0) 0 [] (by rfl) (empty_row w3 29 4 w.heap.size hs3) ⟨b, off, none⟩ l.length cp (attrRow l) (by rfl) (flat_len AttrM.cells 4 attr_len l) (((unhide HIN3).below ((Below.refl _ w3).alloc (Nat.le_refl _) _)).row) (attrs_oneCell l) hl0 (by unfold maxLen; omega) (by omega) (by simp; omega) _ rfl ?_); intro g4 c4 w4 hown4 hgrow4 hat4 hlt4; obtain ⟨HC4, y0, y1, y2, y3, hlx4, hne4⟩ := first_app (unhide HB03) hlx x0 x1 x2 x3 hown4 hgrow4 hat4; have har4 := (unhide HH).below (unhide HC4).below; have hA4 := har4.cR; have lR4 : bR < w4.heap.size := har4.lt.1; have lg4 : g < w4.heap.size := har4.lt.2; have fg4 := har4.fg; have nR4 := har4.neRg; obtain ⟨v3, d3⟩ := har4.there (unhide HIR) 3 (by omega); clear har4 hown4 hgrow4 hat4))
      go_ret
      refine ⟨rfl, ?_⟩
      rw [unhide HSET]
      exact attr_close (unhide HH) (unhide HC5) (unhide HIR) (by simp; omega)
    · obtain rfl : l = [] := List.eq_nil_of_length_eq_zero (by omega)
      simp only [List.length_nil] at hlen hmany hal HAV
      cases a
      all_goals
        go_enter Try.func44, Try.ntmps44
        set_option maxRecDepth 10000 in
        go_wp2_with (first
          | (go_at_call 79; refine ((unhide HI) _ (unhide HB1)).mono ?_; rintro e w' ⟨rfl, rfl⟩)
          | (go_at_call 95; refine (unhide HL).mono ?_; rintro e w' ⟨rfl, rfl⟩)
          | (go_at_call 99; refine (unhide HF).mono ?_; rintro e w3 ⟨rfl, hb3⟩; have HB3 := hide hb3; have hb03 := (unhide HB2).trans (hb3.mono (unhide HB2).size); have HB03 := hide hb03; have har3 := (unhide HH).below hb03; have hA3 := har3.cR; have lR3 : bR < w3.heap.size := har3.lt.1; have lg3 : g < w3.heap.size := har3.lt.2; have fg3 := har3.fg; have c33 := (har3.cells10 (unhide HIR)).2.2.2.1; rw [unhide HAV] at c33; obtain ⟨x0, x1, x2, x3⟩ := box_cells x _ hb3; have hs3 := hb03.size; have hlx : w.heap.size < w3.heap.size := (by have := hb3.size; simp at this; omega); have HIN3 := hide ((unhide HIN).below hb03); clear hb3 hb03 har3)
          | (at_builtin; refine wpList_append_lies _ (by rfl) _ _ 30 (by rfl) w.heap.size 29 i0 _ 4 56 Try.underlying30 hi0 hz0 hz1 hz2 rfl (by omega) (.slice (some ⟨w3.heap.size, 0, none⟩) 0 0) 0 [] (by rfl) ((empty_row w3 29 4 w.heap.size hs3).alloc _) ⟨w3.heap.size + 1, 0, none⟩ 1 1 x.cells (by rfl) (by rfl) (by have := attr_news (w3.alloc (.cells #[] 29)) x; rw [World.size_alloc] at this; exact this) (by simp [AttrM.cells, Value.oneCell']) (by omega) (by unfold maxLen; omega) (by omega) (by simp; omega) _ rfl ?_; intro g5 c5 w5 hown5 hgrow5 hat5 hlt5; have HC5 : Hid (AccA w w5 (.slice (some ⟨g5, 0, none⟩) 1 c5) ([] ++ [x])) := (show AccA w (w3.alloc (.cells #[] 29)) (.slice (some ⟨w3.heap.size, 0, none⟩) 0 0) [] from ⟨empty_row w3 29 4 w.heap.size hs3, (unhide HB03).alloc hs3 _⟩).step (ys := [x]) _ ((Below.refl _ _).alloc (Nat.le_refl _) _) (by simpa [attrRow] using hown5) hgrow5; have har5 := (unhide HH).below (unhide HC5).below; have hA5 := har5.cR; have fg5 := har5.fg; have nR5 := har5.neRg; obtain ⟨v5, d5⟩ := har5.there (unhide HIR) 3 (by omega); clear har5; clear hown5 hgrow5 hat5))
        go_ret
        refine ⟨rfl, ?_⟩
        rw [unhide HSET]
        exact attr_close (unhide HH) (unhide HC5) (unhide HIR) (by simp)
  · have hj0 : ¬ ((j : Int) < 0) := by omega
    have hjl : ∃ y, l[j]? = some y := by
      unfold idxM at hj
      split at hj
      · rename_i q hq
        have : q = j := by omega
        subst this
        obtain ⟨hlt, _⟩ := List.findIdx?_eq_some_iff_getElem.1 hq
        exact ⟨_, List.getElem?_eq_getElem hlt⟩
      · omega
    obtain ⟨y, hy⟩ := hjl
    have hjlt : j < l.length := (List.getElem?_eq_some_iff.1 hy).1
    have hl0 : 0 < l.length := by omega
    have hset : setL l x = setVal l j x.val := by rw [setL, if_neg (by omega), hj]; simp
    have HSET := hide hset
    have HY := hide hy
    rw [hj] at HF
    clear hroom hset hy
    obtain ⟨b, off, rfl⟩ := Addr.of_lt (unhide HIN) hl0
    go_enter Try.func44, Try.ntmps44
    set_option maxRecDepth 10000 in
    go_wp2_with (first
      | (go_at_call 79; refine ((unhide HI) _ (unhide HB1)).mono ?_; rintro e w' ⟨rfl, rfl⟩)
      | (go_at_call 95; refine (unhide HL).mono ?_; rintro e w' ⟨rfl, rfl⟩)
      | (go_at_call 99; refine (unhide HF).mono ?_; rintro e w3 ⟨rfl, hb3⟩; have HB3 := hide hb3; have hb03 := (unhide HB2).trans (hb3.mono (unhide HB2).size); have HB03 := hide hb03; have har3 := (unhide HH).below hb03; have hA3 := har3.cR; have lR3 : bR < w3.heap.size := har3.lt.1; have lg3 : g < w3.heap.size := har3.lt.2; have fg3 := har3.fg; have c33 := (har3.cells10 (unhide HIR)).2.2.2.1; rw [unhide HAV] at c33; obtain ⟨x0, x1, x2, x3⟩ := box_cells x _ hb3; have hs3 := hb03.size; have hlx : w.heap.size < w3.heap.size := (by have := hb3.size; simp at this; omega); have HIN3 := hide ((unhide HIN).below hb03); clear hb3 hb03 har3)
      | (at_builtin; go_must (refine wpList_append_lies _ (by rfl) _ _ 30 (by rfl) w.heap.size 29 i0 _ 4 56 Try.underlying30 hi0 hz0 hz1 hz2 rfl (by omega) (.slice (some ⟨w3.heap.size, 0, none⟩) 0 0) 0 [] (by rfl) (empty_row w3 29 4 w.heap.size hs3) ⟨b, off, none⟩ l.length cp (attrRow l) (by rfl) (flat_len AttrM.cells 4 attr_len l) (((unhide HIN3).below ((Below.refl _ w3).alloc (Nat.le_refl _) _)).row) (attrs_oneCell l) hl0 (by unfold maxLen; omega) (by omega) (by simp; omega) _ rfl ?_); intro g4 c4 w4 hown4 hgrow4 hat4 hlt4; obtain ⟨HC4, y0, y1, y2, y3, hlx4, hne4⟩ := first_app (unhide HB03) hlx x0 x1 x2 x3 hown4 hgrow4 hat4; have har4 := (unhide HH).below (unhide HC4).below; have hA4 := har4.cR; have lR4 : bR < w4.heap.size := har4.lt.1; have lg4 : g < w4.heap.size := har4.lt.2; have fg4 := har4.fg; have nR4 := har4.neRg; obtain ⟨v3, d3⟩ := har4.there (unhide HIR) 3 (by omega); clear har4 hown4 hgrow4 hat4; obtain ⟨hc5, fz5, u5, du5⟩ := (unhide HC4).setv (unhide HY) x.val; have HC5 := hide hc5; have neg4 : g ≠ g4 := (by have := (ownsRow_base (unhide HC4).own (k := g4) rfl).1; omega); have neR4 : bR ≠ g4 := (by have := (ownsRow_base (unhide HC4).own (k := g4) rfl).1; omega); clear hc5))
    go_ret
    refine ⟨rfl, ?_⟩
    rw [unhide HSET]
    exact attr_close (unhide HH) (unhide HC5) (unhide HIR) (by rw [setVal_len]; exact hal.1)
end
end Go.Proofs.Ytlbkoafeedlfaaa

namespace Go.Proofs.Ytlbkoafeedlfaaa
open Go.RowKit

section
variable {w w' : World} {base bR : Nat} {os : List OneM} {G : Nat → Prop}

set_option maxHeartbeats 2000000 in
theorem refSetAttr_err {g cap : Nat} {rs : List OneR} (h : Rf w base bR g cap rs) (i : Nat) (r : OneR) (hi : rs[i]? = some r) (x : AttrM) :
    (r.o.kind ≠ 1 → Calls Try.prog 44 #[.pointer (some ⟨bR, 0, none⟩), .int .i64 i, x.agg] w fun e w' => e = .returned (.int .i64 10) ∧ Below w.heap.size w w') ∧
    (r.o.kind = 1 → x.long = true → Calls Try.prog 44 #[.pointer (some ⟨bR, 0, none⟩), .int .i64 i, x.agg] w fun e w' => e = .returned (.int .i64 2) ∧ Below w.heap.size w w') ∧
    (r.o.kind = 1 → x.long = false → idxM (sameKey x.space x.name) r.o.attrs = -1 → ¬ r.o.attrs.length < 1024 → Calls Try.prog 44 #[.pointer (some ⟨bR, 0, none⟩), .int .i64 i, x.agg] w fun e w' => e = .returned (.int .i64 2) ∧ Below w.heap.size w w') := by
  have hlt : i < rs.length := (List.getElem?_eq_some_iff.1 hi).1
  have HI := hide (fun w' hb => refIs_any (h.below hb) i (w := w'))
  have q1 : hasO (osOf rs) i = true := hasO_of (osOf_get hi)
  rw [q1] at HI
  have hA := h.cR
  have hlR := h.lt.1
  have hlg := h.lt.2
  have hn := h.most
  have c0 := (h.cells10 hi).1
  have hb1 : Below w.heap.size w (w.alloc (xObj x)) := (Below.refl w.heap.size w).alloc (Nat.le_refl _) _
  have hb2 : Below w.heap.size w ((w.alloc (xObj x)).alloc (xStr x)) := hb1.alloc (by simp) _
  have HL := hide (refLong_any ((w.alloc (xObj x)).alloc (xStr x)) (w.heap.size + 1) 3 [x.pre, x.name, x.val] (by have := threeS (w.alloc (xObj x)) 9 x.pre x.name x.val; rw [World.size_alloc] at this; exact this) (by simp))
  have HF := hide (refFind_any (h.below hb2) i r hi x.space x.name)
  have HB1 := hide hb1
  have HB2 := hide hb2
  have HH := hide h
  have HIR := hide hi
  unfold AttrM.agg
  obtain ⟨a, cp, hav, hin, hal⟩ := h.attrs i r hi
  have HAV := hide hav
  generalize hl : r.o.attrs = l at *
  have e0 : [x.pre, x.name, x.val].any longS = x.long := rfl
  rw [e0] at HL
  unfold xObj xStr at HL HF HB2
  unfold xObj at HB1
  clear h hi q1 hb1 hb2 hin hav e0
  refine ⟨fun hk => ?_, fun hk hx => ?_, fun hk hx hj hmany => ?_⟩
  · have f1 : (r.o.kind != 1) = true := by simp [hk]
    clear hk
    go_enter Try.func44, Try.ntmps44
    go_wp2_with (go_at_call 79; refine ((unhide HI) _ (unhide HB1)).mono ?_; rintro e w' ⟨rfl, rfl⟩)
    go_ret
    exact ⟨rfl, unhide HB1⟩
  · rw [hk] at c0
    rw [hx] at HL
    clear hk hx
    go_enter Try.func44, Try.ntmps44
    set_option maxRecDepth 10000 in
    go_wp2_with (first
      | (go_at_call 79; refine ((unhide HI) _ (unhide HB1)).mono ?_; rintro e w' ⟨rfl, rfl⟩)
      | (go_at_call 95; refine (unhide HL).mono ?_; rintro e w' ⟨rfl, rfl⟩))
    go_ret
    exact ⟨rfl, unhide HB2⟩
  · rw [hk] at c0
    rw [hx] at HL
    rw [hj] at HF
    have hm : (1024 : Int) ≤ (l.length : Int) := by omega
    clear hk hx hj
    go_enter Try.func44, Try.ntmps44
    set_option maxRecDepth 10000 in
    go_wp2_with (first
      | (go_at_call 79; refine ((unhide HI) _ (unhide HB1)).mono ?_; rintro e w' ⟨rfl, rfl⟩)
      | (go_at_call 95; refine (unhide HL).mono ?_; rintro e w' ⟨rfl, rfl⟩)
      | (go_at_call 99; refine (unhide HF).mono ?_; rintro e w3 ⟨rfl, hb3⟩; have hb03 := (unhide HB2).trans (hb3.mono (unhide HB2).size); have HB03 := hide hb03; have har3 := (unhide HH).below hb03; have hA3 := har3.cR; have c33 := (har3.cells10 (unhide HIR)).2.2.2.1; rw [unhide HAV] at c33; clear hb3 hb03 har3))
    go_ret
    exact ⟨rfl, unhide HB03⟩

theorem refSetAttr_sim (hS : RfS w base bR os G) (k : Int) (x : AttrM) :
    Calls Try.prog 44 #[.pointer (some ⟨bR, 0, none⟩), .int .i64 k, x.agg] w fun e w' => e = .returned (.int .i64 (setAttrE os k x)) ∧ URf G w w' base bR (setAttrR os k x) := by
  have hS0 := hS
  obtain ⟨g, cap, rs, h, rfl, hG⟩ := hS
  cases hh : hasO (osOf rs) k with
  | false =>
    have e6 : setAttrE (osOf rs) k x = 6 := by rw [setAttrE, if_pos hh]
    have er : setAttrR (osOf rs) k x = osOf rs := by rw [setAttrR, e6, if_neg (by decide)]
    rw [e6, er]
    exact (refSetAttr_none h k x hh).mono fun e w' ⟨h1, h2⟩ => ⟨h1, hS0.upd h2⟩
  | true =>
    obtain ⟨i, o, rfl, ho⟩ := hasO_yes hh
    have hlt : i < rs.length := by rw [← osOf_len]; exact (List.getElem?_eq_some_iff.1 ho).1
    obtain ⟨r, hi⟩ : ∃ r, rs[i]? = some r := ⟨_, List.getElem?_eq_getElem hlt⟩
    have hro := osOf_get hi
    rw [ho] at hro
    cases hro
    obtain ⟨t1, t2, t3⟩ := refSetAttr_err h i r hi x
    have hat : attrsO (osOf rs) (i : Int) = r.o.attrs := by simp [attrsO, ho]
    have hE : setAttrE (osOf rs) i x = if r.o.kind ≠ 1 then 10 else if x.long then 2 else if idxM (sameKey x.space x.name) r.o.attrs = -1 ∧ ¬ r.o.attrs.length < 1024 then 2 else 0 := by
      rw [setAttrE, if_neg (by rw [hh]; decide), kindO_of ho, hat]
    by_cases hk : r.o.kind ≠ 1
    · rw [if_pos hk] at hE
      have er : setAttrR (osOf rs) i x = osOf rs := by rw [setAttrR, hE, if_neg (by decide)]
      rw [hE, er]
      exact (t1 hk).mono fun e w' ⟨h1, h2⟩ => ⟨h1, hS0.upd h2⟩
    · rw [if_neg hk] at hE
      have hk' : r.o.kind = 1 := by omega
      cases hx : x.long with
      | true =>
        rw [hx, if_pos rfl] at hE
        have er : setAttrR (osOf rs) i x = osOf rs := by rw [setAttrR, hE, if_neg (by decide)]
        rw [hE, er]
        exact (t2 hk' hx).mono fun e w' ⟨h1, h2⟩ => ⟨h1, hS0.upd h2⟩
      | false =>
        rw [hx, if_neg (by decide)] at hE
        by_cases hroom : idxM (sameKey x.space x.name) r.o.attrs = -1 ∧ ¬ r.o.attrs.length < 1024
        · rw [if_pos hroom] at hE
          have er : setAttrR (osOf rs) i x = osOf rs := by rw [setAttrR, hE, if_neg (by decide)]
          rw [hE, er]
          exact (t3 hk' hx hroom.1 hroom.2).mono fun e w' ⟨h1, h2⟩ => ⟨h1, hS0.upd h2⟩
        · rw [if_neg hroom] at hE
          have er : setAttrR (osOf rs) i x = (osOf rs).modify i fun o => { o with attrs := setL o.attrs x } := by rw [setAttrR, hE, if_pos rfl, Int.toNat_natCast]
          rw [hE, er]
          refine (refSetAttr_in h i r hi x hk' hx hroom).mono fun e w' ⟨h1, av, h2, h3, h4⟩ => ⟨h1, ?_⟩
          have := urf_set hG hi h2 h3 (fun k e => by
            rcases e with e | e
            · exact .inr (h4 k e)
            · exact .inl (.inr e))
          rw [osOf_set rs i _ (fun o => { o with attrs := setL o.attrs x }) hi rfl] at this
          exact this
end
end Go.Proofs.Ytlbkoafeedlfaaa
