/-
  Package adjust: bare, plain; the closures of SVG and MathML; SVG and MathML.
-/
import Derived.Test.YtgbinemombgckaaDoorBb
import Derived.Laws.ResultCell
import Derived.Laws.EntriesVeiled
namespace Go.Proofs.YtgbinemombgckaaDoor
open Go.RowKit Go.Lib

theorem results_cell {fn : Func} {p : Tmp} {ty : TypeId} (h : fn.results = #[.cell p ty]) (tmps : Array Value) (P : Program) (w : World) :
    (results fn tmps).run P w = ((asAddr (tmps.getD p undef)).run P w).andThen fun a w₁ => (loadVar ty a).run P w₁ := by
  simp only [results, h]
  simp [Sem.run_bind, Result.andThen]
/-- Four cells in a block of their own. -/
structure Box4 (W : World) (b : Nat) (v0 v1 v2 v3 : Value) : Prop where
  blk : W.heap[b]? = some (.cells #[v0, v1, v2, v3] 29 (0, 0))
theorem Box4.cells {W : World} {b : Nat} {v0 v1 v2 v3 : Value} (h : Box4 W b v0 v1 v2 v3) :
    W.cell? ⟨b, 0, none⟩ = some v0 ∧ W.cell? ⟨b, 1, none⟩ = some v1 ∧ W.cell? ⟨b, 2, none⟩ = some v2 ∧ W.cell? ⟨b, 3, none⟩ = some v3 ∧
    W.frozen? ⟨b, 0, none⟩ = false ∧ W.frozen? ⟨b, 1, none⟩ = false ∧ W.frozen? ⟨b, 2, none⟩ = false ∧ W.frozen? ⟨b, 3, none⟩ = false := by
  have hb := h.blk
  refine ⟨?_, ?_, ?_, ?_, ?_, ?_, ?_, ?_⟩ <;> simp [World.cell?, World.frozen?, hb]
theorem Box4.new (w : World) (v0 v1 v2 v3 : Value) : Box4 (w.alloc (.cells #[v0, v1, v2, v3] 29)) w.heap.size v0 v1 v2 v3 := ⟨heap_alloc_new w _⟩
theorem Box4.below {w w' : World} {b : Nat} {v0 v1 v2 v3 : Value} (h : Box4 w b v0 v1 v2 v3) (hb : Below w.heap.size w w') : Box4 w' b v0 v1 v2 v3 := ⟨(hb.block b (lt_of_block h.blk)).trans h.blk⟩
theorem heap_set (w : World) (b j : Nat) (cur : Array Value) (t : TypeId) (v : Value) (h : w.heap[b]? = some (.cells cur t (0, 0))) : (w.setCell ⟨b, j, none⟩ v).heap[b]? = some (.cells (cur.setIfInBounds j v) t (0, 0)) := by
  simp [World.setCell, Array.getElem?_modify, h]
theorem Box4.far {w : World} {b b' j : Nat} {v0 v1 v2 v3 v : Value} (h : Box4 w b v0 v1 v2 v3) (hne : b ≠ b') : Box4 (w.setCell ⟨b', j, none⟩ v) b v0 v1 v2 v3 := ⟨(Below.heap_setCell _ _ _ _ hne).trans h.blk⟩
theorem Box4.set0 {w : World} {b : Nat} {v0 v1 v2 v3 v : Value} (h : Box4 w b v0 v1 v2 v3) : Box4 (w.setCell ⟨b, 0, none⟩ v) b v v1 v2 v3 := ⟨by rw [heap_set w b 0 _ _ v h.blk]; rfl⟩
theorem Box4.set1 {w : World} {b : Nat} {v0 v1 v2 v3 v : Value} (h : Box4 w b v0 v1 v2 v3) : Box4 (w.setCell ⟨b, 1, none⟩ v) b v0 v v2 v3 := ⟨by rw [heap_set w b 1 _ _ v h.blk]; rfl⟩
theorem Box4.set2 {w : World} {b : Nat} {v0 v1 v2 v3 v : Value} (h : Box4 w b v0 v1 v2 v3) : Box4 (w.setCell ⟨b, 2, none⟩ v) b v0 v1 v v3 := ⟨by rw [heap_set w b 2 _ _ v h.blk]; rfl⟩
theorem Box4.set3 {w : World} {b : Nat} {v0 v1 v2 v3 v : Value} (h : Box4 w b v0 v1 v2 v3) : Box4 (w.setCell ⟨b, 3, none⟩ v) b v0 v1 v2 v := ⟨by rw [heap_set w b 3 _ _ v h.blk]; rfl⟩

theorem Box4.put4 {w : World} {b : Nat} {v0 v1 v2 v3 : Value} (h : Box4 w b v0 v1 v2 v3) (u0 u1 u2 u3 : Value) : Box4 ((((w.setCell ⟨b, 0, none⟩ u0).setCell ⟨b, 1, none⟩ u1).setCell ⟨b, 2, none⟩ u2).setCell ⟨b, 3, none⟩ u3) b u0 u1 u2 u3 := h.set0.set1.set2.set3
theorem below4 {B b : Nat} {a w : World} (h : Below B a w) (hb : B ≤ b) (u0 u1 u2 u3 : Value) : Below B a ((((w.setCell ⟨b, 0, none⟩ u0).setCell ⟨b, 1, none⟩ u1).setCell ⟨b, 2, none⟩ u2).setCell ⟨b, 3, none⟩ u3) :=
  (((h.setCell (p := ⟨b, 0, none⟩) hb u0).setCell (p := ⟨b, 1, none⟩) hb u1).setCell (p := ⟨b, 2, none⟩) hb u2).setCell (p := ⟨b, 3, none⟩) hb u3
/-- An attribute that is handed back out of a block. -/
theorem attr_ret {f : Func} {p : Tmp} (hr : f.results = #[.cell p 29]) {W : World} {b : Nat} {s : Int} {x y z : ByteArray} (h : Box4 W b (.int .i64 s) (.string x) (.string y) (.string z)) (tmps : Array Value) (hp : tmps.getD p undef = .pointer (some ⟨b, 0, none⟩)) :
    (results f tmps).run Tryd.prog W = .ok (.agg #[.int .i64 s, .string x, .string y, .string z]) W := by
  obtain ⟨c0, c1, c2, c3, _⟩ := h.cells
  rw [results_cell hr tmps Tryd.prog W, hp]
  simp [go_sem, c0, c1, c2, c3]

theorem bare_any (x : AttrM) (w : World) : Calls Tryd.prog 16 #[.agg #[.int .i64 x.space, .string x.pre, .string x.name, .string x.val]] w fun e w' => e = .returned (.agg #[.int .i64 x.space, .string ⟨#[]⟩, .string x.name, .string ⟨#[]⟩]) ∧ Below w.heap.size w w' := by
  go_enter Tryd.func16, Tryd.ntmps16
  go_wp2
  exact bodyPost_ret (attr_ret (p := 2) Tryd.results16 (b := w.heap.size + 1) (by have := Box4.new (w.alloc (.cells #[.int .i64 x.space, .string x.pre, .string x.name, .string x.val] 29)) (.int .i64 x.space) (.string ⟨#[]⟩) (.string x.name) (.string ⟨#[]⟩); simpa using this) _ rfl) rfl ⟨rfl, (below_new w _).alloc (by simp) _⟩

theorem plain_any (n : ByteArray) (w : World) : Calls Tryd.prog 17 #[.string n] w fun e w' => e = .returned (.agg #[.int .i64 0, .string ⟨#[]⟩, .string n, .string ⟨#[]⟩]) ∧ Below w.heap.size w w' := by
  go_enter Tryd.func17, Tryd.ntmps17
  go_wp2
  exact bodyPost_ret (attr_ret (p := 2) Tryd.results17 (b := w.heap.size) (Box4.new w (.int .i64 0) (.string ⟨#[]⟩) (.string n) (.string ⟨#[]⟩)) _ rfl) rfl ⟨rfl, below_new w _⟩

/-- Whether an attribute without a namespace has that name. -/
def isName (x : AttrM) (n : ByteArray) : Bool := x.space == 0 && x.name.toList == n.toList
theorem eqBare (x : AttrM) (n : ByteArray) (w : World) : (binOp .eql 29 (.agg #[.int .i64 x.space, .string ⟨#[]⟩, .string x.name, .string ⟨#[]⟩]) (.agg #[.int .i64 0, .string ⟨#[]⟩, .string n, .string ⟨#[]⟩])).run Tryd.prog w = .ok (.bool (isName x n)) w := by
  rw [run_eql_struct]
  have := eqAttr ⟨x.space, ⟨#[]⟩, x.name, ⟨#[]⟩⟩ ⟨0, ⟨#[]⟩, n, ⟨#[]⟩⟩ w
  simp only at this
  rw [this]
  simp [attrEq, isName, Result.andThen]

def defurl : ByteArray := ⟨#[100, 101, 102, 105, 110, 105, 116, 105, 111, 110, 117, 114, 108]⟩
def defURL : ByteArray := ⟨#[100, 101, 102, 105, 110, 105, 116, 105, 111, 110, 85, 82, 76]⟩
def mathF (x : AttrM) : AttrM := if isName x defurl then { x with name := defURL } else x

set_option maxHeartbeats 2000000 in
theorem math1_any (x : AttrM) (w : World) : Calls Tryd.prog 23 #[.agg #[.int .i64 x.space, .string x.pre, .string x.name, .string x.val]] w fun e w' => e = .returned (.agg #[.int .i64 (mathF x).space, .string (mathF x).pre, .string (mathF x).name, .string (mathF x).val]) ∧ Below w.heap.size w w' := by
  have hg := guardA
  have hq := fun W => eqBare x defurl W
  have HBX : Hid (Box4 ((w.alloc (.cells #[.int .i64 x.space, .string x.pre, .string x.name, .string x.val] 29)).alloc (.cells #[.int .i64 0, .string ⟨#[]⟩, .string ⟨#[]⟩, .string ⟨#[]⟩] 29)) w.heap.size (.int .i64 x.space) (.string x.pre) (.string x.name) (.string x.val)) := hide ((Box4.new w _ _ _ _).below (below_new _ _))
  have HRX : Hid (Box4 ((w.alloc (.cells #[.int .i64 x.space, .string x.pre, .string x.name, .string x.val] 29)).alloc (.cells #[.int .i64 0, .string ⟨#[]⟩, .string ⟨#[]⟩, .string ⟨#[]⟩] 29)) (w.heap.size + 1) (.int .i64 0) (.string ⟨#[]⟩) (.string ⟨#[]⟩) (.string ⟨#[]⟩)) := hide (by have := Box4.new (w.alloc (.cells #[.int .i64 x.space, .string x.pre, .string x.name, .string x.val] 29)) (.int .i64 0) (.string ⟨#[]⟩) (.string ⟨#[]⟩) (.string ⟨#[]⟩); simpa using this)
  have HB0 : Hid (Below w.heap.size w ((w.alloc (.cells #[.int .i64 x.space, .string x.pre, .string x.name, .string x.val] 29)).alloc (.cells #[.int .i64 0, .string ⟨#[]⟩, .string ⟨#[]⟩, .string ⟨#[]⟩] 29))) := hide ((below_new w _).alloc (by simp) _)
  unfold mathF
  cases hb : isName x defurl with
  | true =>
    rw [hb] at hq
    clear hb
    unfold defurl at hq
    rw [if_pos rfl]
    go_enter Tryd.func23, Tryd.ntmps23
    go_wp2_with (first
      | (go_at_call 16; refine (bare_any x _).mono ?_; rintro e w1 ⟨rfl, hb1⟩; have HB1 := hide ((unhide HB0).trans (hb1.mono (unhide HB0).size)); have HBX1 := hide ((unhide HBX).below hb1); have HRX1 := hide ((unhide HRX).below hb1); clear hb1)
      | (go_at_call 17; refine (plain_any _ _).mono ?_; rintro e w2 ⟨rfl, hb2⟩; have HB2 := hide ((unhide HB1).trans (hb2.mono (unhide HB1).size)); have HBX2 := hide ((unhide HBX1).below hb2); have HRX2 := hide ((unhide HRX1).below hb2); obtain ⟨c0, c1, c2, c3, f0, f1, f2, f3⟩ := ((unhide HBX1).below hb2).cells; obtain ⟨d0, d1, d2, d3, g0, g1, g2, g3⟩ := ((unhide HRX1).below hb2).cells; clear hb2))
    exact bodyPost_ret (attr_ret (p := 2) Tryd.results23 (((unhide HRX2).far (b' := w.heap.size) (by omega)).put4 _ _ _ _) _ rfl) rfl ⟨rfl, below4 ((unhide HB2).setCell (p := ⟨w.heap.size, 2, none⟩) (Nat.le_refl _) _) (Nat.le_succ _) _ _ _ _⟩
  | false =>
    rw [hb] at hq
    clear hb
    unfold defurl at hq
    rw [if_neg Bool.false_ne_true]
    go_enter Tryd.func23, Tryd.ntmps23
    go_wp2_with (first
      | (go_at_call 16; refine (bare_any x _).mono ?_; rintro e w1 ⟨rfl, hb1⟩; have HB1 := hide ((unhide HB0).trans (hb1.mono (unhide HB0).size)); have HBX1 := hide ((unhide HBX).below hb1); have HRX1 := hide ((unhide HRX).below hb1); clear hb1)
      | (go_at_call 17; refine (plain_any _ _).mono ?_; rintro e w2 ⟨rfl, hb2⟩; have HB2 := hide ((unhide HB1).trans (hb2.mono (unhide HB1).size)); have HRX2 := hide ((unhide HRX1).below hb2); obtain ⟨c0, c1, c2, c3, f0, f1, f2, f3⟩ := ((unhide HBX1).below hb2).cells; obtain ⟨d0, d1, d2, d3, g0, g1, g2, g3⟩ := ((unhide HRX1).below hb2).cells; clear hb2))
    exact bodyPost_ret (attr_ret (p := 2) Tryd.results23 ((unhide HRX2).put4 _ _ _ _) _ rfl) rfl ⟨rfl, below4 (unhide HB2) (Nat.le_succ _) _ _ _ _⟩

theorem math_any (l : List AttrM) (a : Option Addr) (cap : Nat) (w : World) (hin : AttrsIn w a l) (hl : l.length * 56 ≤ 140737488351232) :
    Calls Tryd.prog 12 #[.slice a l.length cap] w fun e w' => ∃ ao cp, e = .returned (.slice ao l.length cp) ∧ AttrsIn w' ao (l.map mathF) ∧ Below w.heap.size w w' := by
  have HE := hide (each0_any mathF 23 (enters_of Tryd.func23 (by kernel_rfl) rfl) l a cap w hin hl (fun W x _ => math1_any x W))
  clear hin hl
  generalize l.map mathF = m at HE
  go_enter Tryd.func12, Tryd.ntmps12
  go_wp2_with (go_at_call 14; refine (unhide HE).mono ?_; rintro e w1 ⟨ao, cp, rfl, hat, hb1⟩; have HAT := hide hat; have HB1 := hide hb1; clear hat hb1)
  go_ret
  exact ⟨ao, cp, rfl, unhide HAT, unhide HB1⟩

def svgF (x : AttrM) : AttrM := if x.space == 0 then { x with name := properM svgA x.name } else x

set_option maxHeartbeats 2000000 in
theorem svg1_any (x : AttrM) (B tb : Nat) (w : World) (hB : w.cell? ⟨B, 0, none⟩ = some (.slice (some ⟨tb, 0, none⟩) 58 58)) (ht : TabAt w tb svgA) : Calls Tryd.prog 22 #[.agg #[.int .i64 x.space, .string x.pre, .string x.name, .string x.val], .pointer (some ⟨B, 0, none⟩)] w fun e w' => e = .returned (.agg #[.int .i64 (svgF x).space, .string (svgF x).pre, .string (svgF x).name, .string (svgF x).val]) ∧ Below w.heap.size w w' := by
  have HBX : Hid (Box4 ((w.alloc (.cells #[.int .i64 x.space, .string x.pre, .string x.name, .string x.val] 29)).alloc (.cells #[.int .i64 0, .string ⟨#[]⟩, .string ⟨#[]⟩, .string ⟨#[]⟩] 29)) w.heap.size (.int .i64 x.space) (.string x.pre) (.string x.name) (.string x.val)) := hide ((Box4.new w _ _ _ _).below (below_new _ _))
  have HRX : Hid (Box4 ((w.alloc (.cells #[.int .i64 x.space, .string x.pre, .string x.name, .string x.val] 29)).alloc (.cells #[.int .i64 0, .string ⟨#[]⟩, .string ⟨#[]⟩, .string ⟨#[]⟩] 29)) (w.heap.size + 1) (.int .i64 0) (.string ⟨#[]⟩) (.string ⟨#[]⟩) (.string ⟨#[]⟩)) := hide (by have := Box4.new (w.alloc (.cells #[.int .i64 x.space, .string x.pre, .string x.name, .string x.val] 29)) (.int .i64 0) (.string ⟨#[]⟩) (.string ⟨#[]⟩) (.string ⟨#[]⟩); simpa using this)
  have hbb := (below_new w (.cells #[.int .i64 x.space, .string x.pre, .string x.name, .string x.val] 29)).alloc (by simp) (.cells #[.int .i64 0, .string ⟨#[]⟩, .string ⟨#[]⟩, .string ⟨#[]⟩] 29)
  have HB0 := hide hbb
  have hcB := (hbb.cell (p := ⟨B, 0, none⟩) (World.block_lt_of_cell? w _ hB)).trans hB
  have HP := hide (proper_any svgA (by decide) plainA x.name tb _ (ht.below hbb))
  have hle : svgA.length = 58 := rfl
  rw [hle] at HP
  clear hB ht hbb hle
  unfold svgF
  generalize properM svgA x.name = r at HP
  by_cases hb : x.space = 0
  · rw [if_pos (by simp [hb])]
    have hsp : (x.space == 0) = true := by simp [hb]
    clear hb
    go_enter Tryd.func22, Tryd.ntmps22
    go_wp2_with (go_at_call 19; refine (unhide HP).mono ?_; rintro e w2 ⟨rfl, hb2⟩; have HB2 := hide ((unhide HB0).trans (hb2.mono (unhide HB0).size)); have HRX2 := hide ((unhide HRX).below hb2); obtain ⟨c0, c1, c2, c3, f0, f1, f2, f3⟩ := ((unhide HBX).below hb2).cells; obtain ⟨d0, d1, d2, d3, g0, g1, g2, g3⟩ := ((unhide HRX).below hb2).cells; clear hb2)
    exact bodyPost_ret (attr_ret (p := 3) Tryd.results22 (((unhide HRX2).far (b' := w.heap.size) (by omega)).put4 _ _ _ _) _ rfl) rfl ⟨rfl, below4 ((unhide HB2).setCell (p := ⟨w.heap.size, 2, none⟩) (Nat.le_refl _) _) (Nat.le_succ _) _ _ _ _⟩
  · rw [if_neg (by simp [hb])]
    have hsp : (x.space == 0) = false := by simp [hb]
    clear hb
    go_enter Tryd.func22, Tryd.ntmps22
    go_wp2
    exact bodyPost_ret (attr_ret (p := 3) Tryd.results22 (b := w.heap.size + 1) (by have := Box4.new (w.alloc (.cells #[.int .i64 x.space, .string x.pre, .string x.name, .string x.val] 29)) (.int .i64 x.space) (.string x.pre) (.string x.name) (.string x.val); simpa using this) _ rfl) rfl ⟨rfl, (below_new w _).alloc (by simp) _⟩

theorem cell_new0 (w : World) (v : Value) (t : TypeId) : (w.alloc (.cells #[v] t)).cell? ⟨w.heap.size, 0, none⟩ = some v := by
  rw [cell_row _ w.heap.size 0 _ _ _ (heap_alloc_new w _)]; rfl

theorem svg_any (l : List AttrM) (a : Option Addr) (cap : Nat) (w : World) (hin : AttrsIn w a l) (hl : l.length * 56 ≤ 140737488351232) :
    Calls Tryd.prog 11 #[.slice a l.length cap] w fun e w' => ∃ ao cp, e = .returned (.slice ao l.length cp) ∧ AttrsIn w' ao (l.map svgF) ∧ Below w.heap.size w w' := by
  have HS := hide (svgA_any w)
  have hb0 := below_new w (.cells (sRow svgA) 9)
  have ht := tab_new w svgA
  have hb1 := below_new (w.alloc (.cells (sRow svgA) 9)) (.cells #[.slice (some ⟨w.heap.size, 0, none⟩) 58 58] 37)
  have HE := hide (each1_any svgF 22 (w.alloc (.cells (sRow svgA) 9)).heap.size (enters_of Tryd.func22 (by kernel_rfl) rfl) l a cap _ ((hin.below hb0).below hb1) hl (fun W x hW => svg1_any x _ w.heap.size W ((hW.cell (p := ⟨(w.alloc (.cells (sRow svgA) 9)).heap.size, 0, none⟩) (by simp)).trans (cell_new0 (w.alloc (.cells (sRow svgA) 9)) (.slice (some ⟨w.heap.size, 0, none⟩) 58 58) 37)) ((ht.below hb1).below hW)))
  have HB0 := hide (hb0.trans (hb1.mono hb0.size))
  clear hin hl ht hb1 hb0
  generalize l.map svgF = m at HE
  generalize w.alloc (.cells (sRow svgA) 9) = w1 at HE HS HB0
  go_enter Tryd.func11, Tryd.ntmps11
  go_wp2_with (first
    | (go_at_call 21; refine (unhide HS).mono ?_; rintro e w' ⟨rfl, rfl⟩)
    | (go_at_call 14; refine (unhide HE).mono ?_; rintro e w2 ⟨ao, cp, rfl, hat, hb1⟩; have HAT := hide hat; have HB1 := hide ((unhide HB0).trans (hb1.mono (unhide HB0).size)); clear hat hb1))
  go_ret
  exact ⟨ao, cp, rfl, unhide HAT, unhide HB1⟩
end Go.Proofs.YtgbinemombgckaaDoor
