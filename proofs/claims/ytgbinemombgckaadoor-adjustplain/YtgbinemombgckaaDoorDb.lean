/-
  Package adjust: the closure of Foreign; Foreign.
-/
import Derived.Test.YtgbinemombgckaaDoorDa
import Derived.Deep.MidRow
namespace Go.Proofs.YtgbinemombgckaaDoor
open Go.RowKit Go.Lib

def spV : List Value := rows.flatMap RowM.cells
theorem SpAt.all {W : World} (h : SpAt W) : ∀ (j : Nat) v, spV[j]? = some v → W.cell? ⟨0, j, none⟩ = some v := by
  intro j v hv
  have hlen : spV.length = 44 := rfl
  have hj : j < 44 := by have := (List.getElem?_eq_some_iff.1 hv).1; omega
  obtain ⟨i, r, rfl, hr⟩ : ∃ i r, j = i * 4 + r ∧ r < 4 := ⟨j / 4, j % 4, by omega, by omega⟩
  have hi : i < rows.length := by have : rows.length = 11 := rfl; omega
  obtain ⟨x, hx⟩ : ∃ x, rows[i]? = some x := ⟨_, List.getElem?_eq_getElem hi⟩
  apply h.cells i x hx r v
  rw [spV, flat_get RowM.cells 4 (fun _ => rfl) rows i r hr, hx] at hv
  exact hv
theorem SpAt.range {W : World} (h : SpAt W) : W.rangeAt 0 0 spV := fun j v hv => by rw [Nat.zero_add]; exact h.all j v hv
theorem info33 : (Tryd.prog.info? 33).map (·.size) = some spV.length := by kernel_rfl
theorem spV_at (j : Nat) (r : RowM) (hr : rows[j]? = some r) (W : World) : (Instr.index 33 (.agg spV.toArray) (.int .i64 (j : Int))).run Tryd.prog W = .ok (.agg #[.string r.src, .int .i64 r.space, .string r.pre, .string r.name]) W := by
  have hj : j < 11 := by have := (List.getElem?_eq_some_iff.1 hr).1; simpa [rows] using this
  have h : j = 0 ∨ j = 1 ∨ j = 2 ∨ j = 3 ∨ j = 4 ∨ j = 5 ∨ j = 6 ∨ j = 7 ∨ j = 8 ∨ j = 9 ∨ j = 10 := by omega
  rcases h with rfl | rfl | rfl | rfl | rfl | rfl | rfl | rfl | rfl | rfl | rfl <;> (cases hr; show _ = _; kernel_rfl)

structure Row4 (W : World) (b : Nat) (r : RowM) : Prop where
  blk : W.heap[b]? = some (.cells #[.string r.src, .int .i64 r.space, .string r.pre, .string r.name] 32 (0, 0))
theorem Row4.cells {W : World} {b : Nat} {r : RowM} (h : Row4 W b r) : W.cell? ⟨b, 0, none⟩ = some (.string r.src) ∧ W.cell? ⟨b, 1, none⟩ = some (.int .i64 r.space) ∧ W.cell? ⟨b, 2, none⟩ = some (.string r.pre) ∧ W.cell? ⟨b, 3, none⟩ = some (.string r.name) := by
  have hb := h.blk
  refine ⟨?_, ?_, ?_, ?_⟩ <;> simp [World.cell?, hb]
theorem Row4.new (w : World) (r : RowM) : Row4 (w.alloc (.cells #[.string r.src, .int .i64 r.space, .string r.pre, .string r.name] 32)) w.heap.size r := ⟨heap_alloc_new w _⟩
theorem Row4.below {w w' : World} {b : Nat} {r : RowM} (h : Row4 w b r) (hb : Below w.heap.size w w') : Row4 w' b r := ⟨(hb.block b (lt_of_block h.blk)).trans h.blk⟩
theorem Row4.dr {w : World} {b : Nat} {r : RowM} (h : Row4 w b r) : Row4 w.drew b r := ⟨h.blk⟩
theorem Box4.dr {w : World} {b : Nat} {v0 v1 v2 v3 : Value} (h : Box4 w b v0 v1 v2 v3) : Box4 w.drew b v0 v1 v2 v3 := ⟨h.blk⟩

def forOf (x : AttrM) (r : RowM) : AttrM := ⟨r.space, r.pre, r.name, x.val⟩
def findR (p : RowM → Bool) : Option RowM := rows.find? p
def forF (x : AttrM) : AttrM := match findR fun r => isName x r.src with | some r => forOf x r | none => x
theorem findR_at {p : RowM → Bool} {j : Nat} {y : RowM} (hy : rows[j]? = some y) (hp : p y = true) (hno : ∀ i s, i < j → rows[i]? = some s → p s = false) : findR p = some y := by
  unfold findR
  generalize rows = l at hy hno
  induction l generalizing j with
  | nil => simp at hy
  | cons a l ih =>
    cases j with
    | zero => simp at hy; subst hy; simp [hp]
    | succ j =>
      have h0 := hno 0 a (by omega) rfl
      rw [List.find?_cons, h0]
      exact ih (j := j) (by simpa using hy) (fun i s hi hs => hno (i + 1) s (by omega) (by simpa using hs))
theorem findR_none {p : RowM → Bool} (hno : ∀ i s, i < 11 → rows[i]? = some s → p s = false) : findR p = none := by
  unfold findR
  rw [List.find?_eq_none]
  intro s hs
  obtain ⟨i, hi⟩ := List.getElem?_of_mem hs
  rw [hno i s (by have := (List.getElem?_eq_some_iff.1 hi).1; simpa [rows] using this) hi]
  exact Bool.false_ne_true

set_option maxHeartbeats 4000000 in
theorem foreign1_any (x : AttrM) (w : World) (hS : SpAt w) : Calls Tryd.prog 15 #[.agg #[.int .i64 x.space, .string x.pre, .string x.name, .string x.val]] w fun e w' => e = .returned (.agg #[.int .i64 (forF x).space, .string (forF x).pre, .string (forF x).name, .string (forF x).val]) ∧ Below w.heap.size w w' := by
  have HBX : Hid (Box4 ((w.alloc (.cells #[.int .i64 x.space, .string x.pre, .string x.name, .string x.val] 29)).alloc (.cells #[.int .i64 0, .string ⟨#[]⟩, .string ⟨#[]⟩, .string ⟨#[]⟩] 29)) w.heap.size (.int .i64 x.space) (.string x.pre) (.string x.name) (.string x.val)) := hide ((Box4.new w _ _ _ _).below (below_new _ _))
  have HRX : Hid (Box4 ((w.alloc (.cells #[.int .i64 x.space, .string x.pre, .string x.name, .string x.val] 29)).alloc (.cells #[.int .i64 0, .string ⟨#[]⟩, .string ⟨#[]⟩, .string ⟨#[]⟩] 29)) (w.heap.size + 1) (.int .i64 0) (.string ⟨#[]⟩) (.string ⟨#[]⟩) (.string ⟨#[]⟩)) := hide (by have := Box4.new (w.alloc (.cells #[.int .i64 x.space, .string x.pre, .string x.name, .string x.val] 29)) (.int .i64 0) (.string ⟨#[]⟩) (.string ⟨#[]⟩) (.string ⟨#[]⟩); simpa using this)
  have hbb := (below_new w (.cells #[.int .i64 x.space, .string x.pre, .string x.name, .string x.val] 29)).alloc (by simp) (.cells #[.int .i64 0, .string ⟨#[]⟩, .string ⟨#[]⟩, .string ⟨#[]⟩] 29)
  have HB0 := hide hbb
  have HRG := hide (hS.below hbb).range
  have hg := guardA
  clear hbb hS
  go_enter Tryd.func15, Tryd.ntmps15
  go_wp2_with (refine wpList_load_mid (by rfl) 33 (.global 0) (by rfl) 0 0 (by rfl) spV _ (unhide HRG) Tryd.underlying33 rfl info33 ?_)
  go_loopg [4, 6] 11 (fun k _ s6 wx => ∃ j : Nat, j + k = 11 ∧ s6 = .int .i64 j ∧ Below w.heap.size w wx ∧ Box4 wx w.heap.size (.int .i64 x.space) (.string x.pre) (.string x.name) (.string x.val) ∧ Box4 wx (w.heap.size + 1) (.int .i64 0) (.string ⟨#[]⟩) (.string ⟨#[]⟩) (.string ⟨#[]⟩) ∧ (∀ i s, i < j → rows[i]? = some s → isName x s.src = false))
  case atStart => exact ⟨0, by omega, rfl, unhide HB0, unhide HBX, unhide HRX, fun i s hi => absurd hi (Nat.not_lt_zero _)⟩
  case round =>
    obtain ⟨j, hjg, rfl, hb, hbx, hrx, hno⟩ := hrel
    have HB := hide hb
    have HX := hide hbx
    have HR := hide hrx
    have HN := hide hno
    clear hno HBX HRX HB0 HRG
    by_cases hj : j < 11
    · have hjz : (j : Int) < 11 := by omega
      obtain ⟨r, hr⟩ : ∃ r, rows[j]? = some r := ⟨_, List.getElem?_eq_getElem hj⟩
      have hidx := fun W => spV_at j r hr W
      have HRW := hide hr
      have hq := fun W => eqBare x r.src W
      have HB1 : Hid (Below w.heap.size w (wr.alloc (.cells #[.string r.src, .int .i64 r.space, .string r.pre, .string r.name] 32))) := hide (hb.trans ((below_new wr _).mono hb.size))
      have HX1 : Hid (Box4 (wr.alloc (.cells #[.string r.src, .int .i64 r.space, .string r.pre, .string r.name] 32)) w.heap.size (.int .i64 x.space) (.string x.pre) (.string x.name) (.string x.val)) := hide (hbx.below (below_new wr _))
      have HR1 : Hid (Box4 (wr.alloc (.cells #[.string r.src, .int .i64 r.space, .string r.pre, .string r.name] 32)) (w.heap.size + 1) (.int .i64 0) (.string ⟨#[]⟩) (.string ⟨#[]⟩) (.string ⟨#[]⟩)) := hide (hrx.below (below_new wr _))
      have HW1 := hide (Row4.new wr r)
      clear hr hb hbx hrx
      cases hq2 : isName x r.src with
      | true =>
        rw [hq2] at hq
        have HQ := hide hq2
        clear hq2
        go_wp2
        generalize wr.alloc (.cells #[.string r.src, .int .i64 r.space, .string r.pre, .string r.name] 32) = w1 at HB1 HX1 HR1 HW1
        obtain ⟨c0, c1, c2, c3, _⟩ := (unhide HX1).cells
        obtain ⟨t0, t1, t2, t3⟩ := (unhide HW1).cells
        go_region_with (first
          | (go_at_call 16; refine (bare_any x _).mono ?_; rintro e w2 ⟨rfl, hb⟩; have HB2 := hide ((unhide HB1).drew.trans (hb.mono (unhide HB1).size)); have HX2 := hide ((unhide HX1).dr.below hb); have HR2 := hide ((unhide HR1).dr.below hb); have HW2 := hide ((unhide HW1).dr.below hb); obtain ⟨y0, y1, y2, y3⟩ := (unhide HW2).cells; clear hb)
          | (go_at_call 17; refine (plain_any _ _).mono ?_; rintro e w3 ⟨rfl, hb⟩; have HB3 := hide ((unhide HB2).trans (hb.mono (unhide HB2).size)); have HX3 := hide ((unhide HX2).below hb); have HR3 := hide ((unhide HR2).below hb); have HW3 := hide ((unhide HW2).below hb); clear hb))
        all_goals clear c0 c1 c2 c3 t0 t1 t2 t3 y0 y1 y2 y3
        all_goals obtain ⟨c0, c1, c2, c3, f0, f1, f2, f3⟩ := (unhide HX3).cells
        all_goals obtain ⟨d0, d1, d2, d3, g0, g1, g2, g3⟩ := (unhide HR3).cells
        all_goals obtain ⟨t0, t1, t2, t3⟩ := (unhide HW3).cells
        all_goals have HF : Hid (forF x = forOf x r) := hide (by unfold forF; rw [findR_at (p := fun r => isName x r.src) (unhide HRW) (unhide HQ) (unhide HN)])
        all_goals go_wp2
        all_goals exact bodyPost_ret (attr_ret (p := 2) Tryd.results15 ((unhide HR3).put4 _ _ _ _) _ rfl) rfl ⟨by rw [unhide HF]; rfl, below4 (unhide HB3) (Nat.le_succ _) _ _ _ _⟩
      | false =>
        rw [hq2] at hq
        have HQ := hide hq2
        clear hq2
        go_wp2
        generalize wr.alloc (.cells #[.string r.src, .int .i64 r.space, .string r.pre, .string r.name] 32) = w1 at HB1 HX1 HR1 HW1
        obtain ⟨c0, c1, c2, c3, _⟩ := (unhide HX1).cells
        obtain ⟨t0, t1, t2, t3⟩ := (unhide HW1).cells
        go_region_with (first
          | (go_at_call 16; refine (bare_any x _).mono ?_; rintro e w2 ⟨rfl, hb⟩; have HB2 := hide ((unhide HB1).drew.trans (hb.mono (unhide HB1).size)); have HX2 := hide ((unhide HX1).dr.below hb); have HR2 := hide ((unhide HR1).dr.below hb); have HW2 := hide ((unhide HW1).dr.below hb); obtain ⟨y0, y1, y2, y3⟩ := (unhide HW2).cells; clear hb)
          | (go_at_call 17; refine (plain_any _ _).mono ?_; rintro e w3 ⟨rfl, hb⟩; have HB3 := hide ((unhide HB2).trans (hb.mono (unhide HB2).size)); have HX3 := hide ((unhide HX2).below hb); have HR3 := hide ((unhide HR2).below hb); have HW3 := hide ((unhide HW2).below hb); clear hb))
        all_goals clear c0 c1 c2 c3 t0 t1 t2 t3 y0 y1 y2 y3
        all_goals go_wp2
        all_goals go_roundg (gk - 1)
        all_goals first
          | omega
          | exact ⟨j + 1, by omega, by go_num, unhide HB3, unhide HX3, unhide HR3, fun i s hi hs => by
              by_cases e : i = j
              · subst e; rw [unhide HRW] at hs; cases hs; exact unhide HQ
              · exact (unhide HN) i s (by omega) hs⟩
    · obtain rfl : j = 11 := by omega
      obtain ⟨c0, c1, c2, c3, f0, f1, f2, f3⟩ := hbx.cells
      obtain ⟨d0, d1, d2, d3, g0, g1, g2, g3⟩ := hrx.cells
      have HF : Hid (forF x = x) := hide (by unfold forF; rw [findR_none (p := fun r => isName x r.src) (unhide HN)])
      clear hb hbx hrx
      go_wp2
      exact bodyPost_ret (attr_ret (p := 2) Tryd.results15 ((unhide HR).put4 _ _ _ _) _ rfl) rfl ⟨by rw [unhide HF], below4 (unhide HB) (Nat.le_succ _) _ _ _ _⟩

theorem foreign_any (l : List AttrM) (a : Option Addr) (cap : Nat) (w : World) (hS : SpAt w) (hin : AttrsIn w a l) (hl : l.length * 56 ≤ 140737488351232) :
    Calls Tryd.prog 7 #[.slice a l.length cap] w fun e w' => ∃ ao cp, e = .returned (.slice ao l.length cp) ∧ AttrsIn w' ao (l.map forF) ∧ Below w.heap.size w w' := by
  have HE := hide (each0_any forF 15 (enters_of Tryd.func15 (by kernel_rfl) rfl) l a cap w hin hl (fun W x hW => foreign1_any x W (hS.below hW)))
  clear hin hl hS
  generalize l.map forF = m at HE
  go_enter Tryd.func7, Tryd.ntmps7
  go_wp2_with (go_at_call 14; refine (unhide HE).mono ?_; rintro e w1 ⟨ao, cp, rfl, hat, hb1⟩; have HAT := hide hat; have HB1 := hide hb1; clear hat hb1)
  go_ret
  exact ⟨ao, cp, rfl, unhide HAT, unhide HB1⟩
end Go.Proofs.YtgbinemombgckaaDoor
