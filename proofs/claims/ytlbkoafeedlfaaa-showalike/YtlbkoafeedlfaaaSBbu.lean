/-
  The third law's build: both arenas of a script; a script of the third law that came in, as the walks read it.
-/
import Derived.Test.YtlbkoafeedlfaaaSBay
import Derived.Test.YtlbkoafeedlfaaaSBaz
import Derived.Test.YtlbkoafeedlfaaaSBbt
namespace Go.Proofs.Ytlbkoafeedlfaaa
open Go.RowKit

/-- A call of a script of the third law. -/
structure Op3 where
  what : Int
  a : Int
  b : Int
  c : Int
  n : Int
  text : ByteArray
  la : Option Addr
  cap : Nat
  l : List AttrM
def Op3.cells (o : Op3) : Array Value := #[.int .i64 o.what, .int .i64 o.a, .int .i64 o.b, .int .i64 o.c, .int .i64 o.n, .string o.text, .slice o.la o.l.length o.cap]
structure Script3 (w : World) (a : Option Addr) (l : List Op3) : Prop where
  cells : ∀ (i : Nat) o, l[i]? = some o → ∃ b off, a = some ⟨b, off, none⟩ ∧ w.cell? ⟨b, off + i * 7, none⟩ = some (.int .i64 o.what) ∧ w.cell? ⟨b, off + i * 7 + 1, none⟩ = some (.int .i64 o.a) ∧ w.cell? ⟨b, off + i * 7 + 2, none⟩ = some (.int .i64 o.b) ∧ w.cell? ⟨b, off + i * 7 + 3, none⟩ = some (.int .i64 o.c) ∧ w.cell? ⟨b, off + i * 7 + 4, none⟩ = some (.int .i64 o.n) ∧ w.cell? ⟨b, off + i * 7 + 5, none⟩ = some (.string o.text) ∧ w.cell? ⟨b, off + i * 7 + 6, none⟩ = some (.slice o.la o.l.length o.cap)
  attrs : ∀ (i : Nat) o, l[i]? = some o → AttrsIn w o.la o.l ∧ o.l.length * 56 ≤ 140737488351232
theorem Script3.below {w w1 : World} {a : Option Addr} {l : List Op3} (h : Script3 w a l) (hb : Below w.heap.size w w1) : Script3 w1 a l := by
  refine ⟨fun i o hi => ?_, fun i o hi => ⟨((h.attrs i o hi).1).below hb, (h.attrs i o hi).2⟩⟩
  obtain ⟨b, off, e, c0, c1, c2, c3, c4, c5, c6⟩ := h.cells i o hi
  have hlt : b < w.heap.size := World.block_lt_of_cell? w _ c0
  exact ⟨b, off, e, (hb.cell (p := ⟨b, off + i * 7, none⟩) hlt).trans c0, (hb.cell (p := ⟨b, off + i * 7 + 1, none⟩) hlt).trans c1, (hb.cell (p := ⟨b, off + i * 7 + 2, none⟩) hlt).trans c2, (hb.cell (p := ⟨b, off + i * 7 + 3, none⟩) hlt).trans c3, (hb.cell (p := ⟨b, off + i * 7 + 4, none⟩) hlt).trans c4, (hb.cell (p := ⟨b, off + i * 7 + 5, none⟩) hlt).trans c5, (hb.cell (p := ⟨b, off + i * 7 + 6, none⟩) hlt).trans c6⟩

/-- The box of a call's argument holds o. -/
structure At3 (o : Op3) (k : Nat) (w : World) : Prop where
  a : w.cell? ⟨k, 1, none⟩ = some (.int .i64 o.a)
  b : w.cell? ⟨k, 2, none⟩ = some (.int .i64 o.b)
  c : w.cell? ⟨k, 3, none⟩ = some (.int .i64 o.c)
  n : w.cell? ⟨k, 4, none⟩ = some (.int .i64 o.n)
  t : w.cell? ⟨k, 5, none⟩ = some (.string o.text)
  l : w.cell? ⟨k, 6, none⟩ = some (.slice o.la o.l.length o.cap)
theorem at3_box (w : World) (o : Op3) (v0 : Value) : At3 o w.heap.size (w.alloc (.cells #[v0, .int .i64 o.a, .int .i64 o.b, .int .i64 o.c, .int .i64 o.n, .string o.text, .slice o.la o.l.length o.cap] 104)) := by
  refine ⟨?_, ?_, ?_, ?_, ?_, ?_⟩
  all_goals simp
theorem At3.of {o : Op3} {k : Nat} {w w1 : World} (h : At3 o k w) (he : ∀ j, w1.cell? ⟨k, j, none⟩ = w.cell? ⟨k, j, none⟩) : At3 o k w1 :=
  ⟨by rw [he]; exact h.a, by rw [he]; exact h.b, by rw [he]; exact h.c, by rw [he]; exact h.n, by rw [he]; exact h.t, by rw [he]; exact h.l⟩

section
variable {w0 w W w1 w2 : World} {bA bR : Nat} {os osR os1 : List OneM} {ns : List NodeM} {F G : Nat → Prop}
theorem Pair.prog3 (h : Pair w0 w bA bR os osR ns F G) (o : Op3) (hB : Below w.heap.size w W) (hlt : w.heap.size < W.heap.size) (hw : At3 o w.heap.size W) (hu : USim F W w1 w0.heap.size bA os1) :
    At3 o w.heap.size w1 ∧ ∃ ns1 F1, Pair w0 w1 bA bR os1 osR ns1 F1 G := by
  obtain ⟨ns1, F1, hp1, hc⟩ := h.prog hB hu
  exact ⟨hw.of fun j => hc _ j (Nat.le_refl _) hlt, ns1, F1, hp1⟩
end

set_option maxHeartbeats 8000000 in
theorem build_any {w : World} (a : Option Addr) (cap : Nat) (l : List Op3) (hs : Script3 w a l) (hn : l.length ≤ maxLen) :
    Calls Try.prog 27 #[.slice a l.length cap] w fun e w' => ∃ bR os, e = .returned (.tuple #[.pointer (some ⟨w.heap.size + 3, 0, none⟩), .pointer (some ⟨bR, 0, none⟩)]) ∧ Both w w' (w.heap.size + 3) bR os ∧ SmallO os ∧ os.length ≤ 601 := by
  have HN := hide (new_any w w.heap.size (Nat.le_refl _))
  have HS := hide hs
  have hlz : (l.length : Int) ≤ 9223372036854775807 := by unfold maxLen at hn; omega
  clear hs hn
  go_enter Try.func27, Try.ntmps27
  set_option maxRecDepth 10000 in
  go_wp2_with (first
    | (go_at_call 13; refine (unhide HN).mono ?_; rintro e w1 ⟨F, rfl, h1, hb1, hF⟩; have HNR := hide (refNew_any w1 w.heap.size hb1.size); have H1 := hide h1; have HB1 := hide hb1; have HF := hide hF; clear h1 hb1 hF)
    | (go_at_call 14; refine (unhide HNR).mono ?_; rintro e w2 ⟨bR, g, cp, rfl, h2, hb2, hR, hg⟩; have HBo := hide (both_new (unhide H1) (unhide HB1) (unhide HF) h2 hb2 hR hg); clear h2 hb2 hR hg))
  go_loopg [6, 7] 300 (fun k s6 _ wx => ∃ (j : Nat) (os : List OneM), s6 = .int .i64 j ∧ j + k = 300 ∧ Both w wx (w.heap.size + 3) bR os ∧ SmallO os ∧ os.length ≤ 1 + 2 * j)
  case atStart => exact ⟨0, _, rfl, by omega, unhide HBo, small_new, by simp⟩
  case round =>
    obtain ⟨j, os, rfl, hjk, hB, hsm, hlm⟩ := hrel
    have HBW := hide (show Below w.heap.size w wr by obtain ⟨ns, F0, G0, hp⟩ := hB; exact hp.below)
    by_cases hj : j < l.length
    · by_cases h300 : j < 300
      · have hjz : (j : Int) < (l.length : Int) := by omega
        have h3z : (j : Int) < 300 := by omega
        have hx : l[j]? = some l[j] := List.getElem?_eq_getElem hj
        generalize l[j] = o at hx
        obtain ⟨ha, hr⟩ := (unhide HS).attrs j o hx
        obtain ⟨b, off, rfl, d0, d1, d2, d3, d4, d5, d6⟩ := ((unhide HS).below (unhide HBW)).cells j o hx
        obtain ⟨ns, F, G, hp⟩ := hB
        have hW : ∀ ob, Below wr.heap.size wr (wr.alloc ob) := fun ob => ((Below.refl _ wr).alloc (Nat.le_refl _) ob)
        have HP := hide hp
        have HSIM := hide hp.sim
        have HW := hide hW
        have HAT := hide ha
        have HNL : Hid (o.l.length ≤ maxLen) := hide (by unfold maxLen; omega)
        have HFIN : Hid (∀ wz os', Both w wz (w.heap.size + 3) bR os' → SmStep os os' → ∃ (j_1 : Nat) (os : List OneM), Value.int .i64 ((j : Int) + 1) = .int .i64 j_1 ∧ j_1 + (gk - 1) = 300 ∧ Both w wz (w.heap.size + 3) bR os ∧ SmallO os ∧ os.length ≤ 1 + 2 * j_1) := hide (fun wz os' h hst => ⟨j + 1, os', by simp, by omega, h, hst.1 hsm, by have := hst.2; omega⟩)
        clear ha hr hx hW
        by_cases h0 : o.what = 0
        · rw [h0] at d0
          clear h0
          have HB := hide (at3_box wr o (.int .i64 0))
          have H1 := hide (fun ob => element_sim (hp.more ((unhide HW) ob)).ar hp.sim o.n o.text o.la o.cap o.l (((unhide HAT).below hp.below).below ((unhide HW) ob)) (unhide HNL))
          clear hp
          set_option maxRecDepth 10000 in
          go_wp2_with (first
            | (go_at_call 34; refine ((unhide H1) _).mono ?_; rintro e w1 ⟨rfl, hu⟩; obtain ⟨Y1, ns1, F1, hp1⟩ := (unhide HP).prog3 o ((unhide HW) _) (by simp) (unhide HB) hu; have t1 := Y1.n; have t2 := Y1.t; have t3 := Y1.l; have H2 := hide (refElement_sim hp1.rf o.n o.text o.la o.cap o.l ((unhide HAT).below hp1.below) (unhide HNL)); have HP1 := hide hp1; clear hu hp1 Y1)
            | (go_at_call 65; refine (unhide H2).mono ?_; rintro e w2 ⟨rfl, hu2⟩; have HB2 := hide ((unhide HP1).ref hu2).1; clear hu2))
          go_roundg (gk - 1)
          case measure => omega
          case rel => exact (unhide HFIN) _ _ (unhide HB2) (SmStep.elem ..)
        by_cases h1 : o.what = 1
        · rw [h1] at d0
          clear h1
          have HB := hide (at3_box wr o (.int .i64 1))
          have H1 := hide (fun ob => text_sim (hp.more ((unhide HW) ob)).ar hp.sim o.text)
          clear hp
          set_option maxRecDepth 10000 in
          go_wp2_with (first
            | (go_at_call 64; refine ((unhide H1) _).mono ?_; rintro e w1 ⟨rfl, hu⟩; obtain ⟨Y1, ns1, F1, hp1⟩ := (unhide HP).prog3 o ((unhide HW) _) (by simp) (unhide HB) hu; have t2 := Y1.t; have H2 := hide (refText_sim hp1.rf o.text); have HP1 := hide hp1; clear hu hp1 Y1)
            | (go_at_call 66; refine (unhide H2).mono ?_; rintro e w2 ⟨rfl, hu2⟩; have HB2 := hide ((unhide HP1).ref hu2).1; clear hu2))
          go_roundg (gk - 1)
          case measure => omega
          case rel => exact (unhide HFIN) _ _ (unhide HB2) (SmStep.data ..)
        by_cases h2 : o.what = 2
        · rw [h2] at d0
          clear h2
          have HB := hide (at3_box wr o (.int .i64 2))
          have H1 := hide (fun ob => comment_sim (hp.more ((unhide HW) ob)).ar hp.sim o.text)
          clear hp
          set_option maxRecDepth 10000 in
          go_wp2_with (first
            | (go_at_call 67; refine ((unhide H1) _).mono ?_; rintro e w1 ⟨rfl, hu⟩; obtain ⟨Y1, ns1, F1, hp1⟩ := (unhide HP).prog3 o ((unhide HW) _) (by simp) (unhide HB) hu; have t2 := Y1.t; have H2 := hide (refComment_sim hp1.rf o.text); have HP1 := hide hp1; clear hu hp1 Y1)
            | (go_at_call 68; refine (unhide H2).mono ?_; rintro e w2 ⟨rfl, hu2⟩; have HB2 := hide ((unhide HP1).ref hu2).1; clear hu2))
          go_roundg (gk - 1)
          case measure => omega
          case rel => exact (unhide HFIN) _ _ (unhide HB2) (SmStep.data ..)
        by_cases h3 : o.what = 3
        · rw [h3] at d0
          clear h3
          have HB := hide (at3_box wr o (.int .i64 3))
          have H1 := hide (fun ob => doctype_sim (hp.more ((unhide HW) ob)).ar hp.sim o.text ⟨#[]⟩ o.text)
          clear hp
          set_option maxRecDepth 10000 in
          go_wp2_with (first
            | (go_at_call 69; refine ((unhide H1) _).mono ?_; rintro e w1 ⟨rfl, hu⟩; obtain ⟨Y1, ns1, F1, hp1⟩ := (unhide HP).prog3 o ((unhide HW) _) (by simp) (unhide HB) hu; have t2 := Y1.t; have H2 := hide (refDoctype_sim hp1.rf o.text ⟨#[]⟩ o.text); have HP1 := hide hp1; clear hu hp1 Y1)
            | (go_at_call 70; refine (unhide H2).mono ?_; rintro e w2 ⟨rfl, hu2⟩; have HB2 := hide ((unhide HP1).ref hu2).1; clear hu2))
          go_roundg (gk - 1)
          case measure => omega
          case rel => exact (unhide HFIN) _ _ (unhide HB2) (SmStep.doc ..)
        by_cases h4 : o.what = 4
        · rw [h4] at d0
          clear h4
          have HB := hide (at3_box wr o (.int .i64 4))
          have H1 := hide (fun ob => fragment_sim (hp.more ((unhide HW) ob)).ar hp.sim)
          clear hp
          set_option maxRecDepth 10000 in
          go_wp2_with (first
            | (go_at_call 71; refine ((unhide H1) _).mono ?_; rintro e w1 ⟨rfl, hu⟩; obtain ⟨Y1, ns1, F1, hp1⟩ := (unhide HP).prog3 o ((unhide HW) _) (by simp) (unhide HB) hu; have t2 := Y1.t; have H2 := hide (refFragment_sim hp1.rf); have HP1 := hide hp1; clear hu hp1 Y1)
            | (go_at_call 72; refine (unhide H2).mono ?_; rintro e w2 ⟨rfl, hu2⟩; have HB2 := hide ((unhide HP1).ref hu2).1; clear hu2))
          go_roundg (gk - 1)
          case measure => omega
          case rel => exact (unhide HFIN) _ _ (unhide HB2) (SmStep.frag ..)
        by_cases h5 : o.what = 5
        · rw [h5] at d0
          clear h5
          have HB := hide (at3_box wr o (.int .i64 5))
          have H1 := hide (fun ob => link_sim (hp.more ((unhide HW) ob)).ar hp.sim o.a o.b o.c)
          clear hp
          set_option maxRecDepth 10000 in
          go_wp2_with (first
            | (go_at_call 35; refine ((unhide H1) _).mono ?_; rintro e w1 ⟨rfl, hu⟩; obtain ⟨Y1, ns1, F1, hp1⟩ := (unhide HP).prog3 o ((unhide HW) _) (by simp) (unhide HB) hu; have t1 := Y1.a; have t2 := Y1.b; have t3 := Y1.c; have H2 := hide (refLink_sim hp1.rf (unhide HSIM) o.a o.b o.c); have HP1 := hide hp1; clear hu hp1 Y1)
            | (go_at_call 38; refine (unhide H2).mono ?_; rintro e w2 ⟨rfl, hu2⟩; have HB2 := hide ((unhide HP1).ref hu2).1; clear hu2))
          go_roundg (gk - 1)
          case measure => omega
          case rel => exact (unhide HFIN) _ _ (unhide HB2) (SmStep.link ..)
        have b0 : (o.what == 0) = false := by simpa using h0
        have b1 : (o.what == 1) = false := by simpa using h1
        have b2 : (o.what == 2) = false := by simpa using h2
        have b3 : (o.what == 3) = false := by simpa using h3
        have b4 : (o.what == 4) = false := by simpa using h4
        have b5 : (o.what == 5) = false := by simpa using h5
        clear h0 h1 h2 h3 h4 h5
        have HB := hide (at3_box wr o (.int .i64 o.what))
        have H1 := hide (fun ob => unlink_sim (hp.more ((unhide HW) ob)).ar hp.sim o.a)
        clear hp
        set_option maxRecDepth 10000 in
        go_wp2_with (first
          | (go_at_call 39; refine ((unhide H1) _).mono ?_; rintro e w1 ⟨rfl, hu⟩; obtain ⟨Y1, ns1, F1, hp1⟩ := (unhide HP).prog3 o ((unhide HW) _) (by simp) (unhide HB) hu; have t1 := Y1.a; have H2 := hide (refUnlink_sim hp1.rf (unhide HSIM) o.a); have HP1 := hide hp1; clear hu hp1 Y1)
          | (go_at_call 40; refine (unhide H2).mono ?_; rintro e w2 ⟨rfl, hu2⟩; have HB2 := hide ((unhide HP1).ref hu2).1; clear hu2))
        go_roundg (gk - 1)
        case measure => omega
        case rel => exact (unhide HFIN) _ _ (unhide HB2) (SmStep.unlink ..)
      · have hjz : (j : Int) < (l.length : Int) := by omega
        have h3z : ¬ (j : Int) < 300 := by omega
        have HB := hide hB
        clear hB
        set_option maxRecDepth 10000 in
        go_wp2
        go_ret2
        exact ⟨bR, rfl, os, unhide HB, hsm, by omega⟩
    · have hjz : ¬ (j : Int) < (l.length : Int) := by omega
      have HB := hide hB
      clear hB
      set_option maxRecDepth 10000 in
      go_wp2
      go_ret2
      exact ⟨bR, rfl, os, unhide HB, hsm, by omega⟩

theorem list7 {α : Type} (l : List α) (h : l.length = 7) : ∃ a b c d e f g, l = [a, b, c, d, e, f, g] := by
  match l, h with
  | [a, b, c, d, e, f, g], _ => exact ⟨a, b, c, d, e, f, g, rfl⟩
section
variable {H : Type} {enc : TypeId × Value → H} {W : World} {spare : Nat → Bool} {held : Bool}
theorem op3_cells {fuel : Nat} {cs : List Value} {x : DataW H × List MemPlace} (h : DataW.trod enc Try.prog W 0 spare held fuel 104 cs = some x) :
    ∃ o : Op3, cs = o.cells.toList ∧ AttrsIn W o.la o.l ∧ ((x.1.weights Try.prog 104).all (· ≤ reachBytes) = true → o.l.length * 56 ≤ 140737488351232) := by
  have hc104 : Try.prog.cellsOf 104 = 7 := by kernel_rfl
  have hc30 : Try.prog.cellsOf 30 = 1 := by kernel_rfl
  have hc3 : Try.prog.cellsOf 3 = 1 := by kernel_rfl
  have hc9 : Try.prog.cellsOf 9 = 1 := by kernel_rfl
  obtain ⟨xs, k, _, rfl, hl4, hxl, hfs⟩ := DataW.trod_struct Try.underlying104 h
  rw [hc104] at hl4
  obtain ⟨e0, e1, e2, e3, e4, e5, e6, rfl⟩ := list7 cs hl4
  have hx : xs.length = 7 := by simpa using hxl
  obtain ⟨y0, y1, y2, y3, y4, y5, y6, rfl⟩ := list7 xs hx
  have f0 := hfs 0 _ rfl
  have f1 := hfs 1 _ rfl
  have f2 := hfs 2 _ rfl
  have f3 := hfs 3 _ rfl
  have f4 := hfs 4 _ rfl
  have f5 := hfs 5 _ rfl
  have f6 := hfs 6 _ rfl
  simp [hc3, hc9, hc30] at f0 f1 f2 f3 f4 f5 f6
  obtain ⟨z0, g0, _, _⟩ := DataW.trod_int Try.underlying3 f0
  obtain ⟨z1, g1, _, _⟩ := DataW.trod_int Try.underlying3 f1
  obtain ⟨z2, g2, _, _⟩ := DataW.trod_int Try.underlying3 f2
  obtain ⟨z3, g3, _, _⟩ := DataW.trod_int Try.underlying3 f3
  obtain ⟨z4, g4, _, _⟩ := DataW.trod_int Try.underlying3 f4
  obtain ⟨z5, g5, _, _⟩ := DataW.trod_string Try.underlying9 f5
  obtain ⟨la, cap, l, g6, hin, hw⟩ := attrs_cells f6
  simp at g0 g1 g2 g3 g4 g5 g6
  subst g0 g1 g2 g3 g4 g5 g6
  refine ⟨⟨z0, z1, z2, z3, z4, z5, la, cap, l⟩, rfl, hin, fun hall => hw (List.all_eq_true.2 fun n hn => List.all_eq_true.1 hall n ?_)⟩
  simp only [DataW.weights, Try.underlying104]
  exact DataW.weights_mem_each (j := 6) (t := 30) (d := y6.1) rfl rfl n hn

/-- A script that came in. -/
theorem script3_open {a : Option Addr} {len cap : Nat} {d : DataW H} {ps : List MemPlace}
    (h : DataW.Trod enc Try.prog W 0 spare held 52 (.slice a len cap) d ps) (hsz : (d.weights Try.prog 52).all (· ≤ reachBytes) = true) : ∃ l : List Op3, l.length = len ∧ Script3 W a l ∧ len ≤ maxLen := by
  obtain ⟨fuel, hf⟩ := h
  rcases Go.Deep.open_slice Try.underlying52 hf with ⟨hcs, _⟩ | ⟨x, l, c, m, n, D, Pl, hcs, _, hlc, hcm, hm, hx, hel⟩
  · simp [Value.cells] at hcs
    obtain ⟨rfl, rfl, rfl⟩ := hcs
    exact ⟨[], rfl, ⟨fun i x hi => by simp at hi, fun i x hi => by simp at hi⟩, by simp⟩
  · simp [Value.cells] at hcs
    obtain ⟨rfl, rfl, rfl⟩ := hcs
    simp only [Prod.mk.injEq] at hx
    obtain ⟨rfl, _⟩ := hx
    have hc7 : Try.prog.cellsOf 104 = 7 := by kernel_rfl
    have hlm : len ≤ m := by rw [hm]; split <;> omega
    have one : ∀ i, i < len → ∃ o : Op3, (∃ b off, x = ⟨b, off, none⟩ ∧ ∀ j v, o.cells.toList[j]? = some v → W.cell? ⟨b, off + i * 7 + j, none⟩ = some v) ∧ AttrsIn W o.la o.l ∧ o.l.length * 56 ≤ 140737488351232 := by
      intro i hi
      obtain ⟨cs', hcs', htr⟩ := hel i (by omega)
      rw [hc7] at hcs'
      obtain ⟨o, rfl, hin, hw⟩ := op3_cells htr
      refine ⟨o, ?_, hin, hw (List.all_eq_true.2 fun n hn => List.all_eq_true.1 hsz n ?_)⟩
      · obtain ⟨i0, hi0⟩ : ∃ i0 : Nat, i0 = 0 := ⟨0, rfl⟩
        obtain ⟨cs0, hcs0, htr0⟩ := hel i0 (by omega)
        rw [hc7] at hcs0
        obtain ⟨o', rfl, _, _⟩ := op3_cells htr0
        have p0 := cells_get hcs0 0 _ rfl
        rw [Go.Deep.add_add, show i0 * 7 + 0 = 0 by omega] at p0
        obtain ⟨b, off, rfl⟩ := addr_plain p0
        have ad : ∀ k, (⟨b, off, none⟩ : Addr).add k = ⟨b, off + k, none⟩ := fun k => by unfold Addr.add; split <;> simp_all
        refine ⟨b, off, rfl, fun j v hj => ?_⟩
        have := cells_get hcs' j v hj
        rw [Go.Deep.add_add, ad] at this
        rw [Nat.add_assoc]
        exact this
      · simp only [DataW.weights, Try.underlying52, List.mem_cons, List.mem_append]
        exact .inr (.inl (weightsAll_mem (List.mem_map.2 ⟨i, List.mem_range.2 hi, rfl⟩) n hn))
    obtain ⟨f, hf'⟩ : ∃ f : Nat → Op3, ∀ i, i < len → (∃ b off, x = ⟨b, off, none⟩ ∧ ∀ j v, (f i).cells.toList[j]? = some v → W.cell? ⟨b, off + i * 7 + j, none⟩ = some v) ∧ AttrsIn W (f i).la (f i).l ∧ (f i).l.length * 56 ≤ 140737488351232 := by
      have : Inhabited Op3 := ⟨⟨0, 0, 0, 0, 0, ⟨#[]⟩, none, 0, []⟩⟩
      exact Go.Deep.choose_lt one
    have get : ∀ (i : Nat) y, ((List.range len).map f)[i]? = some y → i < len ∧ f i = y := by
      intro i y hi
      have hlt : i < len := by have := (List.getElem?_eq_some_iff.1 hi).1; simpa using this
      exact ⟨hlt, by simpa [hlt] using hi⟩
    refine ⟨(List.range len).map f, by simp, ⟨fun i y hi => ?_, fun i y hi => ?_⟩, by omega⟩
    · obtain ⟨hlt, rfl⟩ := get i y hi
      obtain ⟨⟨b, off, rfl, hc⟩, _, _⟩ := hf' i hlt
      exact ⟨b, off, rfl, hc 0 _ rfl, hc 1 _ rfl, hc 2 _ rfl, hc 3 _ rfl, hc 4 _ rfl, hc 5 _ rfl, hc 6 _ rfl⟩
    · obtain ⟨hlt, rfl⟩ := get i y hi
      exact (hf' i hlt).2
end
end Go.Proofs.Ytlbkoafeedlfaaa
