/-
  Next.
-/
import Derived.Test.YtdfcdgjmjionbaaTi
namespace Go.Proofs.Ytdfcdgjmjionbaa
open Go.RowKit Go.Lib

/-- The first of a line is gone. -/
theorem QueS.cut {w w1 w' : World} {base bq : Nat} {qs : List (List Tk)} {F : Nat → Prop} (h : QueS w base bq qs F) {i c : Nat} {l : List Tk} {t : Tk} (hi : qs[i]? = some (t :: l)) {ps : List Nat} {p s r : Nat} {cs : List Nat}
    (hcl : cs.length = 4) (hnd : Apart cs) (hbq : w.heap[bq]? = some (.cells (cs.map chanV).toArray 56 (0, 0))) (hls : ∀ (i c : Nat) l, cs[i]? = some c → qs[i]? = some l → LineIn w F c l)
    (hci : cs[i]? = some c) (hc : w.heap[c]? = some (.chan 4096 ((p :: ps).map ptrV).toArray false s r false)) (hpl : (p :: ps).length = (t :: l).length) (hps : ∀ (j q : Nat) u, (p :: ps)[j]? = some q → (t :: l)[j]? = some u → BoxIn w F q u)
    (hb1 : Below w.heap.size w w1) (hcb : w'.heap[c]? = some (.chan 4096 (ps.map ptrV).toArray false s (r + 1) false)) (hm : Mod (· = c) w1 w') :
    QueS w' base bq (qs.set i l) F ∧ ∃ x : TkV, w.heap[p]? = some (.cells x.cells 34 (0, 0)) ∧ TkIn w' F t x := by
  have hsz : w.heap.size ≤ w'.heap.size := Nat.le_trans hb1.size hm.size
  have hc1 : w1.heap[c]? = _ := (hb1.block c (lt_of_block hc)).trans hc
  have hcF := (hls i c _ hci hi).own
  have hmo := (hls i c _ hci hi).most
  have box : ∀ q u, BoxIn w F q u → BoxIn w' F q u := fun q u hq => (hq.mod (G := fun _ => False) (Mod.of_below hb1) (fun _ _ e => e)).chan hc1 hm
  have hbqc : bq ≠ c := by rintro rfl; rw [hbq] at hc; cases hc
  have hbq1 : w1.heap[bq]? = _ := (hb1.block bq (lt_of_block hbq)).trans hbq
  have hx : ∃ x : TkV, w.heap[p]? = some (.cells x.cells 34 (0, 0)) ∧ TkIn w' F t x := by
    obtain ⟨_, x, h1, h2⟩ := hps 0 p t rfl rfl
    exact ⟨x, h1, (h2.mod (G := fun _ => False) (Mod.of_below hb1) (fun _ _ e => e)).chan hc1 hm⟩
  refine ⟨⟨fun k hk => ⟨(h.lt k hk).1, Nat.lt_of_lt_of_le (h.lt k hk).2 hsz⟩, h.own, by rw [List.length_set]; exact h.len, cs, hcl, hnd, (hm.block bq (lt_of_block hbq1) hbqc).trans hbq1, fun j d k hj hk => ?_⟩, hx⟩
  by_cases e : i = j
  · subst e
    rw [hci] at hj
    cases hj
    have hlt := (List.getElem?_eq_some_iff.1 hi).1
    rw [List.getElem?_set_self hlt] at hk
    cases hk
    exact ⟨hcF, by simp at hmo; omega, ps, s, r + 1, hcb, by simpa using hpl, fun j q u hq hu => box q u (hps (j + 1) q u (by simpa using hq) (by simpa using hu))⟩
  · rw [List.getElem?_set_ne e] at hk
    have hne : d ≠ c := by
      rintro rfl
      exact e (hnd i j d hci hj)
    exact ((hls j d k hj hk).mod (G := fun _ => False) (Mod.of_below hb1) (fun _ _ e => e)).other hne hc1 hm

theorem tk_ret3 {W : World} {b : Nat} {x : TkV} (h : W.heap[b]? = some (.cells x.cells 34 (0, 0))) (tmps : Array Value) {y z : Value} (h4 : tmps.getD 4 undef = .pointer (some ⟨b, 0, none⟩)) (h5 : tmps.getD 5 undef = y) (h6 : tmps.getD 6 undef = z) :
    (results Try.f14 tmps).run Try.prog W = .ok (.tuple #[x.val, y, z]) W := by
  have h2 := run_loadVar_row W b 34 34 x.cells (0, 0) _ h Try.underlying34 rfl (by kernel_rfl)
  simp only [results, Try.results14]
  subst h5 h6
  simp only [Array.getD_eq_getD_getElem?] at h4
  simp [Result.andThen, h4, asAddr, h2, TkV.val]

theorem next_none (v : Option Addr) (pick : Int) (w : World) (HR : Hid (∀ W, Below w.heap.size w W → Calls Try.prog 20 #[.pointer v] W fun e w' => ∃ a c, e = .returned (.slice a 0 c) ∧ Below W.heap.size W w')) :
    Calls Try.prog 14 #[.pointer v, .int .i64 pick] w fun e w' => e = .returned (.tuple #[tkZ.val, .int .i64 0, .bool false]) ∧ Below w.heap.size w w' := by
  have HB0 := hide (below_new w (.cells #[.int .i64 0, .slice none 0 0, .slice none 0 0] 34))
  have HX0 := hide (heap_alloc_new w (.cells #[.int .i64 0, .slice none 0 0, .slice none 0 0] 34))
  go_enter Try.func14, Try.ntmps14
  go_wp2_with (go_at_call 20; go_must (refine (unhide HR _ (unhide HB0)).mono ?_); rintro e w1 ⟨a, cp, rfl, hb⟩; have HB := hide ((unhide HB0).trans (hb.mono (unhide HB0).size)); have hq := (hb.block w.heap.size (lt_of_block (unhide HX0))).trans (unhide HX0); have HX1 := hide hq; have k0 := (cell_of_row _ _ 0 _ _ _ hq).trans (by rfl : _ = some (.int .i64 0)); have k1 := (cell_of_row _ _ 1 _ _ _ hq).trans (by rfl : _ = some (.slice none 0 0)); have k2 := (cell_of_row _ _ 2 _ _ _ hq).trans (by rfl : _ = some (.slice none 0 0)); have kf : ∀ j, w1.frozen? ⟨w.heap.size, j, none⟩ = false := (fun j => by simp [World.frozen?, hq]); clear hb hq)
  have h1 := heap_setCell_same _ w.heap.size 0 _ _ (.int .i64 0) (unhide HX1)
  have h2 := heap_setCell_same _ w.heap.size 1 _ _ (.slice none 0 0) h1
  have h3 := heap_setCell_same _ w.heap.size 2 _ _ (.slice none 0 0) h2
  have hb3 := (((unhide HB).setCell (p := ⟨w.heap.size, 0, none⟩) (Nat.le_refl _) (.int .i64 0)).setCell (p := ⟨w.heap.size, 1, none⟩) (Nat.le_refl _) (.slice none 0 0)).setCell (p := ⟨w.heap.size, 2, none⟩) (Nat.le_refl _) (.slice none 0 0)
  exact bodyPost_ret (v := .tuple #[tkZ.val, .int .i64 0, .bool false]) (tk_ret3 (x := tkZ) h3 _ rfl rfl rfl) rfl ⟨rfl, hb3⟩

set_option maxRecDepth 10000 in
theorem next_some {w : World} {base bq : Nat} {qs : List (List Tk)} {F : Nat → Prop} (h : QueS w base bq qs F) (pick : Int) (i : Nat) (t : Tk) (l : List Tk) (hr : (toI (readyQ qs))[(restM pick (readyQ qs).length).toNat]? = some (i : Int)) (hi : qs[i]? = some (t :: l)) :
    Calls Try.prog 14 #[.pointer (some ⟨bq, 0, none⟩), .int .i64 pick] w fun e w' => ∃ x : TkV, e = .returned (.tuple #[x.val, .int .i64 i, .bool true]) ∧ QueS w' base bq (qs.set i l) F ∧ TkIn w' F t x ∧ Mod F w w' := by
  obtain ⟨cs, hcl, hnd, hbq, hls⟩ := h.lies
  have hlen := h.len
  have hil := (List.getElem?_eq_some_iff.1 hi).1
  have hi4 : (i : Int) < 4 := by omega
  have hi0 : (0 : Int) ≤ (i : Int) := by omega
  obtain ⟨c, hci⟩ : ∃ c, cs[i]? = some c := ⟨_, List.getElem?_eq_getElem (by omega)⟩
  obtain ⟨hcF, hmo, ps0, s, r, hcb, hpl, hps⟩ := hls i c _ hci hi
  obtain ⟨p, ps, rfl⟩ : ∃ p ps, ps0 = p :: ps := by
    cases ps0 with
    | nil => simp at hpl
    | cons p ps => exact ⟨p, ps, rfl⟩
  obtain ⟨_, x, hpx, _⟩ := hps 0 p t rfl rfl
  have hn := (List.getElem?_eq_some_iff.1 hr).1
  rw [toI_len] at hn
  have hn0 : 0 < (readyQ qs).length := by omega
  have hn4 : (readyQ qs).length ≤ 4 := by
    unfold readyQ
    exact Nat.le_trans (List.length_filter_le _ _) (by simp)
  obtain ⟨m, hm, hmr⟩ : ∃ m : Nat, restM pick (readyQ qs).length = (m : Int) ∧ (toI (readyQ qs))[m]? = some (i : Int) := ⟨_, by have := restM_lt pick hn0; omega, hr⟩
  have hRD : Hid (∀ W, Below w.heap.size w W → Calls Try.prog 20 #[.pointer (some ⟨bq, 0, none⟩)] W fun e w' => ∃ a cap, e = .returned (.slice a (readyQ qs).length cap) ∧ Below W.heap.size W w' ∧ RowIn w' (fun k => W.heap.size ≤ k) a (intsV (toI (readyQ qs)))) := hide fun W hb => ready_any (h.below hb)
  have hRS : Hid (∀ W, Calls Try.prog 27 #[.int .i64 pick, .int .i64 (readyQ qs).length] W fun e w' => e = .returned (.int .i64 m) ∧ W = w') := hide fun W => by rw [← hm]; exact rest_any pick _ hn0 hn4 W
  have HT : Hid (∀ W, Below w.heap.size w W → Calls Try.prog 28 #[.agg #[.chan (some c)]] W fun e w' => e = .returned (.tuple #[.agg x.cells, .bool true]) ∧ w'.heap[c]? = some (.chan 4096 (ps.map ptrV).toArray false s (r + 1) false) ∧ Mod (· = c) W w') :=
    hide fun W hb => take_some c 4096 p (ps.map ptrV).toArray s r x W (by rw [(hb.block c (lt_of_block hcb)).trans hcb]; simp [ptrV]) ((hb.block p (lt_of_block hpx)).trans hpx)
  have HP := hide fun (w1 w' : World) hb1 hcb' hm => QueS.cut (w1 := w1) (w' := w') h hi hcl hnd hbq hls hci hcb hpl hps hb1 hcb' hm
  have HPX : Hid (∀ x', w.heap[p]? = some (.cells (TkV.cells x') 34 (0, 0)) → x' = x) := hide fun x' h' => by
    rw [hpx] at h'
    obtain ⟨a0, b1, b2, b3, d1, d2, d3⟩ := x
    obtain ⟨a0', b1', b2', b3', d1', d2', d3'⟩ := x'
    simp [TkV.cells] at h'
    simp [h']
  have HCC : Hid (∀ W : World, W.heap[bq]? = some (.cells (cs.map chanV).toArray 56 (0, 0)) → W.cell? ⟨bq, i, none⟩ = some (.chan (some c))) := hide fun W hW => by
    rw [cell_of_row _ _ i _ _ _ hW]; simp [hci, chanV]
  have HNE : Hid (bq ≠ c) := hide (by rintro rfl; rw [hbq] at hcb; cases hcb)
  have HCL := hide (lt_of_block hcb)
  have HCF := hide hcF
  have HBQ := hide hbq
  have HMR := hide hmr
  have HFL := hide h.lt
  have HN := hide (And.intro hn0 hn4)
  generalize toI (readyQ qs) = R at *
  generalize hnn : (readyQ qs).length = n at *
  have HB0 := hide (below_new w (.cells #[.int .i64 0, .slice none 0 0, .slice none 0 0] 34))
  have HX0 := hide (heap_alloc_new w (.cells #[.int .i64 0, .slice none 0 0, .slice none 0 0] 34))
  obtain ⟨a0, b1, b2, b3, d1, d2, d3⟩ := x
  simp only [TkV.cells] at *
  have hnz : (0 : Int) < (n : Int) := by omega
  have hmn : (m : Int) < (n : Int) := by have := restM_lt pick hn0; omega
  have hm0 : (0 : Int) ≤ (m : Int) := by omega
  clear hcF hmo hcb hpl hps hbq hls hnd hcl hlen hil hi hr hn hn0 hn4 hm hmr hpx hci h hnn
  go_enter Try.func14, Try.ntmps14
  go_wp2_with (first
    | (go_at_call 20; go_must (refine (unhide hRD _ (unhide HB0)).mono ?_); rintro e w1 ⟨a, cp, rfl, hb, hrow⟩; have HB := hide ((unhide HB0).trans (hb.mono (unhide HB0).size)); have HX1 := hide ((hb.block w.heap.size (lt_of_block (unhide HX0))).trans (unhide HX0)); have HBQ1 := hide (((unhide HB).block bq (lt_of_block (unhide HBQ))).trans (unhide HBQ)); obtain ⟨ab, ao, rfl, hgc⟩ : ∃ ab ao, a = some ⟨ab, ao, none⟩ ∧ w1.cell? ⟨ab, ao + m, none⟩ = some (.int .i64 i) := (by obtain ⟨b, off, e, _, hc⟩ := hrow m (.int .i64 i) (by simp [intsV, unhide HMR]); exact ⟨b, off, e, hc⟩); have hqc := (unhide HCC) w1 (unhide HBQ1); clear hb hrow)
    | (go_at_call 27; go_must (refine (unhide hRS _).mono ?_); rintro e w2 ⟨rfl, rfl⟩)
    | (go_at_call 28; go_must (refine (unhide HT _ (unhide HB)).mono ?_); rintro e w2 ⟨rfl, hcb, hm⟩; have HQ2 := hide ((unhide HP) w1 w2 (unhide HB) hcb hm); have hq := (hm.block w.heap.size (lt_of_block (unhide HX1)) (by have := unhide HCL; omega)).trans (unhide HX1); have HX2 := hide hq; have HM2 := hide hm; have k0 := (cell_of_row _ _ 0 _ _ _ hq).trans (by rfl : _ = some (.int .i64 0)); have k1 := (cell_of_row _ _ 1 _ _ _ hq).trans (by rfl : _ = some (.slice none 0 0)); have k2 := (cell_of_row _ _ 2 _ _ _ hq).trans (by rfl : _ = some (.slice none 0 0)); have kf : ∀ j, w2.frozen? ⟨w.heap.size, j, none⟩ = false := (fun j => by simp [World.frozen?, hq]); have klt : w.heap.size < w2.heap.size := lt_of_block hq; clear hcb hm hq hqc hgc))
  have h1 := heap_setCell_same _ w.heap.size 0 _ _ (.int .i64 a0) (unhide HX2)
  have h2 := heap_setCell_same _ w.heap.size 1 _ _ (.slice b1 b2 b3) h1
  have h3 := heap_setCell_same _ w.heap.size 2 _ _ (.slice d1 d2 d3) h2
  have h4 := (Below.heap_alloc _ (.cells #[.int .i64 a0, .slice b1 b2 b3, .slice d1 d2 d3] 34) w.heap.size (lt_of_block h3)).trans h3
  have hmm := (((Mod.setCell (F := (· = w.heap.size)) w2 ⟨w.heap.size, 0, none⟩ (.int .i64 a0) rfl).trans (Mod.setCell _ ⟨w.heap.size, 1, none⟩ (.slice b1 b2 b3) rfl)).trans (Mod.setCell _ ⟨w.heap.size, 2, none⟩ (.slice d1 d2 d3) rfl)).alloc (.cells #[.int .i64 a0, .slice b1 b2 b3, .slice d1 d2 d3] 34)
  obtain ⟨hq2, x', hx1, hx2⟩ := unhide HQ2
  have hxe := (unhide HPX) x' hx1
  subst hxe
  have hF : ∀ k, F k → ¬ k = w.heap.size := fun k hk => by have := ((unhide HFL) k hk).2; omega
  refine bodyPost_ret (v := .tuple #[TkV.val ⟨a0, b1, b2, b3, d1, d2, d3⟩, .int .i64 i, .bool true]) (tk_ret3 (x := ⟨a0, b1, b2, b3, d1, d2, d3⟩) h4 _ rfl rfl rfl) rfl ⟨_, rfl, hq2.mod hmm hF, hx2.mod hmm hF, ?_⟩
  exact ((Mod.of_below (unhide HB)).then (unhide HM2) (fun k hk => .inl (by rw [hk]; exact unhide HCF))).then hmm (fun k hk => .inr (by omega))
end Go.Proofs.Ytdfcdgjmjionbaa
