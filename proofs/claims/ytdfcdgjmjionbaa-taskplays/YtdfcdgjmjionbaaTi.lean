/-
  Post.
-/
import Derived.Test.YtdfcdgjmjionbaaTh
import Derived.Deep.RegionHeld3
namespace Go.Proofs.Ytdfcdgjmjionbaa
open Go.RowKit Go.Lib

/-- A nil queue, and one that nobody made: ErrZero. -/
theorem post_zero (v : Option Addr) (src : Int) (x : TkV) (w : World) (h : v = none ∨ ∃ b, v = some ⟨b, 0, none⟩ ∧ w.cell? ⟨b, 0, none⟩ = some (.chan none)) : Calls Try.prog 11 #[.pointer v, .int .i64 src, x.val] w fun e w' => e = .returned (.int .i64 7) ∧ Below w.heap.size w w' := by
  have HB0 := hide (below_new w (.cells x.cells 34))
  have HM : Hid (∀ W, Below w.heap.size w W → Calls Try.prog 24 #[.pointer v] W fun e w' => e = .returned (.bool false) ∧ Below W.heap.size W w') := by
    refine hide fun W hb => ?_
    rcases h with rfl | ⟨b, rfl, hc⟩
    · exact made_nil W
    · exact made_any b none W (by rw [hb.cell (World.block_lt_of_cell? w _ hc)]; exact hc)
  clear h
  simp only [TkV.val, TkV.cells] at *
  go_enter Try.func11, Try.ntmps11
  go_wp2_with (go_at_call 24; go_must (refine (unhide HM _ (unhide HB0)).mono ?_); rintro e w1 ⟨rfl, hb⟩; have HB := hide ((unhide HB0).trans (hb.mono (unhide HB0).size)); clear hb)
  go_ret
  exact ⟨rfl, unhide HB⟩
theorem post_arg {bq c : Nat} (src : Int) (hs : src < 0 ∨ 4 ≤ src) (x : TkV) (w : World) (hq : w.cell? ⟨bq, 0, none⟩ = some (.chan (some c))) : Calls Try.prog 11 #[.pointer (some ⟨bq, 0, none⟩), .int .i64 src, x.val] w fun e w' => e = .returned (.int .i64 1) ∧ Below w.heap.size w w' := by
  have HB0 := hide (below_new w (.cells x.cells 34))
  have HM : Hid (∀ W, Below w.heap.size w W → Calls Try.prog 24 #[.pointer (some ⟨bq, 0, none⟩)] W fun e w' => e = .returned (.bool true) ∧ Below W.heap.size W w') :=
    hide fun W hb => made_any bq (some c) W (by rw [hb.cell (World.block_lt_of_cell? w _ hq)]; exact hq)
  clear hq
  simp only [TkV.val, TkV.cells] at *
  by_cases hlt : src < 0
  · clear hs
    go_enter Try.func11, Try.ntmps11
    go_wp2_with (go_at_call 24; go_must (refine (unhide HM _ (unhide HB0)).mono ?_); rintro e w1 ⟨rfl, hb⟩; have HB := hide ((unhide HB0).trans (hb.mono (unhide HB0).size)); clear hb)
    go_ret
    exact ⟨rfl, unhide HB⟩
  · have h4 : 4 ≤ src := by omega
    clear hs
    go_enter Try.func11, Try.ntmps11
    go_wp2_with (go_at_call 24; go_must (refine (unhide HM _ (unhide HB0)).mono ?_); rintro e w1 ⟨rfl, hb⟩; have HB := hide ((unhide HB0).trans (hb.mono (unhide HB0).size)); clear hb)
    go_ret
    exact ⟨rfl, unhide HB⟩

set_option maxRecDepth 10000 in
theorem post_room {w : World} {base bq : Nat} {qs : List (List Tk)} {F G : Nat → Prop} (h : QueS w base bq qs F) (hbase : base ≤ w.heap.size) (i : Nat) (l : List Tk) (hi : qs[i]? = some l) (hroom : l.length < 4096) (t : Tk) (x : TkV) (hx : TkIn w G t x) :
    Calls Try.prog 11 #[.pointer (some ⟨bq, 0, none⟩), .int .i64 i, x.val] w fun e w' => e = .returned (.int .i64 0) ∧ ∃ F', QueS w' base bq (qs.set i (l ++ [t])) F' ∧ Mod F w w' ∧ (∀ k, F' k → F k ∨ w.heap.size ≤ k) := by
  obtain ⟨cs, hcl, hnd, hbq, hls⟩ := h.lies
  have hlen := h.len
  have hil := (List.getElem?_eq_some_iff.1 hi).1
  have hi4 : (i : Int) < 4 := by omega
  have hi0 : (0 : Int) ≤ (i : Int) := by omega
  obtain ⟨c, hci⟩ : ∃ c, cs[i]? = some c := ⟨_, List.getElem?_eq_getElem (by omega)⟩
  obtain ⟨c0, hc0⟩ : ∃ c0, cs[0]? = some c0 := ⟨_, List.getElem?_eq_getElem (by omega)⟩
  have hcell : ∀ (j d : Nat), cs[j]? = some d → w.cell? ⟨bq, j, none⟩ = some (.chan (some d)) := fun j d hj => by
    rw [cell_of_row _ _ j _ _ _ hbq]; simp [hj, chanV]
  have HM : Hid (∀ W, Below w.heap.size w W → Calls Try.prog 24 #[.pointer (some ⟨bq, 0, none⟩)] W fun e w' => e = .returned (.bool true) ∧ Below W.heap.size W w') :=
    hide fun W hb => made_any bq (some c0) W (by rw [hb.cell (World.block_lt_of_cell? w _ (hcell 0 c0 hc0))]; exact hcell 0 c0 hc0)
  have HO : Hid (∀ W, Below w.heap.size w W → Calls Try.prog 26 #[x.val] W fun e w' => ∃ y : TkV, e = .returned y.val ∧ Below W.heap.size W w' ∧ TkIn w' (fun k => W.heap.size ≤ k) t y) := hide fun W hb => own_any t x W (hx.below hb)
  obtain ⟨hcF, hmo, ps, s, r, hcb, hpl, hps⟩ := hls i c l hci hi
  have HA : Hid (∀ W (y : TkV), Below w.heap.size w W → Calls Try.prog 25 #[.agg #[.chan (some c)], y.val] W fun e w' => e = .returned (.bool true) ∧ ∃ p, W.heap.size ≤ p ∧ w'.heap[p]? = some (.cells y.cells 34 (0, 0)) ∧ w'.heap[c]? = some (.chan 4096 ((ps.map ptrV).toArray.push (.pointer (some ⟨p, 0, none⟩))) false (s + 1) r false) ∧ Mod (· = c) W w') :=
    hide fun W y hb => add_room c 4096 _ s r y W ((hb.block c (lt_of_block hcb)).trans hcb) (by simp [hpl]; omega)
  have HP := hide fun (w1 w' : World) (y : TkV) (p : Nat) (hb1 : Below w.heap.size w w1) hx hp hpb hcb' hm => QueS.put (w' := w') (w1 := w1) (x := y) (p := p) (t := t) h hbase hi hroom hb1 hcl hnd hbq hls hci hcb hpl hps hx hp hpb hcb' hm
  have HCC : Hid (∀ W : World, W.heap[bq]? = some (.cells (cs.map chanV).toArray 56 (0, 0)) → W.cell? ⟨bq, i, none⟩ = some (.chan (some c))) := hide fun W hW => by
    rw [cell_of_row _ _ i _ _ _ hW]; simp [hci, chanV]
  have HNE : Hid (bq ≠ c) := hide (by rintro rfl; rw [hbq] at hcb; cases hcb)
  have HCL := hide (lt_of_block hcb)
  have HCF := hide hcF
  have HBQ := hide hbq
  have HB0 := hide (below_new w (.cells x.cells 34))
  have HX0 := hide (heap_alloc_new w (.cells x.cells 34))
  obtain ⟨a0, b1, b2, b3, d1, d2, d3⟩ := x
  simp only [TkV.val, TkV.cells] at *
  clear hcell hc0 hci hcF hmo hcb hpl hps hbq hls hnd hcl h hlen hil hx hroom hi
  go_enter Try.func11, Try.ntmps11
  go_wp2_with (go_at_call 24; go_must (refine (unhide HM _ (unhide HB0)).mono ?_); rintro e w1 ⟨rfl, hb⟩; have HB := hide ((unhide HB0).trans (hb.mono (unhide HB0).size)); have HX1 := hide ((hb.block w.heap.size (lt_of_block (unhide HX0))).trans (unhide HX0)); have HBQ1 := hide (((unhide HB).block bq (lt_of_block (unhide HBQ))).trans (unhide HBQ)); clear hb)
  have HS : Hid (∀ W', Mod (· = c) w1 W' → W'.cell? ⟨bq, i, none⟩ = some (.chan (some c)) ∧ W'.cell? ⟨w.heap.size, 0, none⟩ = some (.int .i64 a0) ∧ W'.cell? ⟨w.heap.size, 1, none⟩ = some (.slice b1 b2 b3) ∧ W'.cell? ⟨w.heap.size, 2, none⟩ = some (.slice d1 d2 d3)) := hide fun W' hm => by
    have h1 := (hm.block bq (lt_of_block (unhide HBQ1)) (unhide HNE)).trans (unhide HBQ1)
    have h2 := (hm.block w.heap.size (lt_of_block (unhide HX1)) (by have := unhide HCL; omega)).trans (unhide HX1)
    exact ⟨(unhide HCC) W' h1, (cell_of_row _ _ 0 _ _ _ h2).trans (by rfl), (cell_of_row _ _ 1 _ _ _ h2).trans (by rfl), (cell_of_row _ _ 2 _ _ _ h2).trans (by rfl)⟩
  go_region_held3 (fun W' => W'.cell? ⟨bq, i, none⟩ = some (.chan (some c)) ∧ W'.cell? ⟨w.heap.size, 0, none⟩ = some (.int .i64 a0) ∧ W'.cell? ⟨w.heap.size, 1, none⟩ = some (.slice b1 b2 b3) ∧ W'.cell? ⟨w.heap.size, 2, none⟩ = some (.slice d1 d2 d3))
    (first | exact (unhide HS) _ (unhide M3) | exact (unhide HS) _ (unhide M3).drew | exact (unhide HS) _ (unhide M2) | exact (unhide HS) _ (unhide M2).drew | exact (unhide HS) _ (Mod.refl _ _) | exact (unhide HS) _ (Mod.refl _ _).drew) (first
    | (go_at_call 26; (first | refine (unhide HO _ (unhide HB)).mono ?_ | refine (unhide HO _ (unhide HB).drew).mono ?_); rintro e w2 ⟨⟨y0, y1, y2, y3, y4, y5, y6⟩, rfl, hb, hy⟩; dsimp only; have hb2 := hb.mono (B := w1.heap.size) (Nat.le_refl _); have M2 : Hid (Mod (· = c) w1 w2) := hide (Mod.of_below (by first | exact hb2 | exact (Below.refl _ w1).drew.trans hb2)); have HB2 : Hid (Below w.heap.size w w2) := hide (by first | exact (unhide HB).trans (hb.mono (unhide HB).size) | exact (unhide HB).drew.trans (hb.mono (unhide HB).size)); have HY : Hid (TkIn w2 (fun k => w.heap.size ≤ k) t ⟨y0, y1, y2, y3, y4, y5, y6⟩) := hide (hy.mono (fun k _ hk => Nat.le_trans (unhide HB).size hk)); clear hb hb2 hy)
    | (go_at_call 25; (first | refine (unhide HA _ ⟨y0, y1, y2, y3, y4, y5, y6⟩ (unhide HB2)).mono ?_ | refine (unhide HA _ ⟨y0, y1, y2, y3, y4, y5, y6⟩ (unhide HB2).drew).mono ?_); rintro e w3 ⟨rfl, p, hp, hpb, hcb, hm⟩; dsimp only; have M3 : Hid (Mod (· = c) w1 w3) := hide (by first | exact (unhide M2).trans hm | exact (unhide M2).drew.trans hm); have HQ : Hid (QueS w3 base bq (qs.set i (l ++ [t])) (fun k => F k ∨ w.heap.size ≤ k ∧ k < w3.heap.size)) := hide ((unhide HP) w2 w3 ⟨y0, y1, y2, y3, y4, y5, y6⟩ p (unhide HB2) (unhide HY) hp hpb hcb (by first | exact hm | exact (Mod.refl _ w2).drew.trans hm)); clear hp hpb hcb hm))
  go_wp2
  go_ret
  exact ⟨rfl, _, unhide HQ, (Mod.of_below (unhide HB)).then (unhide M3) (fun k hk => .inl (by rw [hk]; exact unhide HCF)), fun k hk => hk.imp id And.left⟩
set_option maxRecDepth 10000 in
theorem post_full {w : World} {base bq : Nat} {qs : List (List Tk)} {F G : Nat → Prop} (h : QueS w base bq qs F) (i : Nat) (l : List Tk) (hi : qs[i]? = some l) (hroom : l.length = 4096) (t : Tk) (x : TkV) (hx : TkIn w G t x) :
    Calls Try.prog 11 #[.pointer (some ⟨bq, 0, none⟩), .int .i64 i, x.val] w fun e w' => e = .returned (.int .i64 9) ∧ Below w.heap.size w w' := by
  obtain ⟨cs, hcl, hnd, hbq, hls⟩ := h.lies
  have hlen := h.len
  have hil := (List.getElem?_eq_some_iff.1 hi).1
  have hi4 : (i : Int) < 4 := by omega
  have hi0 : (0 : Int) ≤ (i : Int) := by omega
  obtain ⟨c, hci⟩ : ∃ c, cs[i]? = some c := ⟨_, List.getElem?_eq_getElem (by omega)⟩
  obtain ⟨c0, hc0⟩ : ∃ c0, cs[0]? = some c0 := ⟨_, List.getElem?_eq_getElem (by omega)⟩
  have hcell : ∀ (j d : Nat), cs[j]? = some d → w.cell? ⟨bq, j, none⟩ = some (.chan (some d)) := fun j d hj => by
    rw [cell_of_row _ _ j _ _ _ hbq]; simp [hj, chanV]
  have HM : Hid (∀ W, Below w.heap.size w W → Calls Try.prog 24 #[.pointer (some ⟨bq, 0, none⟩)] W fun e w' => e = .returned (.bool true) ∧ Below W.heap.size W w') :=
    hide fun W hb => made_any bq (some c0) W (by rw [hb.cell (World.block_lt_of_cell? w _ (hcell 0 c0 hc0))]; exact hcell 0 c0 hc0)
  have HO : Hid (∀ W, Below w.heap.size w W → Calls Try.prog 26 #[x.val] W fun e w' => ∃ y : TkV, e = .returned y.val ∧ Below W.heap.size W w' ∧ TkIn w' (fun k => W.heap.size ≤ k) t y) := hide fun W hb => own_any t x W (hx.below hb)
  obtain ⟨hcF, hmo, ps, s, r, hcb, hpl, hps⟩ := hls i c l hci hi
  have HA : Hid (∀ W (y : TkV), Below w.heap.size w W → Calls Try.prog 25 #[.agg #[.chan (some c)], y.val] W fun e w' => e = .returned (.bool false) ∧ Below W.heap.size W w') :=
    hide fun W y hb => add_full c 4096 _ s r y W ((hb.block c (lt_of_block hcb)).trans hcb) (by simp [hpl]; omega)
  have HCC : Hid (∀ W : World, W.heap[bq]? = some (.cells (cs.map chanV).toArray 56 (0, 0)) → W.cell? ⟨bq, i, none⟩ = some (.chan (some c))) := hide fun W hW => by
    rw [cell_of_row _ _ i _ _ _ hW]; simp [hci, chanV]
  have HNE : Hid (bq ≠ c) := hide (by rintro rfl; rw [hbq] at hcb; cases hcb)
  have HCL := hide (lt_of_block hcb)
  have HCF := hide hcF
  have HBQ := hide hbq
  have HB0 := hide (below_new w (.cells x.cells 34))
  have HX0 := hide (heap_alloc_new w (.cells x.cells 34))
  obtain ⟨a0, b1, b2, b3, d1, d2, d3⟩ := x
  simp only [TkV.val, TkV.cells] at *
  clear hcell hc0 hci hcF hmo hcb hpl hps hbq hls hnd hcl h hlen hil hx hroom hi
  go_enter Try.func11, Try.ntmps11
  go_wp2_with (go_at_call 24; go_must (refine (unhide HM _ (unhide HB0)).mono ?_); rintro e w1 ⟨rfl, hb⟩; have HB := hide ((unhide HB0).trans (hb.mono (unhide HB0).size)); have HX1 := hide ((hb.block w.heap.size (lt_of_block (unhide HX0))).trans (unhide HX0)); have HBQ1 := hide (((unhide HB).block bq (lt_of_block (unhide HBQ))).trans (unhide HBQ)); clear hb)
  have HS : Hid (∀ W', Mod (· = c) w1 W' → W'.cell? ⟨bq, i, none⟩ = some (.chan (some c)) ∧ W'.cell? ⟨w.heap.size, 0, none⟩ = some (.int .i64 a0) ∧ W'.cell? ⟨w.heap.size, 1, none⟩ = some (.slice b1 b2 b3) ∧ W'.cell? ⟨w.heap.size, 2, none⟩ = some (.slice d1 d2 d3)) := hide fun W' hm => by
    have h1 := (hm.block bq (lt_of_block (unhide HBQ1)) (unhide HNE)).trans (unhide HBQ1)
    have h2 := (hm.block w.heap.size (lt_of_block (unhide HX1)) (by have := unhide HCL; omega)).trans (unhide HX1)
    exact ⟨(unhide HCC) W' h1, (cell_of_row _ _ 0 _ _ _ h2).trans (by rfl), (cell_of_row _ _ 1 _ _ _ h2).trans (by rfl), (cell_of_row _ _ 2 _ _ _ h2).trans (by rfl)⟩
  go_region_held3 (fun W' => W'.cell? ⟨bq, i, none⟩ = some (.chan (some c)) ∧ W'.cell? ⟨w.heap.size, 0, none⟩ = some (.int .i64 a0) ∧ W'.cell? ⟨w.heap.size, 1, none⟩ = some (.slice b1 b2 b3) ∧ W'.cell? ⟨w.heap.size, 2, none⟩ = some (.slice d1 d2 d3))
    (first | exact (unhide HS) _ (unhide M3) | exact (unhide HS) _ (unhide M3).drew | exact (unhide HS) _ (unhide M2) | exact (unhide HS) _ (unhide M2).drew | exact (unhide HS) _ (Mod.refl _ _) | exact (unhide HS) _ (Mod.refl _ _).drew) (first
    | (go_at_call 26; (first | refine (unhide HO _ (unhide HB)).mono ?_ | refine (unhide HO _ (unhide HB).drew).mono ?_); rintro e w2 ⟨⟨y0, y1, y2, y3, y4, y5, y6⟩, rfl, hb, hy⟩; dsimp only; have hb2 := hb.mono (B := w1.heap.size) (Nat.le_refl _); have M2 : Hid (Mod (· = c) w1 w2) := hide (Mod.of_below (by first | exact hb2 | exact (Below.refl _ w1).drew.trans hb2)); have HB2 : Hid (Below w.heap.size w w2) := hide (by first | exact (unhide HB).trans (hb.mono (unhide HB).size) | exact (unhide HB).drew.trans (hb.mono (unhide HB).size)); have HY : Hid (TkIn w2 (fun k => w.heap.size ≤ k) t ⟨y0, y1, y2, y3, y4, y5, y6⟩) := hide (hy.mono (fun k _ hk => Nat.le_trans (unhide HB).size hk)); clear hb hb2 hy)
    | (go_at_call 25; (first | refine (unhide HA _ ⟨y0, y1, y2, y3, y4, y5, y6⟩ (unhide HB2)).mono ?_ | refine (unhide HA _ ⟨y0, y1, y2, y3, y4, y5, y6⟩ (unhide HB2).drew).mono ?_); rintro e w3 ⟨rfl, hb⟩; have hb3 := hb.mono (B := w2.heap.size) (Nat.le_refl _); have M3 : Hid (Mod (· = c) w1 w3) := hide (by first | exact (unhide M2).trans (Mod.of_below hb3) | exact (unhide M2).drew.trans (Mod.of_below hb)); have HB3 : Hid (Below w.heap.size w w3) := hide (by first | exact (unhide HB2).trans (hb.mono (unhide HB2).size) | exact (unhide HB2).drew.trans (hb.mono (unhide HB2).size)); clear hb hb3))
  go_wp2
  go_ret
  exact ⟨rfl, unhide HB3⟩
end Go.Proofs.Ytdfcdgjmjionbaa
