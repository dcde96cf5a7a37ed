/-
  A stack while its memo grows.
-/
import Derived.Test.YtmllhebmaldgfaaQSb3
import Derived.Deep.AppendLies
import Derived.Deep.RegionHeld3
namespace Go.Proofs.Ytmllhebmaldgfaa
open Go.RowKit

theorem Try.info103 : (Try.prog.info? 103).map (fun i => (i.zero, i.size, i.bytes)) = some (some (.agg zRow), 8, 32) := by kernel_rfl

/-- What becomes of the memo, of the stack's blocks. -/
theorem StkAt.updK {w w' : World} {base bK bP bM bA : Nat} {p : PartM} {v v' : Value} {ms ms' : List (Option Cal)} (h : StkAt w base bK bP bM bA p v ms) (h1 : KnM w' base bM v' ms') (h3 : Mod (footM bM v) w w') (h4 : ∀ k, footM bM v' k → footM bM v k ∨ w.heap.size ≤ k) : StkAt w' base bK bP bM bA p v' ms' :=
  ⟨(h3.block bK h.lt h.neM).trans h.box, h.pile.mod h3 (fun k hk e => h.apart k hk e), h1, fun k hk hk2 => by
    rcases h4 k hk2 with e | e
    · exact h.apart k hk e
    · have := (h.pile.foot_lt hk).2
      omega, h.lo⟩

/-- A stack whose memo may have grown since w0. -/
structure LkS (w0 wr : World) (base bK bP bM bA : Nat) (p : PartM) (el : Int → Option Cal) (F : Nat → Prop) (v : Value) (ms : List (Option Cal)) : Prop where
  stk : StkAt wr base bK bP bM bA p v ms
  coh : Coh el ms
  mod : Mod F w0 wr
  foot : ∀ k, footS bK bP bM p v k → F k ∨ w0.heap.size ≤ k

theorem cell_kept {w W' : World} (hb : Below w.heap.size w W') {b o : Nat} {v : Value} (hv : w.cell? ⟨b, o, none⟩ = some v) : W'.cell? ⟨b, o, none⟩ = some v :=
  (hb.cell (p := ⟨b, o, none⟩) (World.block_lt_of_cell? w _ hv)).trans hv
theorem bput {b j : Nat} {w W : World} {v : Value} (h : Below w.heap.size w W) (hb : w.heap.size ≤ b) : Below w.heap.size w (W.setCell ⟨b, j, none⟩ v) := h.trans ((Mod.setCell (F := fun k => k = b) W ⟨b, j, none⟩ v rfl).below h.size (fun k e => by omega))
theorem balloc {w W : World} {o : Obj} (h : Below w.heap.size w W) : Below w.heap.size w (W.alloc o) := h.alloc h.size o
theorem bdrew {w W : World} (h : Below w.heap.size w W) : Below w.heap.size w W.drew := h.drew
theorem own_drew {W : World} {base : Nat} {t : TypeId} {n m : Nat} {v : Value} {xs : List Value} (h : W.ownsRow base t n v m xs) : W.drew.ownsRow base t n v m xs := h
theorem cell_drew {W : World} {a : Addr} {u : Value} (h : W.cell? a = some u) : W.drew.cell? a = some u := h

section
variable {w0 wr w1 : World} {base bK bP bM bA : Nat} {p : PartM} {el : Int → Option Cal} {F : Nat → Prop} {v v' : Value} {ms : List (Option Cal)}
theorem LkS.start (h : StkAt w0 base bK bP bM bA p v ms) (hc : Coh el ms) (hF : ∀ k, F k ↔ footS bK bP bM p v k) : LkS w0 w0 base bK bP bM bA p el F v ms :=
  ⟨h, hc, Mod.of_below (Below.refl _ _), fun k hk => .inl ((hF k).2 hk)⟩
theorem LkS.upd (h : LkS w0 wr base bK bP bM bA p el F v ms) : UpdS F w0 wr base bK bA el p.xs :=
  ⟨footS bK bP bM p v, ⟨bP, bM, p, v, ms, h.stk, h.coh, rfl, fun _ => Iff.rfl⟩, h.mod, h.foot⟩
theorem LkS.then (h : LkS w0 wr base bK bP bM bA p el F v ms) (hb : Below wr.heap.size wr w1) : LkS w0 w1 base bK bP bM bA p el F v ms :=
  ⟨h.stk.below hb, h.coh, h.mod.trans (Mod.of_below hb), h.foot⟩
/-- The memo becomes another one. -/
theorem LkS.step {ms' : List (Option Cal)} (h : LkS w0 wr base bK bP bM bA p el F v ms) (h1 : KnM w1 base bM v' ms') (hc : Coh el ms') (h3 : Mod (footM bM v) wr w1) (h4 : ∀ k, footM bM v' k → footM bM v k ∨ wr.heap.size ≤ k) : LkS w0 w1 base bK bP bM bA p el F v' ms' := by
  refine ⟨h.stk.updK h1 h3 h4, hc, h.mod.then h3 (fun k hk => h.foot k (.inr (.inr hk))), fun k hk => ?_⟩
  rcases hk with e | e | e
  · exact h.foot k (.inl e)
  · exact h.foot k (.inr (.inl e))
  · rcases h4 k e with e | e
    · exact h.foot k (.inr (.inr e))
    · exact .inr (Nat.le_trans h.mod.size e)
/-- A place more. -/
theorem LkS.grow {W : World} (h : LkS w0 wr base bK bP bM bA p el F v ms) (hb : Below wr.heap.size wr W) (hW : wr.heap.size + 1 = W.heap.size) (hown : w1.ownsRow base 103 8 v' (ms.length + 1) (mRow ms ++ zRow.toList)) (hgrow : W.grownBy w1 v.ownBlock) (hv : ∀ k, v'.ownBlock = some k → v.ownBlock = some k ∨ wr.heap.size + 1 ≤ k) :
    LkS w0 (w1.setCell ⟨bM, 0, none⟩ v') base bK bP bM bA p el F v' (ms ++ [none]) ∧ w1.cell? ⟨bM, 0, none⟩ = some v ∧ w1.frozen? ⟨bM, 0, none⟩ = false ∧ w1.cell? ⟨bK, 0, none⟩ = some (.pointer (some ⟨bA, 0, none⟩)) ∧ w1.cell? ⟨bK, 2, none⟩ = some (.pointer (some ⟨bM, 0, none⟩)) := by
  have h2 := h.then hb
  have hm : Mod (fun k => v.ownBlock = some k) W w1 := Mod.grown hgrow (fun k e => e)
  have hbM := (hm.block bM (lt_of_block h2.stk.memo.box) (fun e => by
    obtain ⟨cur, hc⟩ := ownsRow_block h2.stk.memo.own e
    rw [h2.stk.memo.box] at hc
    cases hc)).trans h2.stk.memo.box
  have hbK := (hm.block bK h2.stk.lt (fun e => h2.stk.neM (.inr e))).trans h2.stk.box
  obtain ⟨g1, g2, g3⟩ := h2.stk.memo.grow hown hgrow (fun k hk => (hv k hk).imp id (fun e => by omega))
  refine ⟨h2.step g1 h.coh.grow g2 g3, by simp [World.cell?, hbM], by simp [World.frozen?, hbM], by simp [World.cell?, hbK], by simp [World.cell?, hbK]⟩
/-- A place written. -/
theorem LkS.poke {g cap i : Nat} {c : Cal} (h : LkS w0 wr base bK bP bM bA p el F (.slice (some ⟨g, 0, none⟩) ms.length cap) ms) (hi : i < ms.length) (he : el (i : Int) = some c) :
    LkS w0 ((((((((wr.setCell ⟨g, i * 8, none⟩ (.int .i64 c.space)).setCell ⟨g, i * 8 + 1, none⟩ (.string c.name)).setCell ⟨g, i * 8 + 2, none⟩ (.bool (bAt c 5 0))).setCell ⟨g, i * 8 + 3, none⟩ (.bool (bAt c 5 1))).setCell ⟨g, i * 8 + 4, none⟩ (.bool (bAt c 5 2))).setCell ⟨g, i * 8 + 5, none⟩ (.bool (bAt c 5 3))).setCell ⟨g, i * 8 + 6, none⟩ (.bool (bAt c 5 4))).setCell ⟨g, i * 8 + 7, none⟩ (.bool true)) base bK bP bM bA p el F (.slice (some ⟨g, 0, none⟩) ms.length cap) (ms.set i (some c)) := by
  obtain ⟨h1, h2⟩ := h.stk.memo.poke c hi
  exact h.step h1 (h.coh.poke he) (h2.mono fun k _ e => .inr (by rw [e]; rfl)) (fun k hk => .inl hk)
/-- The cells of a place: there are eight, and they may be written. -/
theorem KnM.eight {w : World} {g cap i : Nat} (h : KnM w base bM (.slice (some ⟨g, 0, none⟩) ms.length cap) ms) (hi : i < ms.length) : ∃ e0 e1 e2 e3 e4 e5 e6 e7 : Value, w.cell? ⟨g, i * 8, none⟩ = some e0 ∧ w.cell? ⟨g, i * 8 + 1, none⟩ = some e1 ∧ w.cell? ⟨g, i * 8 + 2, none⟩ = some e2 ∧ w.cell? ⟨g, i * 8 + 3, none⟩ = some e3 ∧ w.cell? ⟨g, i * 8 + 4, none⟩ = some e4 ∧ w.cell? ⟨g, i * 8 + 5, none⟩ = some e5 ∧ w.cell? ⟨g, i * 8 + 6, none⟩ = some e6 ∧ w.cell? ⟨g, i * 8 + 7, none⟩ = some e7 ∧ ∀ k : Nat, w.frozen? ⟨g, k, none⟩ = false := by
  obtain ⟨g', cap', e, hat⟩ := h.at (List.getElem?_eq_getElem hi)
  cases e
  have hl := eCells_len ms[i]
  obtain ⟨cur, hc⟩ := ownsRow_block h.own (k := g) rfl
  have f : ∀ j, (hj : j < 8) → w.cell? ⟨g, i * 8 + j, none⟩ = some ((eCells ms[i])[j]'(by omega)) := fun j hj => (hat j hj).trans (List.getElem?_eq_getElem (by omega))
  exact ⟨_, _, _, _, _, _, _, _, f 0 (by omega), f 1 (by omega), f 2 (by omega), f 3 (by omega), f 4 (by omega), f 5 (by omega), f 6 (by omega), f 7 (by omega), fun k => by simp [World.frozen?, hc]⟩
/-- What was written is there. -/
theorem KnM.told {w : World} {g cap i : Nat} {c : Cal} (h : KnM w base bM (.slice (some ⟨g, 0, none⟩) ms.length cap) ms) (hi : ms[i]? = some (some c)) : w.cell? ⟨g, i * 8, none⟩ = some (.int .i64 c.space) ∧ w.cell? ⟨g, i * 8 + 1, none⟩ = some (.string c.name) ∧ w.cell? ⟨g, i * 8 + 2, none⟩ = some (.bool (bAt c 5 0)) ∧ w.cell? ⟨g, i * 8 + 3, none⟩ = some (.bool (bAt c 5 1)) ∧ w.cell? ⟨g, i * 8 + 4, none⟩ = some (.bool (bAt c 5 2)) ∧ w.cell? ⟨g, i * 8 + 5, none⟩ = some (.bool (bAt c 5 3)) ∧ w.cell? ⟨g, i * 8 + 6, none⟩ = some (.bool (bAt c 5 4)) ∧ w.cell? ⟨g, i * 8 + 7, none⟩ = some (.bool true) := by
  obtain ⟨g', cap', e, hat⟩ := h.at hi
  cases e
  exact ⟨hat 0 (by omega), hat 1 (by omega), hat 2 (by omega), hat 3 (by omega), hat 4 (by omega), hat 5 (by omega), hat 6 (by omega), hat 7 (by omega)⟩
/-- A block of one's own that was written last. -/
theorem UpdS.behind {w w5 w7 w8 : World} {bA : Nat} {L : List Int} (h : UpdS F w5 w7 base bK bA el L) (h5 : Below w.heap.size w w5) (hlt : w.heap.size < w5.heap.size) (hF : ∀ k, F k → k < w.heap.size) (hm : Mod (fun k => k = w.heap.size) w7 w8) : UpdS F w w8 base bK bA el L := by
  obtain ⟨F', h1, h2, h3⟩ := h
  refine ⟨F', h1.mod hm (fun k hk e => ?_), ((Mod.of_below h5).trans h2).then hm (fun k e => .inr (by omega)), fun k hk => (h3 k hk).imp id (fun e => by omega)⟩
  rcases h3 k hk with e2 | e2
  · have := hF k e2; omega
  · omega
end
end Go.Proofs.Ytmllhebmaldgfaa
