/-
  QuirkSizes: the size of letters does not matter (plain); awake; two doctypes in memory.
-/
import Derived.Test.YtnnegdcoihcanaaQe
import Derived.Deep.RegionHeld3
namespace Go.Proofs.Ytnnegdcoihcanaa
open Go.RowKit Go.Lib

theorem mode_up (k : Int) (nm da sy : ByteArray) (hs : Int) (qk : Bool) : modeM k (upS nm) (upS da) (upS sy) hs qk = modeM k nm da sy hs qk := by
  have e1 : begM (upS da) = begM da := funext fun s => beg_up da s
  have e2 : sameM (upS da) = sameM da := funext fun s => same_up da s
  unfold modeM namedM oldM begsM
  rw [e1, e2, same_up, same_up]

theorem awake_any (w : World) : Calls Try.prog 8 #[] w fun e w' => e = .returned (.bool true) ∧ Below w.heap.size w w' := by
  have HG := hide (fun W => good_any 0 ⟨#[104, 116, 109, 108]⟩ ⟨#[]⟩ ⟨#[]⟩ 1 false 0 false none 0 0 W (by decide))
  have e : goodM 0 ⟨#[104, 116, 109, 108]⟩ ⟨#[]⟩ 1 = true := by decide +kernel
  rw [e] at HG
  clear e
  go_enter Try.func8, Try.ntmps8
  go_wp2_with (go_at_call 7; refine (unhide HG _).mono ?_; rintro e w1 ⟨rfl, hb⟩)
  go_ret
  exact ⟨rfl, hb⟩

/-- A doctype, and another that parts from it in its texts alone. -/
structure Two (w0 w : World) (T U : Nat) (k : Int) (nm da sy : ByteArray) (hs : Int) (qk : Bool) (ch : Int) (se : Bool) (a : Option Addr) (len cap : Nat) (um ud us : ByteArray) : Prop where
  t : TokAt w T k nm da sy hs qk ch se a len cap
  u : TokAt w U k um ud us hs qk ch se a len cap
  ne : T ≠ U
  lt : w0.heap.size ≤ U
  bel : Below w0.heap.size w0 w
  fr : ∀ i, w.frozen? ⟨U, i, none⟩ = false
theorem frozen_below {w w' : World} {b : Nat} (hb : Below w.heap.size w w') (hlt : b < w.heap.size) (i : Nat) : w'.frozen? ⟨b, i, none⟩ = w.frozen? ⟨b, i, none⟩ := by
  unfold World.frozen?
  simp only [hb.block b hlt]
theorem Two.below {w0 w w' : World} {T U : Nat} {k : Int} {nm da sy : ByteArray} {hs : Int} {qk : Bool} {ch : Int} {se : Bool} {a : Option Addr} {len cap : Nat} {um ud us : ByteArray} (h : Two w0 w T U k nm da sy hs qk ch se a len cap um ud us) (hb : Below w.heap.size w w') : Two w0 w' T U k nm da sy hs qk ch se a len cap um ud us :=
  ⟨h.t.below hb, h.u.below hb, h.ne, h.lt, h.bel.trans (hb.mono h.bel.size), fun i => (frozen_below hb h.u.lt i).trans (h.fr i)⟩
theorem Two.drew {w0 w : World} {T U : Nat} {k : Int} {nm da sy : ByteArray} {hs : Int} {qk : Bool} {ch : Int} {se : Bool} {a : Option Addr} {len cap : Nat} {um ud us : ByteArray} (h : Two w0 w T U k nm da sy hs qk ch se a len cap um ud us) : Two w0 w.drew T U k nm da sy hs qk ch se a len cap um ud us :=
  ⟨⟨h.t.c0, h.t.c1, h.t.c2, h.t.c3, h.t.c4, h.t.c5, h.t.c6, h.t.c7, h.t.c8, h.t.lt⟩, ⟨h.u.c0, h.u.c1, h.u.c2, h.u.c3, h.u.c4, h.u.c5, h.u.c6, h.u.c7, h.u.c8, h.u.lt⟩, h.ne, h.lt, h.bel.drew, h.fr⟩
theorem two_new (w : World) (k : Int) (nm da sy : ByteArray) (hs : Int) (qk : Bool) (ch : Int) (se : Bool) (a : Option Addr) (len cap : Nat) : Two w ((w.alloc (.cells #[.int .i64 k, .string nm, .string da, .string sy, .int .i64 hs, .bool qk, .int .i32 ch, .bool se, .slice a len cap] 24)).alloc (.cells #[.int .i64 k, .string nm, .string da, .string sy, .int .i64 hs, .bool qk, .int .i32 ch, .bool se, .slice a len cap] 24)) w.heap.size (w.heap.size + 1) k nm da sy hs qk ch se a len cap nm da sy := by
  have e : w.heap.size + 1 = (w.alloc (Obj.cells #[.int .i64 k, .string nm, .string da, .string sy, .int .i64 hs, .bool qk, .int .i32 ch, .bool se, .slice a len cap] 24)).heap.size := by simp
  refine ⟨(tok_new k nm da sy hs qk ch se a len cap w).below (below_new _ _), ?_, by omega, by omega, (below_new w _).alloc (by simp) _, fun i => ?_⟩
  · rw [e]
    exact tok_new k nm da sy hs qk ch se a len cap _
  · rw [e]
    unfold World.frozen?
    simp only [heap_alloc_new]
    simp

theorem Two.set1 {w0 w : World} {T U : Nat} {k : Int} {nm da sy : ByteArray} {hs : Int} {qk : Bool} {ch : Int} {se : Bool} {a : Option Addr} {len cap : Nat} {um ud us : ByteArray} (h : Two w0 w T U k nm da sy hs qk ch se a len cap um ud us) (x : ByteArray) : Two w0 (w.setCell ⟨U, 1, none⟩ (.string x)) T U k nm da sy hs qk ch se a len cap x ud us :=
  ⟨⟨(World.cell?_setCell_other _ _ _ _ (by intro e; injection e with e1; exact h.ne e1.symm)).trans h.t.c0, (World.cell?_setCell_other _ _ _ _ (by intro e; injection e with e1; exact h.ne e1.symm)).trans h.t.c1, (World.cell?_setCell_other _ _ _ _ (by intro e; injection e with e1; exact h.ne e1.symm)).trans h.t.c2, (World.cell?_setCell_other _ _ _ _ (by intro e; injection e with e1; exact h.ne e1.symm)).trans h.t.c3, (World.cell?_setCell_other _ _ _ _ (by intro e; injection e with e1; exact h.ne e1.symm)).trans h.t.c4, (World.cell?_setCell_other _ _ _ _ (by intro e; injection e with e1; exact h.ne e1.symm)).trans h.t.c5, (World.cell?_setCell_other _ _ _ _ (by intro e; injection e with e1; exact h.ne e1.symm)).trans h.t.c6, (World.cell?_setCell_other _ _ _ _ (by intro e; injection e with e1; exact h.ne e1.symm)).trans h.t.c7, (World.cell?_setCell_other _ _ _ _ (by intro e; injection e with e1; exact h.ne e1.symm)).trans h.t.c8, by simpa using h.t.lt⟩, ⟨(World.cell?_setCell_other _ _ _ _ (by intro e; cases e)).trans h.u.c0, World.cell?_setCell_same' _ _ _ (by rw [h.u.c1]; rfl), (World.cell?_setCell_other _ _ _ _ (by intro e; cases e)).trans h.u.c2, (World.cell?_setCell_other _ _ _ _ (by intro e; cases e)).trans h.u.c3, (World.cell?_setCell_other _ _ _ _ (by intro e; cases e)).trans h.u.c4, (World.cell?_setCell_other _ _ _ _ (by intro e; cases e)).trans h.u.c5, (World.cell?_setCell_other _ _ _ _ (by intro e; cases e)).trans h.u.c6, (World.cell?_setCell_other _ _ _ _ (by intro e; cases e)).trans h.u.c7, (World.cell?_setCell_other _ _ _ _ (by intro e; cases e)).trans h.u.c8, by simpa using h.u.lt⟩, h.ne, h.lt, h.bel.setCell (p := ⟨U, 1, none⟩) h.lt _, fun i => (World.frozen?_setCell _ _ _ _).trans (h.fr i)⟩

theorem Two.set2 {w0 w : World} {T U : Nat} {k : Int} {nm da sy : ByteArray} {hs : Int} {qk : Bool} {ch : Int} {se : Bool} {a : Option Addr} {len cap : Nat} {um ud us : ByteArray} (h : Two w0 w T U k nm da sy hs qk ch se a len cap um ud us) (x : ByteArray) : Two w0 (w.setCell ⟨U, 2, none⟩ (.string x)) T U k nm da sy hs qk ch se a len cap um x us :=
  ⟨⟨(World.cell?_setCell_other _ _ _ _ (by intro e; injection e with e1; exact h.ne e1.symm)).trans h.t.c0, (World.cell?_setCell_other _ _ _ _ (by intro e; injection e with e1; exact h.ne e1.symm)).trans h.t.c1, (World.cell?_setCell_other _ _ _ _ (by intro e; injection e with e1; exact h.ne e1.symm)).trans h.t.c2, (World.cell?_setCell_other _ _ _ _ (by intro e; injection e with e1; exact h.ne e1.symm)).trans h.t.c3, (World.cell?_setCell_other _ _ _ _ (by intro e; injection e with e1; exact h.ne e1.symm)).trans h.t.c4, (World.cell?_setCell_other _ _ _ _ (by intro e; injection e with e1; exact h.ne e1.symm)).trans h.t.c5, (World.cell?_setCell_other _ _ _ _ (by intro e; injection e with e1; exact h.ne e1.symm)).trans h.t.c6, (World.cell?_setCell_other _ _ _ _ (by intro e; injection e with e1; exact h.ne e1.symm)).trans h.t.c7, (World.cell?_setCell_other _ _ _ _ (by intro e; injection e with e1; exact h.ne e1.symm)).trans h.t.c8, by simpa using h.t.lt⟩, ⟨(World.cell?_setCell_other _ _ _ _ (by intro e; cases e)).trans h.u.c0, (World.cell?_setCell_other _ _ _ _ (by intro e; cases e)).trans h.u.c1, World.cell?_setCell_same' _ _ _ (by rw [h.u.c2]; rfl), (World.cell?_setCell_other _ _ _ _ (by intro e; cases e)).trans h.u.c3, (World.cell?_setCell_other _ _ _ _ (by intro e; cases e)).trans h.u.c4, (World.cell?_setCell_other _ _ _ _ (by intro e; cases e)).trans h.u.c5, (World.cell?_setCell_other _ _ _ _ (by intro e; cases e)).trans h.u.c6, (World.cell?_setCell_other _ _ _ _ (by intro e; cases e)).trans h.u.c7, (World.cell?_setCell_other _ _ _ _ (by intro e; cases e)).trans h.u.c8, by simpa using h.u.lt⟩, h.ne, h.lt, h.bel.setCell (p := ⟨U, 2, none⟩) h.lt _, fun i => (World.frozen?_setCell _ _ _ _).trans (h.fr i)⟩

theorem Two.set3 {w0 w : World} {T U : Nat} {k : Int} {nm da sy : ByteArray} {hs : Int} {qk : Bool} {ch : Int} {se : Bool} {a : Option Addr} {len cap : Nat} {um ud us : ByteArray} (h : Two w0 w T U k nm da sy hs qk ch se a len cap um ud us) (x : ByteArray) : Two w0 (w.setCell ⟨U, 3, none⟩ (.string x)) T U k nm da sy hs qk ch se a len cap um ud x :=
  ⟨⟨(World.cell?_setCell_other _ _ _ _ (by intro e; injection e with e1; exact h.ne e1.symm)).trans h.t.c0, (World.cell?_setCell_other _ _ _ _ (by intro e; injection e with e1; exact h.ne e1.symm)).trans h.t.c1, (World.cell?_setCell_other _ _ _ _ (by intro e; injection e with e1; exact h.ne e1.symm)).trans h.t.c2, (World.cell?_setCell_other _ _ _ _ (by intro e; injection e with e1; exact h.ne e1.symm)).trans h.t.c3, (World.cell?_setCell_other _ _ _ _ (by intro e; injection e with e1; exact h.ne e1.symm)).trans h.t.c4, (World.cell?_setCell_other _ _ _ _ (by intro e; injection e with e1; exact h.ne e1.symm)).trans h.t.c5, (World.cell?_setCell_other _ _ _ _ (by intro e; injection e with e1; exact h.ne e1.symm)).trans h.t.c6, (World.cell?_setCell_other _ _ _ _ (by intro e; injection e with e1; exact h.ne e1.symm)).trans h.t.c7, (World.cell?_setCell_other _ _ _ _ (by intro e; injection e with e1; exact h.ne e1.symm)).trans h.t.c8, by simpa using h.t.lt⟩, ⟨(World.cell?_setCell_other _ _ _ _ (by intro e; cases e)).trans h.u.c0, (World.cell?_setCell_other _ _ _ _ (by intro e; cases e)).trans h.u.c1, (World.cell?_setCell_other _ _ _ _ (by intro e; cases e)).trans h.u.c2, World.cell?_setCell_same' _ _ _ (by rw [h.u.c3]; rfl), (World.cell?_setCell_other _ _ _ _ (by intro e; cases e)).trans h.u.c4, (World.cell?_setCell_other _ _ _ _ (by intro e; cases e)).trans h.u.c5, (World.cell?_setCell_other _ _ _ _ (by intro e; cases e)).trans h.u.c6, (World.cell?_setCell_other _ _ _ _ (by intro e; cases e)).trans h.u.c7, (World.cell?_setCell_other _ _ _ _ (by intro e; cases e)).trans h.u.c8, by simpa using h.u.lt⟩, h.ne, h.lt, h.bel.setCell (p := ⟨U, 3, none⟩) h.lt _, fun i => (World.frozen?_setCell _ _ _ _).trans (h.fr i)⟩
end Go.Proofs.Ytnnegdcoihcanaa
