/-
  Both arenas side by side: what a call to each leaves; the law's made and play at every call; NodeAbove's walk.
-/
import Derived.Test.YtlbkoafeedlfaaaSBau
import Derived.Test.YtlbkoafeedlfaaaSBaw
import Derived.Deep.RegionHeld3
import Derived.Test.YtlbkoafeedlfaaaSBax
import Derived.Deep.LoopGhost
namespace Go.Proofs.Ytlbkoafeedlfaaa
open Go.RowKit

/-- Both arenas hold the nodes os, in blocks of their own that are newer than w0. -/
structure Pair (w0 w : World) (bA bR : Nat) (os osR : List OneM) (ns : List NodeM) (F G : Nat → Prop) : Prop where
  ar : ArS w w0.heap.size bA ns F
  sim : Sim ns os
  rf : RfS w w0.heap.size bR osR G
  below : Below w0.heap.size w0 w
  newF : ∀ k, F k → w0.heap.size ≤ k
  newG : ∀ k, G k → w0.heap.size ≤ k
  apart : ∀ k, F k → ¬ G k

def Both (w0 w : World) (bA bR : Nat) (os : List OneM) : Prop := ∃ ns F G, Pair w0 w bA bR os os ns F G

section
variable {w0 w W w1 w2 : World} {bA bR : Nat} {os osR os1 : List OneM} {ns : List NodeM} {F G : Nat → Prop}

theorem Pair.more (h : Pair w0 w bA bR os osR ns F G) (hW : Below w.heap.size w W) : Pair w0 W bA bR os osR ns F G :=
  ⟨h.ar.below hW, h.sim, h.rf.below hW, h.below.trans (hW.mono h.below.size), h.newF, h.newG, h.apart⟩

/-- Behind a call to the program's arena. -/
theorem Pair.prog (h : Pair w0 w bA bR os osR ns F G) (hW : Below w.heap.size w W) (hu : USim F W w1 w0.heap.size bA os1) :
    ∃ ns1 F1, Pair w0 w1 bA bR os1 osR ns1 F1 G ∧ ∀ k j, w.heap.size ≤ k → k < W.heap.size → w1.cell? ⟨k, j, none⟩ = W.cell? ⟨k, j, none⟩ := by
  obtain ⟨ms, ⟨F1, ha1, hm, hF1⟩, hs1⟩ := hu
  have hp := h.more hW
  refine ⟨ms, F1, ⟨ha1, hs1, hp.rf.mod hm (fun k hg hf => h.apart k hf hg), ?_, ?_, h.newG, ?_⟩, ?_⟩
  · exact hp.below.trans (hm.below hp.below.size h.newF)
  · intro k hk
    rcases hF1 k hk with e | e
    · exact h.newF k e
    · exact Nat.le_trans hp.below.size e
  · intro k hk hg
    rcases hF1 k hk with e | e
    · exact h.apart k e hg
    · have := (hp.rf.lt hg).2; omega
  · intro k j h1 h2
    exact World.cell?_of_block (w := W) (hm.block k h2 (fun hf => by have := (h.ar.lt hf).2; omega))

/-- Behind a call to the document's arena. -/
theorem Pair.ref (h : Pair w0 w1 bA bR os osR ns F G) (hu : URf G w1 w2 w0.heap.size bR os) : Both w0 w2 bA bR os ∧ ∀ k j, k < w1.heap.size → ¬ G k → w2.cell? ⟨k, j, none⟩ = w1.cell? ⟨k, j, none⟩ := by
  obtain ⟨G2, hS2, hm, hG2⟩ := hu
  refine ⟨⟨ns, F, G2, h.ar.mod hm (fun k hf hg => h.apart k hf hg), h.sim, hS2, ?_, h.newF, ?_, ?_⟩, ?_⟩
  · exact h.below.trans (hm.below h.below.size h.newG)
  · intro k hk
    rcases hG2 k hk with e | e
    · exact h.newG k e
    · exact Nat.le_trans h.below.size e
  · intro k hf hg
    rcases hG2 k hg with e | e
    · exact h.apart k hf e
    · have := (h.ar.lt hf).2; omega
  · intro k j h1 h2
    exact World.cell?_of_block (w := w1) (hm.block k h1 h2)

/-- A call of a script. -/
structure OpM where
  what : Int
  a : Int
  b : Int
  c : Int
  n : Int
  text : ByteArray
  more : ByteArray
  x : AttrM
  la : Option Addr
  cap : Nat
  l : List AttrM

def OpM.cells (o : OpM) : Array Value := #[.int .i64 o.what, .int .i64 o.a, .int .i64 o.b, .int .i64 o.c, .int .i64 o.n, .string o.text, .string o.more, .int .i64 o.x.space, .string o.x.pre, .string o.x.name, .string o.x.val, .slice o.la o.l.length o.cap]

/-- The box of a call's argument, all but its first cell, holds o. -/
def OpAt (o : OpM) (k : Nat) (w : World) : Prop :=
  w.cell? ⟨k, 1, none⟩ = some (.int .i64 o.a) ∧ w.cell? ⟨k, 2, none⟩ = some (.int .i64 o.b) ∧ w.cell? ⟨k, 3, none⟩ = some (.int .i64 o.c) ∧ w.cell? ⟨k, 4, none⟩ = some (.int .i64 o.n) ∧ w.cell? ⟨k, 5, none⟩ = some (.string o.text) ∧ w.cell? ⟨k, 6, none⟩ = some (.string o.more) ∧
  w.cell? ⟨k, 7, none⟩ = some (.int .i64 o.x.space) ∧ w.cell? ⟨k, 8, none⟩ = some (.string o.x.pre) ∧ w.cell? ⟨k, 9, none⟩ = some (.string o.x.name) ∧ w.cell? ⟨k, 10, none⟩ = some (.string o.x.val) ∧ w.cell? ⟨k, 11, none⟩ = some (.slice o.la o.l.length o.cap)

theorem OpAt.a1 {o : OpM} {k : Nat} (h : OpAt o k w) : w.cell? ⟨k, 1, none⟩ = some (.int .i64 o.a) := h.1
theorem OpAt.a5 {o : OpM} {k : Nat} (h : OpAt o k w) : w.cell? ⟨k, 1, none⟩ = some (.int .i64 o.a) ∧ w.cell? ⟨k, 5, none⟩ = some (.string o.text) := ⟨h.1, h.2.2.2.2.1⟩
theorem OpAt.a45 {o : OpM} {k : Nat} (h : OpAt o k w) : w.cell? ⟨k, 1, none⟩ = some (.int .i64 o.a) ∧ w.cell? ⟨k, 4, none⟩ = some (.int .i64 o.n) ∧ w.cell? ⟨k, 5, none⟩ = some (.string o.text) := ⟨h.1, h.2.2.2.1, h.2.2.2.2.1⟩
theorem OpAt.ax {o : OpM} {k : Nat} (h : OpAt o k w) : w.cell? ⟨k, 1, none⟩ = some (.int .i64 o.a) ∧ w.cell? ⟨k, 7, none⟩ = some (.int .i64 o.x.space) ∧ w.cell? ⟨k, 8, none⟩ = some (.string o.x.pre) ∧ w.cell? ⟨k, 9, none⟩ = some (.string o.x.name) ∧ w.cell? ⟨k, 10, none⟩ = some (.string o.x.val) := ⟨h.1, h.2.2.2.2.2.2.1, h.2.2.2.2.2.2.2.1, h.2.2.2.2.2.2.2.2.1, h.2.2.2.2.2.2.2.2.2.1⟩
theorem OpAt.e {o : OpM} {k : Nat} (h : OpAt o k w) : w.cell? ⟨k, 4, none⟩ = some (.int .i64 o.n) ∧ w.cell? ⟨k, 5, none⟩ = some (.string o.text) ∧ w.cell? ⟨k, 11, none⟩ = some (.slice o.la o.l.length o.cap) := ⟨h.2.2.2.1, h.2.2.2.2.1, h.2.2.2.2.2.2.2.2.2.2⟩
theorem OpAt.t {o : OpM} {k : Nat} (h : OpAt o k w) : w.cell? ⟨k, 5, none⟩ = some (.string o.text) ∧ w.cell? ⟨k, 6, none⟩ = some (.string o.more) := ⟨h.2.2.2.2.1, h.2.2.2.2.2.1⟩
theorem OpAt.abc {o : OpM} {k : Nat} (h : OpAt o k w) : w.cell? ⟨k, 1, none⟩ = some (.int .i64 o.a) ∧ w.cell? ⟨k, 2, none⟩ = some (.int .i64 o.b) ∧ w.cell? ⟨k, 3, none⟩ = some (.int .i64 o.c) := ⟨h.1, h.2.1, h.2.2.1⟩

theorem OpAt.of {o : OpM} {k : Nat} (h : OpAt o k w) (he : ∀ j, w1.cell? ⟨k, j, none⟩ = w.cell? ⟨k, j, none⟩) : OpAt o k w1 := by
  unfold OpAt at h ⊢
  simp only [he]
  exact h

theorem opAt_box (o : OpM) (v0 : Value) : OpAt o w.heap.size (w.alloc (.cells #[v0, .int .i64 o.a, .int .i64 o.b, .int .i64 o.c, .int .i64 o.n, .string o.text, .string o.more, .int .i64 o.x.space, .string o.x.pre, .string o.x.name, .string o.x.val, .slice o.la o.l.length o.cap] 32)).drew := by
  unfold OpAt
  refine ⟨?_, ?_, ?_, ?_, ?_, ?_, ?_, ?_, ?_, ?_, ?_⟩
  all_goals simp

/-- Behind a call to the program's arena, in the frame of a call that has boxed o. -/
theorem Pair.prog' (h : Pair w0 w bA bR os osR ns F G) (o : OpM) (hB : Below w.heap.size w W) (hlt : w.heap.size < W.heap.size) (hw : OpAt o w.heap.size W) (hu : USim F W w1 w0.heap.size bA os1) :
    OpAt o w.heap.size w1 ∧ ∃ ns1 F1, Pair w0 w1 bA bR os1 osR ns1 F1 G ∧ (∀ k, G k → k < w.heap.size) ∧ w.heap.size < w1.heap.size := by
  have hsz : W.heap.size ≤ w1.heap.size := by obtain ⟨_, ⟨_, _, hm, _⟩, _⟩ := hu; exact hm.size
  obtain ⟨ns1, F1, hp1, hc⟩ := h.prog hB hu
  exact ⟨hw.of fun j => hc _ j (Nat.le_refl _) hlt, ns1, F1, hp1, fun k hk => (h.rf.lt hk).2, by omega⟩

theorem Pair.ref' (h : Pair w0 w1 bA bR os osR ns F G) (o : OpM) {n : Nat} (hw : OpAt o n w1) (hG : ∀ k, G k → k < n) (hn : n < w1.heap.size) (hu : URf G w1 w2 w0.heap.size bR os) : OpAt o n w2 ∧ Both w0 w2 bA bR os := by
  obtain ⟨hb, hc⟩ := h.ref hu
  exact ⟨hw.of fun j => hc _ j hn (fun hg => by have := hG _ hg; omega), hb⟩
end
end Go.Proofs.Ytlbkoafeedlfaaa

namespace Go.Proofs.Ytlbkoafeedlfaaa
open Go.RowKit
section
variable {w0 w W w1 w2 : World} {bA bR : Nat} {os osR os1 : List OneM} {ns : List NodeM} {F G : Nat → Prop}

set_option maxHeartbeats 1000000 in
theorem play_link (h : Both w0 w bA bR os) (o : OpM) (hw : o.what = 5) :
    Calls Try.prog 15 #[.pointer (some ⟨bA, 0, none⟩), .pointer (some ⟨bR, 0, none⟩), .agg o.cells] w fun e w' => e = .returned (.bool true) ∧ ∃ os', Both w0 w' bA bR os' := by
  obtain ⟨ns, F, G, hp⟩ := h
  have hW : ∀ ob, Below w.heap.size w (w.alloc ob).drew := fun ob => ((Below.refl _ w).alloc (Nat.le_refl _) ob).drew
  have H1 := hide (fun ob => link_sim (hp.more (hW ob)).ar hp.sim o.a o.b o.c)
  have HP := hide hp
  have HSIM := hide hp.sim
  have HW := hide hW
  clear hp hW
  unfold OpM.cells
  rw [hw]
  have HB := hide (opAt_box (w := w) o (.int .i64 5))
  go_enter Try.func15, Try.ntmps15
  go_wp2_with fail
  go_region_held3 (fun w' => w'.cell? ⟨w.heap.size, 1, none⟩ = some (.int .i64 o.a) ∧ w'.cell? ⟨w.heap.size, 2, none⟩ = some (.int .i64 o.b) ∧ w'.cell? ⟨w.heap.size, 3, none⟩ = some (.int .i64 o.c)) (first | exact OpAt.abc (unhide HB) | exact OpAt.abc (unhide HY1) | exact OpAt.abc (unhide HY2)) (first
    | (go_at_call 35; refine ((unhide H1) _).mono ?_; rintro e w1 ⟨rfl, hu⟩; obtain ⟨Y1, ns1, F1, hp1, hG1, hn1⟩ := (unhide HP).prog' o (unhide HW _) (by simp) (unhide HB) hu; have HY1 := hide Y1; have H2 := hide (refLink_sim hp1.rf (unhide HSIM) o.a o.b o.c); have HP1 := hide hp1; clear hu hp1)
    | (go_at_call 38; refine (unhide H2).mono ?_; rintro e w2 ⟨rfl, hu2⟩; obtain ⟨Y2, hB2⟩ := (unhide HP1).ref' o (unhide HY1) hG1 hn1 hu2; have HY2 := hide Y2; have HB2 := hide hB2; clear hu2 hB2 Y2))
  all_goals go_wp2
  all_goals go_ret
  all_goals exact ⟨rfl, _, unhide HB2⟩

set_option maxHeartbeats 1000000 in
theorem play_unlink (h : Both w0 w bA bR os) (o : OpM) (hw : o.what = 6) :
    Calls Try.prog 15 #[.pointer (some ⟨bA, 0, none⟩), .pointer (some ⟨bR, 0, none⟩), .agg o.cells] w fun e w' => e = .returned (.bool true) ∧ ∃ os', Both w0 w' bA bR os' := by
  obtain ⟨ns, F, G, hp⟩ := h
  have hW : ∀ ob, Below w.heap.size w (w.alloc ob).drew := fun ob => ((Below.refl _ w).alloc (Nat.le_refl _) ob).drew
  have H1 := hide (fun ob => unlink_sim (hp.more (hW ob)).ar hp.sim o.a)
  have HP := hide hp
  have HSIM := hide hp.sim
  have HW := hide hW
  clear hp hW
  unfold OpM.cells
  rw [hw]
  have HB := hide (opAt_box (w := w) o (.int .i64 6))
  go_enter Try.func15, Try.ntmps15
  go_wp2_with fail
  go_region_held3 (fun w' => w'.cell? ⟨w.heap.size, 1, none⟩ = some (.int .i64 o.a)) (first | exact OpAt.a1 (unhide HB) | exact OpAt.a1 (unhide HY1) | exact OpAt.a1 (unhide HY2)) (first
    | (go_at_call 39; refine ((unhide H1) _).mono ?_; rintro e w1 ⟨rfl, hu⟩; obtain ⟨Y1, ns1, F1, hp1, hG1, hn1⟩ := (unhide HP).prog' o (unhide HW _) (by simp) (unhide HB) hu; have HY1 := hide Y1; have H2 := hide (refUnlink_sim hp1.rf (unhide HSIM) o.a); have HP1 := hide hp1; clear hu hp1)
    | (go_at_call 40; refine (unhide H2).mono ?_; rintro e w2 ⟨rfl, hu2⟩; obtain ⟨Y2, hB2⟩ := (unhide HP1).ref' o (unhide HY1) hG1 hn1 hu2; have HY2 := hide Y2; have HB2 := hide hB2; clear hu2 hB2 Y2))
  all_goals go_wp2
  all_goals go_ret
  all_goals exact ⟨rfl, _, unhide HB2⟩

set_option maxHeartbeats 1000000 in
theorem play_data (h : Both w0 w bA bR os) (o : OpM) (hw : o.what = 7) :
    Calls Try.prog 15 #[.pointer (some ⟨bA, 0, none⟩), .pointer (some ⟨bR, 0, none⟩), .agg o.cells] w fun e w' => e = .returned (.bool true) ∧ ∃ os', Both w0 w' bA bR os' := by
  obtain ⟨ns, F, G, hp⟩ := h
  have hW : ∀ ob, Below w.heap.size w (w.alloc ob).drew := fun ob => ((Below.refl _ w).alloc (Nat.le_refl _) ob).drew
  have H1 := hide (fun ob => setData_sim (hp.more (hW ob)).ar hp.sim o.a o.text)
  have HP := hide hp
  have HSIM := hide hp.sim
  have HW := hide hW
  clear hp hW
  unfold OpM.cells
  rw [hw]
  have HB := hide (opAt_box (w := w) o (.int .i64 7))
  go_enter Try.func15, Try.ntmps15
  go_wp2_with fail
  go_region_held3 (fun w' => w'.cell? ⟨w.heap.size, 1, none⟩ = some (.int .i64 o.a) ∧ w'.cell? ⟨w.heap.size, 5, none⟩ = some (.string o.text)) (first | exact OpAt.a5 (unhide HB) | exact OpAt.a5 (unhide HY1) | exact OpAt.a5 (unhide HY2)) (first
    | (go_at_call 41; refine ((unhide H1) _).mono ?_; rintro e w1 ⟨rfl, hu⟩; obtain ⟨Y1, ns1, F1, hp1, hG1, hn1⟩ := (unhide HP).prog' o (unhide HW _) (by simp) (unhide HB) hu; have HY1 := hide Y1; have H2 := hide (refSetData_sim hp1.rf o.a o.text); have HP1 := hide hp1; clear hu hp1)
    | (go_at_call 42; refine (unhide H2).mono ?_; rintro e w2 ⟨rfl, hu2⟩; obtain ⟨Y2, hB2⟩ := (unhide HP1).ref' o (unhide HY1) hG1 hn1 hu2; have HY2 := hide Y2; have HB2 := hide hB2; clear hu2 hB2 Y2))
  all_goals go_wp2
  all_goals go_ret
  all_goals exact ⟨rfl, _, unhide HB2⟩

set_option maxHeartbeats 1000000 in
theorem play_attr (h : Both w0 w bA bR os) (o : OpM) (hw : o.what = 8) :
    Calls Try.prog 15 #[.pointer (some ⟨bA, 0, none⟩), .pointer (some ⟨bR, 0, none⟩), .agg o.cells] w fun e w' => e = .returned (.bool true) ∧ ∃ os', Both w0 w' bA bR os' := by
  obtain ⟨ns, F, G, hp⟩ := h
  have hW : ∀ ob, Below w.heap.size w (w.alloc ob).drew := fun ob => ((Below.refl _ w).alloc (Nat.le_refl _) ob).drew
  have H1 := hide (fun ob => setAttr_sim (hp.more (hW ob)).ar hp.sim o.a o.x)
  have HP := hide hp
  have HSIM := hide hp.sim
  have HW := hide hW
  clear hp hW
  unfold OpM.cells
  rw [hw]
  have HB := hide (opAt_box (w := w) o (.int .i64 8))
  go_enter Try.func15, Try.ntmps15
  go_wp2_with fail
  go_region_held3 (fun w' => w'.cell? ⟨w.heap.size, 1, none⟩ = some (.int .i64 o.a) ∧ w'.cell? ⟨w.heap.size, 7, none⟩ = some (.int .i64 o.x.space) ∧ w'.cell? ⟨w.heap.size, 8, none⟩ = some (.string o.x.pre) ∧ w'.cell? ⟨w.heap.size, 9, none⟩ = some (.string o.x.name) ∧ w'.cell? ⟨w.heap.size, 10, none⟩ = some (.string o.x.val)) (first | exact OpAt.ax (unhide HB) | exact OpAt.ax (unhide HY1) | exact OpAt.ax (unhide HY2)) (first
    | (go_at_call 43; refine ((unhide H1) _).mono ?_; rintro e w1 ⟨rfl, hu⟩; obtain ⟨Y1, ns1, F1, hp1, hG1, hn1⟩ := (unhide HP).prog' o (unhide HW _) (by simp) (unhide HB) hu; have HY1 := hide Y1; have H2 := hide (refSetAttr_sim hp1.rf o.a o.x); have HP1 := hide hp1; clear hu hp1)
    | (go_at_call 44; refine (unhide H2).mono ?_; rintro e w2 ⟨rfl, hu2⟩; obtain ⟨Y2, hB2⟩ := (unhide HP1).ref' o (unhide HY1) hG1 hn1 hu2; have HY2 := hide Y2; have HB2 := hide hB2; clear hu2 hB2 Y2))
  all_goals go_wp2
  all_goals go_ret
  all_goals exact ⟨rfl, _, unhide HB2⟩

set_option maxHeartbeats 1000000 in
theorem play_del (h : Both w0 w bA bR os) (o : OpM) (h0 : ¬ o.what = 0) (h1 : ¬ o.what = 1) (h2 : ¬ o.what = 2) (h3 : ¬ o.what = 3) (h4 : ¬ o.what = 4) (h5 : ¬ o.what = 5) (h6 : ¬ o.what = 6) (h7 : ¬ o.what = 7) (h8 : ¬ o.what = 8) :
    Calls Try.prog 15 #[.pointer (some ⟨bA, 0, none⟩), .pointer (some ⟨bR, 0, none⟩), .agg o.cells] w fun e w' => e = .returned (.bool true) ∧ ∃ os', Both w0 w' bA bR os' := by
  obtain ⟨ns, F, G, hp⟩ := h
  have hW : ∀ ob, Below w.heap.size w (w.alloc ob).drew := fun ob => ((Below.refl _ w).alloc (Nat.le_refl _) ob).drew
  have H1 := hide (fun ob => delAttr_sim (hp.more (hW ob)).ar hp.sim o.a o.n o.text)
  have HP := hide hp
  have HSIM := hide hp.sim
  have HW := hide hW
  clear hp hW
  unfold OpM.cells
  have HB := hide (opAt_box (w := w) o (.int .i64 o.what))
  go_enter Try.func15, Try.ntmps15
  go_wp2_with fail
  go_region_held3 (fun w' => w'.cell? ⟨w.heap.size, 1, none⟩ = some (.int .i64 o.a) ∧ w'.cell? ⟨w.heap.size, 4, none⟩ = some (.int .i64 o.n) ∧ w'.cell? ⟨w.heap.size, 5, none⟩ = some (.string o.text)) (first | exact OpAt.a45 (unhide HB) | exact OpAt.a45 (unhide HY1) | exact OpAt.a45 (unhide HY2)) (first
    | (go_at_call 45; refine ((unhide H1) _).mono ?_; rintro e w1 ⟨rfl, hu⟩; obtain ⟨Y1, ns1, F1, hp1, hG1, hn1⟩ := (unhide HP).prog' o (unhide HW _) (by simp) (unhide HB) hu; have HY1 := hide Y1; have H2 := hide (refDelAttr_sim hp1.rf o.a o.n o.text); have HP1 := hide hp1; clear hu hp1)
    | (go_at_call 46; refine (unhide H2).mono ?_; rintro e w2 ⟨rfl, hu2⟩; obtain ⟨Y2, hB2⟩ := (unhide HP1).ref' o (unhide HY1) hG1 hn1 hu2; have HY2 := hide Y2; have HB2 := hide hB2; clear hu2 hB2 Y2))
  all_goals go_wp2
  all_goals go_ret
  all_goals exact ⟨rfl, _, unhide HB2⟩
end
end Go.Proofs.Ytlbkoafeedlfaaa

namespace Go.Proofs.Ytlbkoafeedlfaaa
open Go.RowKit
section
variable {w0 w W w1 w2 : World} {bA bR base : Nat} {os osR os1 : List OneM} {ns : List NodeM} {F G : Nat → Prop}

theorem refElement_sim (hS : RfS w base bR os G) (space : Int) (name : ByteArray) (a : Option Addr) (cap : Nat) (l : List AttrM) (hl : AttrsIn w a l) (hn : l.length ≤ maxLen) :
    Calls Try.prog 65 #[.pointer (some ⟨bR, 0, none⟩), .int .i64 space, .string name, .slice a l.length cap] w fun e w' => e = .returned (.tuple #[.int .i64 (elemO os space name l).2.1, .int .i64 (elemO os space name l).2.2]) ∧ URf G w w' base bR (elemO os space name l).1 := by
  by_cases h1 : space < 0 ∨ 2 < space
  · have e1 : elemO os space name l = (os, 0, 1) := by rw [elemO, if_pos h1]
    rw [e1]
    exact (refElement_space space name _ h1).mono fun e w' ⟨h1, h2⟩ => ⟨h1, hS.upd (h2 ▸ Below.refl _ _)⟩
  · have h1' : 0 ≤ space ∧ space ≤ 2 := by omega
    by_cases h2 : 1024 < l.length ∨ longS name = true
    · have hL : longE name l = true := by
        unfold longE
        rcases h2 with h2 | h2
        · simp [h2]
        · simp [h2]
      have e1 : elemO os space name l = (os, 0, 2) := by rw [elemO, if_neg h1, if_pos hL]
      rw [e1]
      exact (refElement_many space name a cap _ h1' hn h2).mono fun e w' ⟨h1, h2⟩ => ⟨h1, hS.upd (h2 ▸ Below.refl _ _)⟩
    · have h3 : longS name = false := by simpa using (fun h => h2 (.inr h) : ¬ longS name = true)
      exact refElement_in hS space name a cap l hl h1' (by omega) h3

theorem opAt_box' (o : OpM) (v0 : Value) : OpAt o w.heap.size (w.alloc (.cells #[v0, .int .i64 o.a, .int .i64 o.b, .int .i64 o.c, .int .i64 o.n, .string o.text, .string o.more, .int .i64 o.x.space, .string o.x.pre, .string o.x.name, .string o.x.val, .slice o.la o.l.length o.cap] 32)) := by
  unfold OpAt
  refine ⟨?_, ?_, ?_, ?_, ?_, ?_, ?_, ?_, ?_, ?_, ?_⟩
  all_goals simp

set_option maxHeartbeats 1000000 in
theorem made_text (h : Both w0 w bA bR os) (o : OpM) (hw : o.what = 1) :
    Calls Try.prog 37 #[.pointer (some ⟨bA, 0, none⟩), .pointer (some ⟨bR, 0, none⟩), .agg o.cells] w fun e w' => e = .returned (.bool true) ∧ ∃ os', Both w0 w' bA bR os' := by
  obtain ⟨ns, F, G, hp⟩ := h
  have hW : ∀ ob, Below w.heap.size w (w.alloc ob) := fun ob => ((Below.refl _ w).alloc (Nat.le_refl _) ob)
  have H1 := hide (fun ob => text_sim (hp.more (hW ob)).ar hp.sim o.text)
  have HP := hide hp
  have HW := hide hW
  clear hp hW
  unfold OpM.cells
  rw [hw]
  have HB := hide (opAt_box' (w := w) o (.int .i64 1))
  go_enter Try.func37, Try.ntmps37
  go_wp2_with (first
    | (go_at_call 64; refine ((unhide H1) _).mono ?_; rintro e w1 ⟨rfl, hu⟩; obtain ⟨Y1, ns1, F1, hp1, hG1, hn1⟩ := (unhide HP).prog' o (unhide HW _) (by simp) (unhide HB) hu; have HY1 := hide Y1; have t1 := Y1.t.1; have t2 := Y1.t.2; have H2 := hide (refText_sim hp1.rf o.text); have HP1 := hide hp1; clear hu hp1 Y1)
    | (go_at_call 66; refine (unhide H2).mono ?_; rintro e w2 ⟨rfl, hu2⟩; obtain ⟨Y2, hB2⟩ := (unhide HP1).ref' o (unhide HY1) hG1 hn1 hu2; have HB2 := hide hB2; clear hu2 hB2 Y2))
  all_goals go_ret
  all_goals exact ⟨rfl, _, unhide HB2⟩

set_option maxHeartbeats 1000000 in
theorem made_comment (h : Both w0 w bA bR os) (o : OpM) (hw : o.what = 2) :
    Calls Try.prog 37 #[.pointer (some ⟨bA, 0, none⟩), .pointer (some ⟨bR, 0, none⟩), .agg o.cells] w fun e w' => e = .returned (.bool true) ∧ ∃ os', Both w0 w' bA bR os' := by
  obtain ⟨ns, F, G, hp⟩ := h
  have hW : ∀ ob, Below w.heap.size w (w.alloc ob) := fun ob => ((Below.refl _ w).alloc (Nat.le_refl _) ob)
  have H1 := hide (fun ob => comment_sim (hp.more (hW ob)).ar hp.sim o.text)
  have HP := hide hp
  have HW := hide hW
  clear hp hW
  unfold OpM.cells
  rw [hw]
  have HB := hide (opAt_box' (w := w) o (.int .i64 2))
  go_enter Try.func37, Try.ntmps37
  go_wp2_with (first
    | (go_at_call 67; refine ((unhide H1) _).mono ?_; rintro e w1 ⟨rfl, hu⟩; obtain ⟨Y1, ns1, F1, hp1, hG1, hn1⟩ := (unhide HP).prog' o (unhide HW _) (by simp) (unhide HB) hu; have HY1 := hide Y1; have t1 := Y1.t.1; have t2 := Y1.t.2; have H2 := hide (refComment_sim hp1.rf o.text); have HP1 := hide hp1; clear hu hp1 Y1)
    | (go_at_call 68; refine (unhide H2).mono ?_; rintro e w2 ⟨rfl, hu2⟩; obtain ⟨Y2, hB2⟩ := (unhide HP1).ref' o (unhide HY1) hG1 hn1 hu2; have HB2 := hide hB2; clear hu2 hB2 Y2))
  all_goals go_ret
  all_goals exact ⟨rfl, _, unhide HB2⟩

set_option maxHeartbeats 1000000 in
theorem made_doctype (h : Both w0 w bA bR os) (o : OpM) (hw : o.what = 3) :
    Calls Try.prog 37 #[.pointer (some ⟨bA, 0, none⟩), .pointer (some ⟨bR, 0, none⟩), .agg o.cells] w fun e w' => e = .returned (.bool true) ∧ ∃ os', Both w0 w' bA bR os' := by
  obtain ⟨ns, F, G, hp⟩ := h
  have hW : ∀ ob, Below w.heap.size w (w.alloc ob) := fun ob => ((Below.refl _ w).alloc (Nat.le_refl _) ob)
  have H1 := hide (fun ob => doctype_sim (hp.more (hW ob)).ar hp.sim o.text o.more o.more)
  have HP := hide hp
  have HW := hide hW
  clear hp hW
  unfold OpM.cells
  rw [hw]
  have HB := hide (opAt_box' (w := w) o (.int .i64 3))
  go_enter Try.func37, Try.ntmps37
  go_wp2_with (first
    | (go_at_call 69; refine ((unhide H1) _).mono ?_; rintro e w1 ⟨rfl, hu⟩; obtain ⟨Y1, ns1, F1, hp1, hG1, hn1⟩ := (unhide HP).prog' o (unhide HW _) (by simp) (unhide HB) hu; have HY1 := hide Y1; have t1 := Y1.t.1; have t2 := Y1.t.2; have H2 := hide (refDoctype_sim hp1.rf o.text o.more o.more); have HP1 := hide hp1; clear hu hp1 Y1)
    | (go_at_call 70; refine (unhide H2).mono ?_; rintro e w2 ⟨rfl, hu2⟩; obtain ⟨Y2, hB2⟩ := (unhide HP1).ref' o (unhide HY1) hG1 hn1 hu2; have HB2 := hide hB2; clear hu2 hB2 Y2))
  all_goals go_ret
  all_goals exact ⟨rfl, _, unhide HB2⟩

set_option maxHeartbeats 1000000 in
theorem made_fragment (h : Both w0 w bA bR os) (o : OpM) (hw : o.what = 4) :
    Calls Try.prog 37 #[.pointer (some ⟨bA, 0, none⟩), .pointer (some ⟨bR, 0, none⟩), .agg o.cells] w fun e w' => e = .returned (.bool true) ∧ ∃ os', Both w0 w' bA bR os' := by
  obtain ⟨ns, F, G, hp⟩ := h
  have hW : ∀ ob, Below w.heap.size w (w.alloc ob) := fun ob => ((Below.refl _ w).alloc (Nat.le_refl _) ob)
  have H1 := hide (fun ob => fragment_sim (hp.more (hW ob)).ar hp.sim )
  have HP := hide hp
  have HW := hide hW
  clear hp hW
  unfold OpM.cells
  rw [hw]
  have HB := hide (opAt_box' (w := w) o (.int .i64 4))
  go_enter Try.func37, Try.ntmps37
  go_wp2_with (first
    | (go_at_call 71; refine ((unhide H1) _).mono ?_; rintro e w1 ⟨rfl, hu⟩; obtain ⟨Y1, ns1, F1, hp1, hG1, hn1⟩ := (unhide HP).prog' o (unhide HW _) (by simp) (unhide HB) hu; have HY1 := hide Y1; have t1 := Y1.t.1; have t2 := Y1.t.2; have H2 := hide (refFragment_sim hp1.rf ); have HP1 := hide hp1; clear hu hp1 Y1)
    | (go_at_call 72; refine (unhide H2).mono ?_; rintro e w2 ⟨rfl, hu2⟩; obtain ⟨Y2, hB2⟩ := (unhide HP1).ref' o (unhide HY1) hG1 hn1 hu2; have HB2 := hide hB2; clear hu2 hB2 Y2))
  all_goals go_ret
  all_goals exact ⟨rfl, _, unhide HB2⟩
end
end Go.Proofs.Ytlbkoafeedlfaaa

namespace Go.Proofs.Ytlbkoafeedlfaaa
open Go.RowKit
section
variable {w0 w W w1 w2 : World} {bA bR base : Nat} {os osR os1 : List OneM} {ns : List NodeM} {F G : Nat → Prop}

theorem OpAt.below {o : OpM} {k : Nat} (h : OpAt o k w) (hb : Below w.heap.size w w1) (hk : k < w.heap.size) : OpAt o k w1 := h.of fun _ => World.cell?_of_block (hb.block k hk)

theorem OpAt.e' {o : OpM} {k : Nat} {ad : Option Addr} (h : OpAt o k w) (hla : o.la = ad) : w.cell? ⟨k, 4, none⟩ = some (.int .i64 o.n) ∧ w.cell? ⟨k, 5, none⟩ = some (.string o.text) ∧ w.cell? ⟨k, 11, none⟩ = some (.slice ad o.l.length o.cap) := hla ▸ h.e

theorem OpAt.e0 {o : OpM} {k : Nat} {ad : Option Addr} (h : OpAt o k w) (hla : o.la = ad) (h0 : o.l.length = 0) : w.cell? ⟨k, 4, none⟩ = some (.int .i64 o.n) ∧ w.cell? ⟨k, 5, none⟩ = some (.string o.text) ∧ w.cell? ⟨k, 11, none⟩ = some (.slice ad 0 o.cap) := h0 ▸ h.e' hla

theorem app_close {X w4 : World} {l : List AttrM} {B g4 c4 : Nat} (n : Nat) (hn : n = l.length) (k : Nat) (hk : k = X.heap.size) (hown : w4.ownsRow B 29 4 (.slice (some ⟨g4, 0, none⟩) (0 + n) c4) (0 + n) ([] ++ attrRow l)) (hgrow : (X.alloc (.cells #[] 29)).drew.grownBy w4 (Value.slice (some ⟨k, 0, none⟩) 0 0).ownBlock) :
    AttrsIn w4 (some ⟨g4, 0, none⟩) l ∧ Below X.heap.size X w4 := by
  subst hn
  subst hk
  simp only [Nat.zero_add, List.nil_append] at hown
  obtain ⟨a, c, e, h⟩ := ownsRow_attrs hown
  simp only [Value.slice.injEq] at e
  obtain ⟨rfl, _, _⟩ := e
  exact ⟨h, ((Below.refl _ X).alloc (Nat.le_refl _) _).drew.grown hgrow (by simp) (fun k hk => by simp [Value.ownBlock] at hk; omega)⟩

abbrev boxOf (o : OpM) (ad : Option Addr) : Obj := .cells #[.int .i64 0, .int .i64 o.a, .int .i64 o.b, .int .i64 o.c, .int .i64 o.n, .string o.text, .string o.more, .int .i64 o.x.space, .string o.x.pre, .string o.x.name, .string o.x.val, .slice ad o.l.length o.cap] 32

set_option maxHeartbeats 1000000 in
theorem made_elem_some (h : Both w0 w bA bR os) (o : OpM) (hw : o.what = 0) (hl : AttrsIn w0 o.la o.l) (hr : o.l.length * 56 ≤ 140737488351232) (h0 : 0 < o.l.length) :
    Calls Try.prog 37 #[.pointer (some ⟨bA, 0, none⟩), .pointer (some ⟨bR, 0, none⟩), .agg o.cells] w fun e w' => e = .returned (.bool true) ∧ ∃ os', Both w0 w' bA bR os' := by
  obtain ⟨ns, F, G, hp⟩ := h
  obtain ⟨i0, hi0, hz0, hz1, hz2⟩ := info_parts Try.info29
  obtain ⟨b, off, hla⟩ := Addr.of_lt hl h0
  have hn : o.l.length ≤ maxLen := by unfold maxLen; omega
  have HB := hide (opAt_box' (w := w) o (.int .i64 0))
  rw [hla] at HB
  have HLX : Hid (AttrsIn (w.alloc (boxOf o (some ⟨b, off, none⟩))) (some ⟨b, off, none⟩) o.l) := hide (by rw [← hla]; exact (hl.below hp.below).below ((Below.refl _ w).alloc (Nat.le_refl _) _))
  have HBX : Hid (Below w.heap.size w (w.alloc (boxOf o (some ⟨b, off, none⟩)))) := hide ((Below.refl _ w).alloc (Nat.le_refl _) _)
  have HEM : Hid (((w.alloc (boxOf o (some ⟨b, off, none⟩))).alloc (.cells #[] 29)).drew.ownsRow (w.heap.size + 1) 29 4 (.slice (some ⟨w.heap.size + 1, 0, none⟩) 0 0) 0 []) := hide (by
    have := (empty_row (w.alloc (boxOf o (some ⟨b, off, none⟩))) 29 4 (w.heap.size + 1) (by simp)).drew
    simpa using this)
  have HL := hide hl
  have HLA := hide hla
  have HP := hide hp
  clear hp hl
  unfold OpM.cells
  rw [hw, hla]
  clear hla
  go_enter Try.func37, Try.ntmps37
  go_wp2_with fail
  set_option maxRecDepth 10000 in
  go_region_held3 (fun w' => w'.cell? ⟨w.heap.size, 4, none⟩ = some (.int .i64 o.n) ∧ w'.cell? ⟨w.heap.size, 5, none⟩ = some (.string o.text) ∧ w'.cell? ⟨w.heap.size, 11, none⟩ = some (.slice (some ⟨b, off, none⟩) o.l.length o.cap)) (first | exact OpAt.e' (unhide HY1) (unhide HLA) | exact OpAt.e' (unhide HY4) (unhide HLA) | exact OpAt.e' ((unhide HB).of fun j => by simp) (unhide HLA)) (first
    | (refine step_append_lies _ (by rfl) _ _ _ (by rfl) (w.heap.size + 1) 29 i0 _ 4 56 Try.underlying30 hi0 hz0 hz1 hz2 rfl (by omega) (.slice (some ⟨w.heap.size + 1, 0, none⟩) 0 0) 0 [] (by rfl) (unhide HEM) ⟨b, off, none⟩ o.l.length o.cap (attrRow o.l) (by rfl) (flat_len AttrM.cells 4 attr_len o.l) (((unhide HLX).below ((Below.refl _ _).alloc (Nat.le_refl _) (.cells #[] 29)).drew).row) (attrs_oneCell _) h0 (by unfold maxLen; omega) (by omega) (by simp) _ rfl ?_; intro g4 c4 w4 hown4 hgrow4 hat4 hlt4; obtain ⟨hA4, hB4⟩ := app_close (X := w.alloc (boxOf o (some ⟨b, off, none⟩))) o.l.length rfl (w.heap.size + 1) (by simp) hown4 hgrow4; have HY4 := hide ((unhide HB).below hB4 (by simp)); have hW4 := (unhide HBX).trans (hB4.mono (by simp)); have HW4 := hide hW4; have hn4 : w.heap.size < w4.heap.size := (by have := hB4.size; simp at this; omega); have H1 := hide (element_sim ((unhide HP).more hW4).ar (unhide HP).sim o.n o.text (some ⟨g4, 0, none⟩) c4 o.l hA4 hn); clear hown4 hgrow4 hat4 hA4 hB4 hW4)
    | (go_at_call 34; refine (unhide H1).mono ?_; rintro e w1 ⟨rfl, hu⟩; obtain ⟨Y1, ns1, F1, hp1, hG1, hn1⟩ := (unhide HP).prog' o (unhide HW4) hn4 (unhide HY4) hu; have HY1 := hide Y1; have t1 := (Y1.e' (unhide HLA)).1; have t2 := (Y1.e' (unhide HLA)).2.1; have t3 := (Y1.e' (unhide HLA)).2.2; have H2 := hide (refElement_sim hp1.rf o.n o.text _ o.cap o.l ((unhide HL).below hp1.below) hn); rw [unhide HLA] at H2; have HP1 := hide hp1; clear hu hp1 Y1))
  all_goals go_wp2_with (first
    | (go_at_call 65; refine (unhide H2).mono ?_; rintro e w2 ⟨rfl, hu2⟩; obtain ⟨Y2, hB2⟩ := (unhide HP1).ref' o (unhide HY1) hG1 hn1 hu2; have HB2 := hide hB2; clear hu2 hB2 Y2))
  all_goals go_ret
  all_goals exact ⟨rfl, _, unhide HB2⟩

set_option maxHeartbeats 1000000 in
theorem made_elem_none (h : Both w0 w bA bR os) (o : OpM) (hw : o.what = 0) (hl : AttrsIn w0 o.la o.l) (h0 : o.l.length = 0) :
    Calls Try.prog 37 #[.pointer (some ⟨bA, 0, none⟩), .pointer (some ⟨bR, 0, none⟩), .agg o.cells] w fun e w' => e = .returned (.bool true) ∧ ∃ os', Both w0 w' bA bR os' := by
  obtain ⟨ns, F, G, hp⟩ := h
  have hn : o.l.length ≤ maxLen := by unfold maxLen; omega
  have HB := hide (opAt_box' (w := w) o (.int .i64 0))
  have hBX : ∀ ob ob', Below w.heap.size w ((w.alloc ob).alloc ob').drew := fun ob ob' => (((Below.refl _ w).alloc (Nat.le_refl _) ob).alloc (by simp) ob').drew
  have H1 := hide (fun ob ob' (a : Option Addr) (cap : Nat) => element_sim (hp.more (hBX ob ob')).ar hp.sim o.n o.text a cap o.l ⟨fun i x hi => by have := (List.getElem?_eq_some_iff.1 hi).1; omega⟩ hn)
  rw [h0] at H1
  have HBX := hide hBX
  have HL := hide hl
  have HP := hide hp
  have hlz : (o.l.length : Int) = 0 := by omega
  clear hp hl hBX
  unfold OpM.cells
  rw [hw]
  rw [h0] at HB ⊢
  generalize hla : o.la = la
  rw [hla] at HB HL
  have HLA := hide hla
  have HH0 := hide h0
  clear hla h0 hlz
  cases la with
  | none =>
    go_enter Try.func37, Try.ntmps37
    go_wp2_with fail
    set_option maxRecDepth 10000 in
    go_region_held3 (fun w' => w'.cell? ⟨w.heap.size, 4, none⟩ = some (.int .i64 o.n) ∧ w'.cell? ⟨w.heap.size, 5, none⟩ = some (.string o.text) ∧ w'.cell? ⟨w.heap.size, 11, none⟩ = some (.slice none 0 o.cap)) (first | exact OpAt.e0 (unhide HY1) (unhide HLA) (unhide HH0) | exact OpAt.e0 ((unhide HB).of fun j => by simp) (unhide HLA) (unhide HH0)) (first
      | (go_at_call 34; refine ((unhide H1) _ _ _ _).mono ?_; rintro e w1 ⟨rfl, hu⟩; obtain ⟨Y1, ns1, F1, hp1, hG1, hn1⟩ := (unhide HP).prog' o (unhide HBX _ _) (by simp; omega) ((unhide HB).of fun j => by simp) hu; have HY1 := hide Y1; have t1 := (Y1.e0 (unhide HLA) (unhide HH0)).1; have t2 := (Y1.e0 (unhide HLA) (unhide HH0)).2.1; have t3 := (Y1.e0 (unhide HLA) (unhide HH0)).2.2; have H2 := hide (refElement_sim hp1.rf o.n o.text none o.cap o.l ((unhide HL).below hp1.below) hn); rw [unhide HH0] at H2; have HP1 := hide hp1; clear hu hp1 Y1))
    all_goals go_wp2_with (first
      | (go_at_call 65; refine (unhide H2).mono ?_; rintro e w2 ⟨rfl, hu2⟩; obtain ⟨Y2, hB2⟩ := (unhide HP1).ref' o (unhide HY1) hG1 hn1 hu2; have HB2 := hide hB2; clear hu2 hB2 Y2))
    all_goals go_ret
    all_goals exact ⟨rfl, _, unhide HB2⟩
  | some ad =>
    go_enter Try.func37, Try.ntmps37
    go_wp2_with fail
    set_option maxRecDepth 10000 in
    go_region_held3 (fun w' => w'.cell? ⟨w.heap.size, 4, none⟩ = some (.int .i64 o.n) ∧ w'.cell? ⟨w.heap.size, 5, none⟩ = some (.string o.text) ∧ w'.cell? ⟨w.heap.size, 11, none⟩ = some (.slice (some ad) 0 o.cap)) (first | exact OpAt.e0 (unhide HY1) (unhide HLA) (unhide HH0) | exact OpAt.e0 ((unhide HB).of fun j => by simp) (unhide HLA) (unhide HH0)) (first
      | (go_at_call 34; refine ((unhide H1) _ _ _ _).mono ?_; rintro e w1 ⟨rfl, hu⟩; obtain ⟨Y1, ns1, F1, hp1, hG1, hn1⟩ := (unhide HP).prog' o (unhide HBX _ _) (by simp; omega) ((unhide HB).of fun j => by simp) hu; have HY1 := hide Y1; have t1 := (Y1.e0 (unhide HLA) (unhide HH0)).1; have t2 := (Y1.e0 (unhide HLA) (unhide HH0)).2.1; have t3 := (Y1.e0 (unhide HLA) (unhide HH0)).2.2; have H2 := hide (refElement_sim hp1.rf o.n o.text (some ad) o.cap o.l ((unhide HL).below hp1.below) hn); rw [unhide HH0] at H2; have HP1 := hide hp1; clear hu hp1 Y1))
    all_goals go_wp2_with (first
      | (go_at_call 65; refine (unhide H2).mono ?_; rintro e w2 ⟨rfl, hu2⟩; obtain ⟨Y2, hB2⟩ := (unhide HP1).ref' o (unhide HY1) hG1 hn1 hu2; have HB2 := hide hB2; clear hu2 hB2 Y2))
    all_goals go_ret
    all_goals exact ⟨rfl, _, unhide HB2⟩

end
end Go.Proofs.Ytlbkoafeedlfaaa

namespace Go.Proofs.Ytlbkoafeedlfaaa
open Go.RowKit

/-- A script that came in, as the walks read it. -/
structure ScriptIn (w : World) (a : Option Addr) (l : List OpM) : Prop where
  cells : ∀ (i : Nat) o, l[i]? = some o → ∃ b off, a = some ⟨b, off, none⟩ ∧ w.cell? ⟨b, off + i * 12, none⟩ = some (.int .i64 o.what) ∧ w.cell? ⟨b, off + i * 12 + 1, none⟩ = some (.int .i64 o.a) ∧ w.cell? ⟨b, off + i * 12 + 2, none⟩ = some (.int .i64 o.b) ∧ w.cell? ⟨b, off + i * 12 + 3, none⟩ = some (.int .i64 o.c) ∧ w.cell? ⟨b, off + i * 12 + 4, none⟩ = some (.int .i64 o.n) ∧ w.cell? ⟨b, off + i * 12 + 5, none⟩ = some (.string o.text) ∧ w.cell? ⟨b, off + i * 12 + 6, none⟩ = some (.string o.more) ∧ w.cell? ⟨b, off + i * 12 + 7, none⟩ = some (.int .i64 o.x.space) ∧ w.cell? ⟨b, off + i * 12 + 8, none⟩ = some (.string o.x.pre) ∧ w.cell? ⟨b, off + i * 12 + 9, none⟩ = some (.string o.x.name) ∧ w.cell? ⟨b, off + i * 12 + 10, none⟩ = some (.string o.x.val) ∧ w.cell? ⟨b, off + i * 12 + 11, none⟩ = some (.slice o.la o.l.length o.cap)
  attrs : ∀ (i : Nat) o, l[i]? = some o → AttrsIn w o.la o.l ∧ o.l.length * 56 ≤ 140737488351232

section
variable {w0 w W w1 w2 : World} {bA bR base : Nat} {os osR os1 : List OneM} {ns : List NodeM} {F G : Nat → Prop}

theorem ScriptIn.below {a : Option Addr} {l : List OpM} (h : ScriptIn w a l) (hb : Below w.heap.size w w1) : ScriptIn w1 a l := by
  refine ⟨fun i o hi => ?_, fun i o hi => ⟨((h.attrs i o hi).1).below hb, (h.attrs i o hi).2⟩⟩
  obtain ⟨b, off, e, c0, c1, c2, c3, c4, c5, c6, c7, c8, c9, c10, c11⟩ := h.cells i o hi
  have hlt : b < w.heap.size := World.block_lt_of_cell? w _ c0
  exact ⟨b, off, e, (hb.cell (p := ⟨b, off + i * 12, none⟩) hlt).trans c0, (hb.cell (p := ⟨b, off + i * 12 + 1, none⟩) hlt).trans c1, (hb.cell (p := ⟨b, off + i * 12 + 2, none⟩) hlt).trans c2, (hb.cell (p := ⟨b, off + i * 12 + 3, none⟩) hlt).trans c3, (hb.cell (p := ⟨b, off + i * 12 + 4, none⟩) hlt).trans c4, (hb.cell (p := ⟨b, off + i * 12 + 5, none⟩) hlt).trans c5, (hb.cell (p := ⟨b, off + i * 12 + 6, none⟩) hlt).trans c6, (hb.cell (p := ⟨b, off + i * 12 + 7, none⟩) hlt).trans c7, (hb.cell (p := ⟨b, off + i * 12 + 8, none⟩) hlt).trans c8, (hb.cell (p := ⟨b, off + i * 12 + 9, none⟩) hlt).trans c9, (hb.cell (p := ⟨b, off + i * 12 + 10, none⟩) hlt).trans c10, (hb.cell (p := ⟨b, off + i * 12 + 11, none⟩) hlt).trans c11⟩

set_option maxHeartbeats 1000000 in
theorem awake1_any (w : World) : Calls Try.prog 21 #[] w fun e w' => e = .returned (.bool true) ∧ Below w.heap.size w w' := by
  have HN := hide (new_any w w.heap.size (Nat.le_refl _))
  go_enter Try.func21, Try.ntmps21
  go_wp2_with fail
  refine (unhide HN).mono ?_
  rintro e w1 ⟨F, rfl, ⟨bS, g, cap, h1, _⟩, hb1, hF⟩
  have HL := hide (len_any h1)
  have HB := hide hb1
  clear h1 hb1 hF
  go_wp2_with (go_at_call 17; refine (unhide HL).mono ?_; rintro e w' ⟨rfl, rfl⟩)
  go_ret
  exact ⟨rfl, unhide HB⟩

theorem Both.more (h : Both w0 w bA bR os) (hb : Below w.heap.size w W) : Both w0 W bA bR os := by
  obtain ⟨ns, F, G, hp⟩ := h
  exact ⟨ns, F, G, hp.more hb⟩

theorem made_any (h : Both w0 w bA bR os) (o : OpM) (hl : AttrsIn w0 o.la o.l) (hr : o.l.length * 56 ≤ 140737488351232) (h5 : o.what = 0 ∨ o.what = 1 ∨ o.what = 2 ∨ o.what = 3 ∨ o.what = 4) :
    Calls Try.prog 37 #[.pointer (some ⟨bA, 0, none⟩), .pointer (some ⟨bR, 0, none⟩), .agg o.cells] w fun e w' => e = .returned (.bool true) ∧ ∃ os', Both w0 w' bA bR os' := by
  rcases h5 with h5 | h5 | h5 | h5 | h5
  · by_cases h0 : 0 < o.l.length
    · exact made_elem_some h o h5 hl hr h0
    · exact made_elem_none h o h5 hl (by omega)
  · exact made_text h o h5
  · exact made_comment h o h5
  · exact made_doctype h o h5
  · exact made_fragment h o h5

set_option maxHeartbeats 1000000 in
theorem play_made0 (h : Both w0 w bA bR os) (o : OpM) (hl : AttrsIn w0 o.la o.l) (hr : o.l.length * 56 ≤ 140737488351232) (hw : o.what = 0) :
    Calls Try.prog 15 #[.pointer (some ⟨bA, 0, none⟩), .pointer (some ⟨bR, 0, none⟩), .agg o.cells] w fun e w' => e = .returned (.bool true) ∧ ∃ os', Both w0 w' bA bR os' := by
  have HM := hide (fun ob => made_any (h.more ((Below.refl _ w).alloc (Nat.le_refl _) ob)) o hl hr (by omega))
  clear h hl hr
  unfold OpM.cells at HM ⊢
  rw [hw] at HM ⊢
  go_enter Try.func15, Try.ntmps15
  go_wp2_with (go_at_call 37; refine ((unhide HM) _).mono ?_; rintro e w1 ⟨rfl, hB⟩; have HB := hide hB; clear hB)
  go_ret
  exact ⟨rfl, unhide HB⟩

set_option maxHeartbeats 1000000 in
theorem play_made1 (h : Both w0 w bA bR os) (o : OpM) (hl : AttrsIn w0 o.la o.l) (hr : o.l.length * 56 ≤ 140737488351232) (hw : o.what = 1) :
    Calls Try.prog 15 #[.pointer (some ⟨bA, 0, none⟩), .pointer (some ⟨bR, 0, none⟩), .agg o.cells] w fun e w' => e = .returned (.bool true) ∧ ∃ os', Both w0 w' bA bR os' := by
  have HM := hide (fun ob => made_any (h.more ((Below.refl _ w).alloc (Nat.le_refl _) ob)) o hl hr (by omega))
  clear h hl hr
  unfold OpM.cells at HM ⊢
  rw [hw] at HM ⊢
  go_enter Try.func15, Try.ntmps15
  go_wp2_with (go_at_call 37; refine ((unhide HM) _).mono ?_; rintro e w1 ⟨rfl, hB⟩; have HB := hide hB; clear hB)
  go_ret
  exact ⟨rfl, unhide HB⟩

set_option maxHeartbeats 1000000 in
theorem play_made2 (h : Both w0 w bA bR os) (o : OpM) (hl : AttrsIn w0 o.la o.l) (hr : o.l.length * 56 ≤ 140737488351232) (hw : o.what = 2) :
    Calls Try.prog 15 #[.pointer (some ⟨bA, 0, none⟩), .pointer (some ⟨bR, 0, none⟩), .agg o.cells] w fun e w' => e = .returned (.bool true) ∧ ∃ os', Both w0 w' bA bR os' := by
  have HM := hide (fun ob => made_any (h.more ((Below.refl _ w).alloc (Nat.le_refl _) ob)) o hl hr (by omega))
  clear h hl hr
  unfold OpM.cells at HM ⊢
  rw [hw] at HM ⊢
  go_enter Try.func15, Try.ntmps15
  go_wp2_with (go_at_call 37; refine ((unhide HM) _).mono ?_; rintro e w1 ⟨rfl, hB⟩; have HB := hide hB; clear hB)
  go_ret
  exact ⟨rfl, unhide HB⟩

set_option maxHeartbeats 1000000 in
theorem play_made3 (h : Both w0 w bA bR os) (o : OpM) (hl : AttrsIn w0 o.la o.l) (hr : o.l.length * 56 ≤ 140737488351232) (hw : o.what = 3) :
    Calls Try.prog 15 #[.pointer (some ⟨bA, 0, none⟩), .pointer (some ⟨bR, 0, none⟩), .agg o.cells] w fun e w' => e = .returned (.bool true) ∧ ∃ os', Both w0 w' bA bR os' := by
  have HM := hide (fun ob => made_any (h.more ((Below.refl _ w).alloc (Nat.le_refl _) ob)) o hl hr (by omega))
  clear h hl hr
  unfold OpM.cells at HM ⊢
  rw [hw] at HM ⊢
  go_enter Try.func15, Try.ntmps15
  go_wp2_with (go_at_call 37; refine ((unhide HM) _).mono ?_; rintro e w1 ⟨rfl, hB⟩; have HB := hide hB; clear hB)
  go_ret
  exact ⟨rfl, unhide HB⟩

set_option maxHeartbeats 1000000 in
theorem play_made4 (h : Both w0 w bA bR os) (o : OpM) (hl : AttrsIn w0 o.la o.l) (hr : o.l.length * 56 ≤ 140737488351232) (hw : o.what = 4) :
    Calls Try.prog 15 #[.pointer (some ⟨bA, 0, none⟩), .pointer (some ⟨bR, 0, none⟩), .agg o.cells] w fun e w' => e = .returned (.bool true) ∧ ∃ os', Both w0 w' bA bR os' := by
  have HM := hide (fun ob => made_any (h.more ((Below.refl _ w).alloc (Nat.le_refl _) ob)) o hl hr (by omega))
  clear h hl hr
  unfold OpM.cells at HM ⊢
  rw [hw] at HM ⊢
  go_enter Try.func15, Try.ntmps15
  go_wp2_with (go_at_call 37; refine ((unhide HM) _).mono ?_; rintro e w1 ⟨rfl, hB⟩; have HB := hide hB; clear hB)
  go_ret
  exact ⟨rfl, unhide HB⟩

theorem play_any (h : Both w0 w bA bR os) (o : OpM) (hl : AttrsIn w0 o.la o.l) (hr : o.l.length * 56 ≤ 140737488351232) :
    Calls Try.prog 15 #[.pointer (some ⟨bA, 0, none⟩), .pointer (some ⟨bR, 0, none⟩), .agg o.cells] w fun e w' => e = .returned (.bool true) ∧ ∃ os', Both w0 w' bA bR os' := by
  by_cases h0 : o.what = 0
  · exact play_made0 h o hl hr h0
  by_cases h1 : o.what = 1
  · exact play_made1 h o hl hr h1
  by_cases h2 : o.what = 2
  · exact play_made2 h o hl hr h2
  by_cases h3 : o.what = 3
  · exact play_made3 h o hl hr h3
  by_cases h4 : o.what = 4
  · exact play_made4 h o hl hr h4
  by_cases h5 : o.what = 5
  · exact play_link h o h5
  by_cases h6 : o.what = 6
  · exact play_unlink h o h6
  by_cases h7 : o.what = 7
  · exact play_data h o h7
  by_cases h8 : o.what = 8
  · exact play_attr h o h8
  exact play_del h o h0 h1 h2 h3 h4 h5 h6 h7 h8

theorem both_new {F : Nat → Prop} {g cap : Nat} (h1 : ArS w1 w.heap.size bA [blankM 0] F) (hb1 : Below w.heap.size w w1) (hF : ∀ k, F k → w.heap.size ≤ k)
    (h2 : Rf w2 w.heap.size bR g cap [oneR 0]) (hb2 : Below w1.heap.size w1 w2) (hR : w1.heap.size ≤ bR) (hg : w1.heap.size ≤ g) : Both w w2 bA bR [oneM 0] := by
  have hG : ∀ k, footR bR g [oneR 0] k → w1.heap.size ≤ k := by
    intro k hk
    rcases hk with rfl | rfl | ⟨r, hr, e⟩
    · exact hR
    · exact hg
    · simp at hr; subst hr; simp [oneR, blk] at e
  refine ⟨_, F, footR bR g [oneR 0], h1.below hb2, Sim.new, ⟨g, cap, [oneR 0], h2, rfl, fun k => Iff.rfl⟩, hb1.trans (hb2.mono hb1.size), hF, fun k hk => Nat.le_trans hb1.size (hG k hk), fun k hf hg => ?_⟩
  have := (h1.lt hf).2
  have := hG k hg
  omega

theorem Both.sides (h : Both w0 w bA bR os) (i j : Int) :
    (Calls Try.prog 20 #[.pointer (some ⟨bA, 0, none⟩), .int .i64 i, .int .i64 j] w fun e w' => e = .returned (.bool (aboveO os i j)) ∧ Below w.heap.size w w') ∧
    (∀ w', Below w.heap.size w w' → Calls Try.prog 94 #[.pointer (some ⟨bR, 0, none⟩), .int .i64 i, .int .i64 j] w' fun e w'' => e = .returned (.bool (aboveO os i j)) ∧ w' = w'') ∧ Below w0.heap.size w0 w := by
  obtain ⟨ns, F, G, hp⟩ := h
  refine ⟨above_sim hp.ar hp.sim i j, fun w' hb => ?_, hp.below⟩
  obtain ⟨g, cap, rs, h, rfl, _⟩ := (hp.more hb).rf
  exact refAbove_any h hp.sim.ends i j
end

end Go.Proofs.Ytlbkoafeedlfaaa
