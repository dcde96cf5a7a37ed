/-
  Both arenas under the second law's calls.
-/
import Derived.Test.YtnclnijlpchdnaaGreatE6
import Derived.Deep.RegionHeld3
import Derived.ProofKit
import Derived.OpenShut
import Derived.ShutString
import Derived.ChangeOld
import Derived.Deep.Slices
import Derived.SizedLaws
namespace Go.Proofs.YtnclnijlpchdnaaGreat
open Go.RowKit

/-- A call of a script. -/
structure OpE where
  what : Int
  a : Int
  b : Int
  c : Int
  n : Int
  text : ByteArray
  more : ByteArray
def OpE.cells (o : OpE) : Array Value := #[.int .i64 o.what, .int .i64 o.a, .int .i64 o.b, .int .i64 o.c, .int .i64 o.n, .string o.text, .string o.more]
def OpIn (o : OpE) (k : Nat) (w : World) : Prop :=
  w.cell? ⟨k, 1, none⟩ = some (.int .i64 o.a) ∧ w.cell? ⟨k, 2, none⟩ = some (.int .i64 o.b) ∧ w.cell? ⟨k, 3, none⟩ = some (.int .i64 o.c) ∧ w.cell? ⟨k, 4, none⟩ = some (.int .i64 o.n) ∧ w.cell? ⟨k, 5, none⟩ = some (.string o.text) ∧ w.cell? ⟨k, 6, none⟩ = some (.string o.more)

def rawR (os : List OneM) (o : OpE) : List OneM :=
  if o.n = 1 then (elemO os 0 o.text []).1 else if o.n = 2 then (dataO os 2 o.text).1 else if o.n = 3 then (dataO os 3 o.text).1 else if o.n = 4 then (docO os o.text ⟨#[]⟩ ⟨#[]⟩).1 else (fragO os).1
def stepE (os : List OneM) (o : OpE) : List OneM :=
  if o.what = 0 then rawR os o else if o.what = 1 then insR os o.a o.b o.c else if o.what = 2 then unlinkR os o.a else if o.what = 3 then (addTextO os o.text o.b).1
  else if o.what = 4 then (addElemO os o.text o.b).1 else if o.what = 5 then edSetR os o.a o.text o.more else if o.what = 6 then edDelR os o.a o.text else setDataR os o.a o.text

section
variable {w0 w W w1 w2 : World} {bA bR : Nat} {os osR os1 : List OneM} {ns : List NodeM} {F G : Nat → Prop}

theorem OpIn.q1 {o : OpE} {k : Nat} (h : OpIn o k w) : w.cell? ⟨k, 1, none⟩ = some (.int .i64 o.a) := h.1
theorem OpIn.q15 {o : OpE} {k : Nat} (h : OpIn o k w) : w.cell? ⟨k, 1, none⟩ = some (.int .i64 o.a) ∧ w.cell? ⟨k, 5, none⟩ = some (.string o.text) := ⟨h.1, h.2.2.2.2.1⟩
theorem OpIn.q156 {o : OpE} {k : Nat} (h : OpIn o k w) : w.cell? ⟨k, 1, none⟩ = some (.int .i64 o.a) ∧ w.cell? ⟨k, 5, none⟩ = some (.string o.text) ∧ w.cell? ⟨k, 6, none⟩ = some (.string o.more) := ⟨h.1, h.2.2.2.2.1, h.2.2.2.2.2⟩
theorem OpIn.q123 {o : OpE} {k : Nat} (h : OpIn o k w) : w.cell? ⟨k, 1, none⟩ = some (.int .i64 o.a) ∧ w.cell? ⟨k, 2, none⟩ = some (.int .i64 o.b) ∧ w.cell? ⟨k, 3, none⟩ = some (.int .i64 o.c) := ⟨h.1, h.2.1, h.2.2.1⟩
theorem OpIn.of {o : OpE} {k : Nat} (h : OpIn o k w) (he : ∀ j, w1.cell? ⟨k, j, none⟩ = w.cell? ⟨k, j, none⟩) : OpIn o k w1 := by
  unfold OpIn at h ⊢
  simp only [he]
  exact h
theorem OpIn.below {o : OpE} {k : Nat} (h : OpIn o k w) (hb : Below w.heap.size w w1) (hk : k < w.heap.size) : OpIn o k w1 := h.of fun _ => World.cell?_of_block (hb.block k hk)
theorem opIn_box (o : OpE) (v0 : Value) : OpIn o w.heap.size (w.alloc (.cells #[v0, .int .i64 o.a, .int .i64 o.b, .int .i64 o.c, .int .i64 o.n, .string o.text, .string o.more] 29)).drew := by
  unfold OpIn
  refine ⟨?_, ?_, ?_, ?_, ?_, ?_⟩
  all_goals simp
theorem opIn_box' (o : OpE) (v0 : Value) : OpIn o w.heap.size (w.alloc (.cells #[v0, .int .i64 o.a, .int .i64 o.b, .int .i64 o.c, .int .i64 o.n, .string o.text, .string o.more] 29)) := by
  unfold OpIn
  refine ⟨?_, ?_, ?_, ?_, ?_, ?_⟩
  all_goals simp

theorem Pair.prog' (h : Pair w0 w bA bR os osR ns F G) (o : OpE) (hB : Below w.heap.size w W) (hlt : w.heap.size < W.heap.size) (hw : OpIn o w.heap.size W) (hu : USim F W w1 w0.heap.size bA os1) :
    OpIn o w.heap.size w1 ∧ ∃ ns1 F1, Pair w0 w1 bA bR os1 osR ns1 F1 G ∧ (∀ k, G k → k < w.heap.size) ∧ w.heap.size < w1.heap.size := by
  have hsz : W.heap.size ≤ w1.heap.size := by obtain ⟨_, ⟨_, _, hm, _⟩, _⟩ := hu; exact hm.size
  obtain ⟨ns1, F1, hp1, hc⟩ := h.prog hB hu
  exact ⟨hw.of fun j => hc _ j (Nat.le_refl _) hlt, ns1, F1, hp1, fun k hk => (h.rf.lt hk).2, by omega⟩
theorem Pair.ref' (h : Pair w0 w1 bA bR os osR ns F G) (o : OpE) {n : Nat} (hw : OpIn o n w1) (hG : ∀ k, G k → k < n) (hn : n < w1.heap.size) (hu : URf G w1 w2 w0.heap.size bR os) : OpIn o n w2 ∧ Both w0 w2 bA bR os := by
  obtain ⟨hb, hc⟩ := h.ref hu
  exact ⟨hw.of fun j => hc _ j hn (fun hg => by have := hG _ hg; omega), hb⟩

set_option maxRecDepth 100000 in
set_option maxHeartbeats 4000000 in
theorem play_remove (h : Both w0 w bA bR os) (o : OpE) (hw : o.what = 2) :
    Calls Tryz.prog 9 #[.pointer (some ⟨bA, 0, none⟩), .pointer (some ⟨bR, 0, none⟩), .agg o.cells] w fun e w' => e = .returned (.bool true) ∧ Both w0 w' bA bR (unlinkR os o.a) := by
  obtain ⟨ns, F, G, hp⟩ := h
  have hW : ∀ ob, Below w.heap.size w (w.alloc ob).drew := fun ob => ((Below.refl _ w).alloc (Nat.le_refl _) ob).drew
  have H1 := hide (fun ob => remove_any (hp.more (hW ob)).ar hp.sim o.a)
  have HP := hide hp
  have HSIM := hide hp.sim
  have HW := hide hW
  clear hp hW
  unfold OpE.cells
  rw [hw]
  have HB := hide (opIn_box (w := w) o (.int .i64 2))
  go_enter Tryz.func9, Tryz.ntmps9
  go_wp2_with fail
  go_region_held3 (fun w' => w'.cell? ⟨w.heap.size, 1, none⟩ = some (.int .i64 o.a)) (first | exact OpIn.q1 (unhide HB) | exact OpIn.q1 (unhide HY1) | exact OpIn.q1 (unhide HY2)) (first
    | (go_at_call 16; refine ((unhide H1) _).mono ?_; rintro e w1 ⟨rfl, hu⟩; obtain ⟨Y1, ns1, F1, hp1, hG1, hn1⟩ := (unhide HP).prog' o (unhide HW _) (by simp) (unhide HB) hu; have HY1 := hide Y1; have H2 := hide (refRemove_any hp1.rf (unhide HSIM) o.a); have HP1 := hide hp1; clear hu hp1)
    | (go_at_call 27; refine (unhide H2).mono ?_; rintro e w2 ⟨rfl, hu2⟩; obtain ⟨Y2, hB2⟩ := (unhide HP1).ref' o (unhide HY1) hG1 hn1 hu2.1; have HY2 := hide Y2; have HB2 := hide hB2; clear hu2 hB2 Y2))
  all_goals go_wp2
  all_goals go_ret
  all_goals exact ⟨rfl, unhide HB2⟩

set_option maxRecDepth 100000 in
set_option maxHeartbeats 4000000 in
theorem play_set (h : Both w0 w bA bR os) (o : OpE) (hm : o.text.size ≤ maxLen) (hw : o.what = 5) :
    Calls Tryz.prog 9 #[.pointer (some ⟨bA, 0, none⟩), .pointer (some ⟨bR, 0, none⟩), .agg o.cells] w fun e w' => e = .returned (.bool true) ∧ Both w0 w' bA bR (edSetR os o.a o.text o.more) := by
  obtain ⟨ns, F, G, hp⟩ := h
  have hW : ∀ ob, Below w.heap.size w (w.alloc ob).drew := fun ob => ((Below.refl _ w).alloc (Nat.le_refl _) ob).drew
  have H1 := hide (fun ob => edSet_any (hp.more (hW ob)).ar hp.sim o.a o.text o.more hm)
  have HP := hide hp
  have HSIM := hide hp.sim
  have HW := hide hW
  have HM := hide hm
  clear hp hW hm
  unfold OpE.cells
  rw [hw]
  have HB := hide (opIn_box (w := w) o (.int .i64 5))
  go_enter Tryz.func9, Tryz.ntmps9
  go_wp2_with fail
  go_region_held3 (fun w' => w'.cell? ⟨w.heap.size, 1, none⟩ = some (.int .i64 o.a) ∧ w'.cell? ⟨w.heap.size, 5, none⟩ = some (.string o.text) ∧ w'.cell? ⟨w.heap.size, 6, none⟩ = some (.string o.more)) (first | exact OpIn.q156 (unhide HB) | exact OpIn.q156 (unhide HY1) | exact OpIn.q156 (unhide HY2)) (first
    | (go_at_call 19; refine ((unhide H1) _).mono ?_; rintro e w1 ⟨rfl, hu⟩; obtain ⟨Y1, ns1, F1, hp1, hG1, hn1⟩ := (unhide HP).prog' o (unhide HW _) (by simp) (unhide HB) hu; have HY1 := hide Y1; have H2 := hide (refSet_any hp1.rf (unhide HSIM) o.a o.text o.more (unhide HM)); have HP1 := hide hp1; clear hu hp1)
    | (go_at_call 30; refine (unhide H2).mono ?_; rintro e w2 ⟨rfl, hu2⟩; obtain ⟨Y2, hB2⟩ := (unhide HP1).ref' o (unhide HY1) hG1 hn1 hu2; have HY2 := hide Y2; have HB2 := hide hB2; clear hu2 hB2 Y2))
  all_goals go_wp2
  all_goals go_ret
  all_goals exact ⟨rfl, unhide HB2⟩

set_option maxRecDepth 100000 in
set_option maxHeartbeats 4000000 in
theorem play_del (h : Both w0 w bA bR os) (o : OpE) (hm : o.text.size ≤ maxLen) (hw : o.what = 6) :
    Calls Tryz.prog 9 #[.pointer (some ⟨bA, 0, none⟩), .pointer (some ⟨bR, 0, none⟩), .agg o.cells] w fun e w' => e = .returned (.bool true) ∧ Both w0 w' bA bR (edDelR os o.a o.text) := by
  obtain ⟨ns, F, G, hp⟩ := h
  have hW : ∀ ob, Below w.heap.size w (w.alloc ob).drew := fun ob => ((Below.refl _ w).alloc (Nat.le_refl _) ob).drew
  have H1 := hide (fun ob => edDel_any (hp.more (hW ob)).ar hp.sim o.a o.text hm)
  have HP := hide hp
  have HSIM := hide hp.sim
  have HW := hide hW
  have HM := hide hm
  clear hp hW hm
  unfold OpE.cells
  rw [hw]
  have HB := hide (opIn_box (w := w) o (.int .i64 6))
  go_enter Tryz.func9, Tryz.ntmps9
  go_wp2_with fail
  go_region_held3 (fun w' => w'.cell? ⟨w.heap.size, 1, none⟩ = some (.int .i64 o.a) ∧ w'.cell? ⟨w.heap.size, 5, none⟩ = some (.string o.text)) (first | exact OpIn.q15 (unhide HB) | exact OpIn.q15 (unhide HY1) | exact OpIn.q15 (unhide HY2)) (first
    | (go_at_call 20; refine ((unhide H1) _).mono ?_; rintro e w1 ⟨rfl, hu⟩; obtain ⟨Y1, ns1, F1, hp1, hG1, hn1⟩ := (unhide HP).prog' o (unhide HW _) (by simp) (unhide HB) hu; have HY1 := hide Y1; have H2 := hide (refDel_any hp1.rf (unhide HSIM) o.a o.text (unhide HM)); have HP1 := hide hp1; clear hu hp1)
    | (go_at_call 31; refine (unhide H2).mono ?_; rintro e w2 ⟨rfl, hu2⟩; obtain ⟨Y2, hB2⟩ := (unhide HP1).ref' o (unhide HY1) hG1 hn1 hu2; have HY2 := hide Y2; have HB2 := hide hB2; clear hu2 hB2 Y2))
  all_goals go_wp2
  all_goals go_ret
  all_goals exact ⟨rfl, unhide HB2⟩

set_option maxRecDepth 100000 in
set_option maxHeartbeats 4000000 in
theorem play_dataE (h : Both w0 w bA bR os) (o : OpE) (h0 : ¬ o.what = 0) (h1 : ¬ o.what = 1) (h2 : ¬ o.what = 2) (h3 : ¬ o.what = 3) (h4 : ¬ o.what = 4) (h5 : ¬ o.what = 5) (h6 : ¬ o.what = 6) :
    Calls Tryz.prog 9 #[.pointer (some ⟨bA, 0, none⟩), .pointer (some ⟨bR, 0, none⟩), .agg o.cells] w fun e w' => e = .returned (.bool true) ∧ Both w0 w' bA bR (setDataR os o.a o.text) := by
  obtain ⟨ns, F, G, hp⟩ := h
  have hW : ∀ ob, Below w.heap.size w (w.alloc ob).drew := fun ob => ((Below.refl _ w).alloc (Nat.le_refl _) ob).drew
  have H1 := hide (fun ob => edSetData_any (hp.more (hW ob)).ar hp.sim o.a o.text)
  have HP := hide hp
  have HSIM := hide hp.sim
  have HW := hide hW
  clear hp hW
  unfold OpE.cells
  have n0 : (o.what == 0) = false := by simpa using h0
  have n1 : (o.what == 1) = false := by simpa using h1
  have n2 : (o.what == 2) = false := by simpa using h2
  have n3 : (o.what == 3) = false := by simpa using h3
  have n4 : (o.what == 4) = false := by simpa using h4
  have n5 : (o.what == 5) = false := by simpa using h5
  have n6 : (o.what == 6) = false := by simpa using h6
  have HB := hide (opIn_box (w := w) o (.int .i64 o.what))
  go_enter Tryz.func9, Tryz.ntmps9
  go_wp2_with fail
  go_region_held3 (fun w' => w'.cell? ⟨w.heap.size, 1, none⟩ = some (.int .i64 o.a) ∧ w'.cell? ⟨w.heap.size, 5, none⟩ = some (.string o.text)) (first | exact OpIn.q15 (unhide HB) | exact OpIn.q15 (unhide HY1) | exact OpIn.q15 (unhide HY2)) (first
    | (go_at_call 21; refine ((unhide H1) _).mono ?_; rintro e w1 ⟨rfl, hu⟩; obtain ⟨Y1, ns1, F1, hp1, hG1, hn1⟩ := (unhide HP).prog' o (unhide HW _) (by simp) (unhide HB) hu; have HY1 := hide Y1; have H2 := hide (refSetData_sim hp1.rf o.a o.text); have HP1 := hide hp1; clear hu hp1)
    | (go_at_call 32; refine (unhide H2).mono ?_; rintro e w2 ⟨rfl, hu2⟩; obtain ⟨Y2, hB2⟩ := (unhide HP1).ref' o (unhide HY1) hG1 hn1 hu2; have HY2 := hide Y2; have HB2 := hide hB2; clear hu2 hB2 Y2))
  all_goals go_wp2
  all_goals go_ret
  all_goals exact ⟨rfl, unhide HB2⟩

set_option maxRecDepth 100000 in
set_option maxHeartbeats 4000000 in
theorem play_text (h : Both w0 w bA bR os) (o : OpE) (hw : o.what = 3) :
    Calls Tryz.prog 9 #[.pointer (some ⟨bA, 0, none⟩), .pointer (some ⟨bR, 0, none⟩), .agg o.cells] w fun e w' => e = .returned (.bool true) ∧ Both w0 w' bA bR (addTextO os o.text o.b).1 := by
  obtain ⟨ns, F, G, hp⟩ := h
  have hW : ∀ ob, Below w.heap.size w (w.alloc ob) := fun ob => ((Below.refl _ w).alloc (Nat.le_refl _) ob)
  have H1 := hide (fun ob => addText_any (hp.more (hW ob)).ar hp.sim o.text o.b)
  have HP := hide hp
  have HSIM := hide hp.sim
  have HW := hide hW
  clear hp hW
  unfold OpE.cells
  rw [hw]
  have HB := hide (opIn_box' (w := w) o (.int .i64 3))
  go_enter Tryz.func9, Tryz.ntmps9
  go_wp2_with (first
    | (go_at_call 17; refine ((unhide H1) _).mono ?_; rintro e w1 ⟨rfl, hu⟩; obtain ⟨Y1, ns1, F1, hp1, hG1, hn1⟩ := (unhide HP).prog' o (unhide HW _) (by simp) (unhide HB) hu; have HY1 := hide Y1; have t1 := Y1.2.1; have t2 := Y1.2.2.2.2.1; have H2 := hide (refAddText_any hp1.rf (unhide HSIM) o.text o.b); have HP1 := hide hp1; clear hu hp1 Y1)
    | (go_at_call 28; refine (unhide H2).mono ?_; rintro e w2 ⟨rfl, hu2⟩; obtain ⟨Y2, hB2⟩ := (unhide HP1).ref' o (unhide HY1) hG1 hn1 hu2; have HB2 := hide hB2; clear hu2 hB2 Y2))
  all_goals go_ret
  all_goals exact ⟨by simp, unhide HB2⟩

set_option maxRecDepth 100000 in
set_option maxHeartbeats 4000000 in
theorem play_elem (h : Both w0 w bA bR os) (o : OpE) (hm : o.text.size ≤ maxLen) (hw : o.what = 4) :
    Calls Tryz.prog 9 #[.pointer (some ⟨bA, 0, none⟩), .pointer (some ⟨bR, 0, none⟩), .agg o.cells] w fun e w' => e = .returned (.bool true) ∧ Both w0 w' bA bR (addElemO os o.text o.b).1 := by
  obtain ⟨ns, F, G, hp⟩ := h
  have hW : ∀ ob, Below w.heap.size w (w.alloc ob) := fun ob => ((Below.refl _ w).alloc (Nat.le_refl _) ob)
  have H1 := hide (fun ob => addElem_any (hp.more (hW ob)).ar hp.sim o.text hm o.b)
  have HP := hide hp
  have HSIM := hide hp.sim
  have HW := hide hW
  have HM := hide hm
  clear hp hW hm
  unfold OpE.cells
  rw [hw]
  have HB := hide (opIn_box' (w := w) o (.int .i64 4))
  go_enter Tryz.func9, Tryz.ntmps9
  go_wp2_with (first
    | (go_at_call 18; refine ((unhide H1) _).mono ?_; rintro e w1 ⟨rfl, hu⟩; obtain ⟨Y1, ns1, F1, hp1, hG1, hn1⟩ := (unhide HP).prog' o (unhide HW _) (by simp) (unhide HB) hu; have HY1 := hide Y1; have t1 := Y1.2.1; have t2 := Y1.2.2.2.2.1; have H2 := hide (refAddElem_any hp1.rf (unhide HSIM) o.text (unhide HM) o.b); have HP1 := hide hp1; clear hu hp1 Y1)
    | (go_at_call 29; refine (unhide H2).mono ?_; rintro e w2 ⟨rfl, hu2⟩; obtain ⟨Y2, hB2⟩ := (unhide HP1).ref' o (unhide HY1) hG1 hn1 hu2; have HB2 := hide hB2; clear hu2 hB2 Y2))
  all_goals go_ret
  all_goals exact ⟨by simp, unhide HB2⟩
end
end Go.Proofs.YtnclnijlpchdnaaGreat

namespace Go.Proofs.YtnclnijlpchdnaaGreat
open Go.RowKit

section
variable {w0 w W w1 w2 : World} {bA bR : Nat} {os osR os1 : List OneM} {ns : List NodeM} {F G : Nat → Prop}
theorem nilAttrs (w : World) : AttrsIn w none [] := ⟨fun i x hi => by simp at hi⟩

set_option maxRecDepth 100000 in
set_option maxHeartbeats 4000000 in
theorem raw_1 (h : Both w0 w bA bR os) (o : OpE) (hw : o.n = 1) :
    Calls Tryz.prog 23 #[.pointer (some ⟨bA, 0, none⟩), .pointer (some ⟨bR, 0, none⟩), .agg o.cells] w fun e w' => e = .returned (.tuple #[]) ∧ Both w0 w' bA bR (elemO os 0 o.text []).1 := by
  obtain ⟨ns, F, G, hp⟩ := h
  have hW : ∀ ob, Below w.heap.size w (w.alloc ob) := fun ob => ((Below.refl _ w).alloc (Nat.le_refl _) ob)
  have H1 := hide (fun ob => element_sim (hp.more (hW ob)).ar hp.sim 0 o.text none 0 [] (nilAttrs _) (by simp))
  have HP := hide hp
  have HW := hide hW
  clear hp hW
  have HB := hide (opIn_box' (w := w) o (.int .i64 o.what))
  unfold OpE.cells
  rw [hw] at HB ⊢
  go_enter Tryz.func23, Tryz.ntmps23
  go_wp2_with (first
    | (go_at_call 50; refine ((unhide H1) _).mono ?_; rintro e w1 ⟨rfl, hu⟩; obtain ⟨Y1, ns1, F1, hp1, hG1, hn1⟩ := (unhide HP).prog' o (unhide HW _) (by simp) (unhide HB) hu; have HY1 := hide Y1; have t2 := Y1.2.2.2.2.1; have H2 := hide (refElement_sim hp1.rf 0 o.text none 0 [] (nilAttrs _) (by simp)); have HP1 := hide hp1; clear hu hp1 Y1)
    | (go_at_call 56; refine (unhide H2).mono ?_; rintro e w2 ⟨rfl, hu2⟩; obtain ⟨Y2, hB2⟩ := (unhide HP1).ref' o (unhide HY1) hG1 hn1 hu2; have HB2 := hide hB2; clear hu2 hB2 Y2))
  all_goals go_end0
  all_goals exact ⟨rfl, unhide HB2⟩

set_option maxRecDepth 100000 in
set_option maxHeartbeats 4000000 in
theorem raw_2 (h : Both w0 w bA bR os) (o : OpE) (hw : o.n = 2) :
    Calls Tryz.prog 23 #[.pointer (some ⟨bA, 0, none⟩), .pointer (some ⟨bR, 0, none⟩), .agg o.cells] w fun e w' => e = .returned (.tuple #[]) ∧ Both w0 w' bA bR (dataO os 2 o.text).1 := by
  obtain ⟨ns, F, G, hp⟩ := h
  have hW : ∀ ob, Below w.heap.size w (w.alloc ob) := fun ob => ((Below.refl _ w).alloc (Nat.le_refl _) ob)
  have H1 := hide (fun ob => text_sim (hp.more (hW ob)).ar hp.sim o.text)
  have HP := hide hp
  have HW := hide hW
  clear hp hW
  have HB := hide (opIn_box' (w := w) o (.int .i64 o.what))
  unfold OpE.cells
  rw [hw] at HB ⊢
  go_enter Tryz.func23, Tryz.ntmps23
  go_wp2_with (first
    | (go_at_call 47; refine ((unhide H1) _).mono ?_; rintro e w1 ⟨rfl, hu⟩; obtain ⟨Y1, ns1, F1, hp1, hG1, hn1⟩ := (unhide HP).prog' o (unhide HW _) (by simp) (unhide HB) hu; have HY1 := hide Y1; have t2 := Y1.2.2.2.2.1; have H2 := hide (refText_sim hp1.rf o.text); have HP1 := hide hp1; clear hu hp1 Y1)
    | (go_at_call 57; refine (unhide H2).mono ?_; rintro e w2 ⟨rfl, hu2⟩; obtain ⟨Y2, hB2⟩ := (unhide HP1).ref' o (unhide HY1) hG1 hn1 hu2; have HB2 := hide hB2; clear hu2 hB2 Y2))
  all_goals go_end0
  all_goals exact ⟨rfl, unhide HB2⟩

set_option maxRecDepth 100000 in
set_option maxHeartbeats 4000000 in
theorem raw_3 (h : Both w0 w bA bR os) (o : OpE) (hw : o.n = 3) :
    Calls Tryz.prog 23 #[.pointer (some ⟨bA, 0, none⟩), .pointer (some ⟨bR, 0, none⟩), .agg o.cells] w fun e w' => e = .returned (.tuple #[]) ∧ Both w0 w' bA bR (dataO os 3 o.text).1 := by
  obtain ⟨ns, F, G, hp⟩ := h
  have hW : ∀ ob, Below w.heap.size w (w.alloc ob) := fun ob => ((Below.refl _ w).alloc (Nat.le_refl _) ob)
  have H1 := hide (fun ob => comment_sim (hp.more (hW ob)).ar hp.sim o.text)
  have HP := hide hp
  have HW := hide hW
  clear hp hW
  have HB := hide (opIn_box' (w := w) o (.int .i64 o.what))
  unfold OpE.cells
  rw [hw] at HB ⊢
  go_enter Tryz.func23, Tryz.ntmps23
  go_wp2_with (first
    | (go_at_call 58; refine ((unhide H1) _).mono ?_; rintro e w1 ⟨rfl, hu⟩; obtain ⟨Y1, ns1, F1, hp1, hG1, hn1⟩ := (unhide HP).prog' o (unhide HW _) (by simp) (unhide HB) hu; have HY1 := hide Y1; have t2 := Y1.2.2.2.2.1; have H2 := hide (refComment_sim hp1.rf o.text); have HP1 := hide hp1; clear hu hp1 Y1)
    | (go_at_call 59; refine (unhide H2).mono ?_; rintro e w2 ⟨rfl, hu2⟩; obtain ⟨Y2, hB2⟩ := (unhide HP1).ref' o (unhide HY1) hG1 hn1 hu2; have HB2 := hide hB2; clear hu2 hB2 Y2))
  all_goals go_end0
  all_goals exact ⟨rfl, unhide HB2⟩

set_option maxRecDepth 100000 in
set_option maxHeartbeats 4000000 in
theorem raw_4 (h : Both w0 w bA bR os) (o : OpE) (hw : o.n = 4) :
    Calls Tryz.prog 23 #[.pointer (some ⟨bA, 0, none⟩), .pointer (some ⟨bR, 0, none⟩), .agg o.cells] w fun e w' => e = .returned (.tuple #[]) ∧ Both w0 w' bA bR (docO os o.text ⟨#[]⟩ ⟨#[]⟩).1 := by
  obtain ⟨ns, F, G, hp⟩ := h
  have hW : ∀ ob, Below w.heap.size w (w.alloc ob) := fun ob => ((Below.refl _ w).alloc (Nat.le_refl _) ob)
  have H1 := hide (fun ob => doctype_sim (hp.more (hW ob)).ar hp.sim o.text ⟨#[]⟩ ⟨#[]⟩)
  have HP := hide hp
  have HW := hide hW
  clear hp hW
  have HB := hide (opIn_box' (w := w) o (.int .i64 o.what))
  unfold OpE.cells
  rw [hw] at HB ⊢
  go_enter Tryz.func23, Tryz.ntmps23
  go_wp2_with (first
    | (go_at_call 60; refine ((unhide H1) _).mono ?_; rintro e w1 ⟨rfl, hu⟩; obtain ⟨Y1, ns1, F1, hp1, hG1, hn1⟩ := (unhide HP).prog' o (unhide HW _) (by simp) (unhide HB) hu; have HY1 := hide Y1; have t2 := Y1.2.2.2.2.1; have H2 := hide (refDoctype_sim hp1.rf o.text ⟨#[]⟩ ⟨#[]⟩); have HP1 := hide hp1; clear hu hp1 Y1)
    | (go_at_call 61; refine (unhide H2).mono ?_; rintro e w2 ⟨rfl, hu2⟩; obtain ⟨Y2, hB2⟩ := (unhide HP1).ref' o (unhide HY1) hG1 hn1 hu2; have HB2 := hide hB2; clear hu2 hB2 Y2))
  all_goals go_end0
  all_goals exact ⟨rfl, unhide HB2⟩

set_option maxRecDepth 100000 in
set_option maxHeartbeats 4000000 in
theorem raw_0 (h : Both w0 w bA bR os) (o : OpE) (h1 : ¬ o.n = 1) (h2 : ¬ o.n = 2) (h3 : ¬ o.n = 3) (h4 : ¬ o.n = 4) :
    Calls Tryz.prog 23 #[.pointer (some ⟨bA, 0, none⟩), .pointer (some ⟨bR, 0, none⟩), .agg o.cells] w fun e w' => e = .returned (.tuple #[]) ∧ Both w0 w' bA bR (fragO os).1 := by
  obtain ⟨ns, F, G, hp⟩ := h
  have hW : ∀ ob, Below w.heap.size w (w.alloc ob) := fun ob => ((Below.refl _ w).alloc (Nat.le_refl _) ob)
  have H1 := hide (fun ob => fragment_sim (hp.more (hW ob)).ar hp.sim)
  have HP := hide hp
  have HW := hide hW
  clear hp hW
  have HB := hide (opIn_box' (w := w) o (.int .i64 o.what))
  unfold OpE.cells
  have n1 : (o.n == 1) = false := by simpa using h1
  have n2 : (o.n == 2) = false := by simpa using h2
  have n3 : (o.n == 3) = false := by simpa using h3
  have n4 : (o.n == 4) = false := by simpa using h4
  go_enter Tryz.func23, Tryz.ntmps23
  go_wp2_with (first
    | (go_at_call 62; refine ((unhide H1) _).mono ?_; rintro e w1 ⟨rfl, hu⟩; obtain ⟨Y1, ns1, F1, hp1, hG1, hn1⟩ := (unhide HP).prog' o (unhide HW _) (by simp) (unhide HB) hu; have HY1 := hide Y1; have t2 := Y1.2.2.2.2.1; have H2 := hide (refFragment_sim hp1.rf); have HP1 := hide hp1; clear hu hp1 Y1)
    | (go_at_call 63; refine (unhide H2).mono ?_; rintro e w2 ⟨rfl, hu2⟩; obtain ⟨Y2, hB2⟩ := (unhide HP1).ref' o (unhide HY1) hG1 hn1 hu2; have HB2 := hide hB2; clear hu2 hB2 Y2))
  all_goals go_end0
  all_goals exact ⟨rfl, unhide HB2⟩

theorem raw_any (h : Both w0 w bA bR os) (o : OpE) :
    Calls Tryz.prog 23 #[.pointer (some ⟨bA, 0, none⟩), .pointer (some ⟨bR, 0, none⟩), .agg o.cells] w fun e w' => e = .returned (.tuple #[]) ∧ Both w0 w' bA bR (rawR os o) := by
  unfold rawR
  by_cases h1 : o.n = 1
  · rw [if_pos h1]; exact raw_1 h o h1
  rw [if_neg h1]
  by_cases h2 : o.n = 2
  · rw [if_pos h2]; exact raw_2 h o h2
  rw [if_neg h2]
  by_cases h3 : o.n = 3
  · rw [if_pos h3]; exact raw_3 h o h3
  rw [if_neg h3]
  by_cases h4 : o.n = 4
  · rw [if_pos h4]; exact raw_4 h o h4
  rw [if_neg h4]
  exact raw_0 h o h1 h2 h3 h4

set_option maxRecDepth 100000 in
set_option maxHeartbeats 4000000 in
theorem play_raw (h : Both w0 w bA bR os) (o : OpE) (hw : o.what = 0) :
    Calls Tryz.prog 9 #[.pointer (some ⟨bA, 0, none⟩), .pointer (some ⟨bR, 0, none⟩), .agg o.cells] w fun e w' => e = .returned (.bool true) ∧ Both w0 w' bA bR (rawR os o) := by
  have HM := hide (fun ob => raw_any (h.more ((Below.refl _ w).alloc (Nat.le_refl _) ob)) o)
  clear h
  unfold OpE.cells at HM ⊢
  rw [hw] at HM ⊢
  go_enter Tryz.func9, Tryz.ntmps9
  go_wp2_with (go_at_call 23; refine ((unhide HM) _).mono ?_; rintro e w1 ⟨rfl, hB⟩; have HB := hide hB; clear hB)
  go_ret
  exact ⟨rfl, unhide HB⟩
end
end Go.Proofs.YtnclnijlpchdnaaGreat

namespace Go.Proofs.YtnclnijlpchdnaaGreat
open Go.RowKit

section
variable {w0 w W w1 w2 : World} {bA bR : Nat} {os osR os1 : List OneM} {ns : List NodeM} {F G : Nat → Prop}
set_option maxRecDepth 100000 in
set_option maxHeartbeats 8000000 in
theorem play_insert (h : Both w0 w bA bR os) (h00 : K0 os) (o : OpE) (hw : o.what = 1) :
    Calls Tryz.prog 9 #[.pointer (some ⟨bA, 0, none⟩), .pointer (some ⟨bR, 0, none⟩), .agg o.cells] w fun e w' => e = .returned (.bool true) ∧ Both w0 w' bA bR (insR os o.a o.b o.c) := by
  obtain ⟨ns, F, G, hp⟩ := h
  have hW : ∀ ob, Below w.heap.size w (w.alloc ob).drew := fun ob => ((Below.refl _ w).alloc (Nat.le_refl _) ob).drew
  have H1 : Hid (∀ ob, Calls Tryz.prog 24 #[.pointer (some ⟨bA, 0, none⟩), .int .i64 o.a, .int .i64 o.b, .int .i64 o.c] (w.alloc ob).drew fun e w' => e = .returned (.int .i64 (mayE os o.a o.b o.c)) ∧ Below (w.alloc ob).drew.heap.size (w.alloc ob).drew w') := hide (fun ob => may_any (hp.more (hW ob)).ar hp.sim o.a o.b o.c)
  have H2 : Hid (∀ W, Below w.heap.size w W → Calls Tryz.prog 25 #[.pointer (some ⟨bR, 0, none⟩), .int .i64 o.a, .int .i64 o.b, .int .i64 o.c] W fun e w' => e = .returned (.int .i64 (mayE os o.a o.b o.c)) ∧ Below W.heap.size W w') := hide (fun W hb => refMay_any (hp.more hb).rf hp.sim h00 o.a o.b o.c)
  have H3 : Hid (∀ W, Below w.heap.size w W → Calls Tryz.prog 15 #[.pointer (some ⟨bA, 0, none⟩), .int .i64 o.a, .int .i64 o.b, .int .i64 o.c] W fun e w' => e = .returned (.int .i64 (mayE os o.a o.b o.c)) ∧ USim F W w' w0.heap.size bA (insR os o.a o.b o.c)) := hide (fun W hb => insert_any (hp.more hb).ar hp.sim o.a o.b o.c)
  have HP := hide hp
  have HSIM := hide hp.sim
  have H00 := hide h00
  have HW := hide hW
  clear hp hW h00
  unfold OpE.cells
  rw [hw]
  have HB := hide (opIn_box (w := w) o (.int .i64 1))
  obtain ⟨ev, hev⟩ : ∃ v, mayE os o.a o.b o.c = v := ⟨_, rfl⟩
  rw [hev] at H1 H2 H3
  have HEV := hide hev
  clear hev
  go_enter Tryz.func9, Tryz.ntmps9
  go_wp2_with fail
  go_region_held3 (fun w' => w'.cell? ⟨w.heap.size, 1, none⟩ = some (.int .i64 o.a) ∧ w'.cell? ⟨w.heap.size, 2, none⟩ = some (.int .i64 o.b) ∧ w'.cell? ⟨w.heap.size, 3, none⟩ = some (.int .i64 o.c)) (first | exact OpIn.q123 (unhide HB) | exact OpIn.q123 (unhide HY1) | exact OpIn.q123 (unhide HY2) | exact OpIn.q123 (unhide HY3) | exact OpIn.q123 (unhide HY4)) (first
    | (go_at_call 24; refine ((unhide H1) _).mono ?_; rintro e w1 ⟨rfl, hb1⟩; have HY1 := hide ((unhide HB).below hb1 (by simp)); have HB1 := hide ((unhide HW _).trans (hb1.mono (unhide HW _).size)); have hl1 : w.heap.size < w1.heap.size := Nat.lt_of_lt_of_le (by simp) hb1.size; clear hb1)
    | (go_at_call 25; refine ((unhide H2) _ (unhide HB1)).mono ?_; rintro e w2 ⟨rfl, hb2⟩; have HY2 := hide ((unhide HY1).below hb2 hl1); have HB2 := hide ((unhide HB1).trans (hb2.mono (unhide HB1).size)); have hl2 : w.heap.size < w2.heap.size := Nat.lt_of_lt_of_le hl1 hb2.size; clear hb2)
    | (go_at_call 15; refine ((unhide H3) _ (unhide HB2)).mono ?_; rintro e w3 ⟨rfl, hu⟩; obtain ⟨Y3, ns1, F1, hp1, hG1, hn1⟩ := (unhide HP).prog' o (unhide HB2) hl2 (unhide HY2) hu; have HY3 := hide Y3; have H4 := hide (refInsert_any hp1.rf (unhide HSIM) (unhide H00) o.a o.b o.c); rw [unhide HEV] at H4; have HP1 := hide hp1; clear hu hp1)
    | (go_at_call 26; refine (unhide H4).mono ?_; rintro e w4 ⟨rfl, hu2⟩; obtain ⟨Y4, hB4⟩ := (unhide HP1).ref' o (unhide HY3) hG1 hn1 hu2.1; have HY4 := hide Y4; have HB4 := hide hB4; clear hu2 hB4 Y4))
  all_goals go_wp2
  all_goals go_ret
  all_goals exact ⟨rfl, unhide HB4⟩
end
end Go.Proofs.YtnclnijlpchdnaaGreat

namespace Go.Proofs.YtnclnijlpchdnaaGreat
open Go.RowKit

def kinds (os : List OneM) : List Int := os.map (·.kind)
theorem kindO_kinds (os : List OneM) (i : Nat) : kindO os (i : Int) = ((kinds os)[i]?).getD (-1) := by
  unfold kindO kinds
  rw [Int.toNat_natCast, List.getElem?_map]
theorem K0.of {os os' : List OneM} (h : K0 os) {ext : List Int} (e : kinds os' = kinds os ++ ext) (h0 : (0 : Int) ∉ ext) : K0 os' := by
  intro i hi
  rw [kindO_kinds, e] at hi
  by_cases hl : i < (kinds os).length
  · rw [List.getElem?_append_left hl] at hi
    exact h i (by rw [kindO_kinds]; exact hi)
  · rw [List.getElem?_append_right (by omega)] at hi
    cases hx : ext[i - (kinds os).length]? with
    | none => rw [hx] at hi; simp at hi
    | some x =>
      rw [hx] at hi
      simp at hi
      subst hi
      exact absurd (List.mem_of_getElem? hx) h0
theorem kinds_modify (os : List OneM) (i : Nat) (f : OneM → OneM) (hf : ∀ o, (f o).kind = o.kind) : kinds (os.modify i f) = kinds os := by
  unfold kinds
  apply List.ext_getElem?
  intro j
  rw [List.getElem?_map, List.getElem?_map, List.getElem?_modify]
  cases os[j]? with
  | none => simp
  | some o =>
    by_cases e : i = j
    · simp [e, hf]
    · simp [e]
theorem kinds_link (os : List OneM) (p c b : Int) : kinds (linkR os p c b) = kinds os := by
  unfold linkR linkO
  split
  · rw [kinds_modify, kinds_modify]
    all_goals (intro o; rfl)
  · rfl
theorem kinds_unlink (os : List OneM) (c : Int) : kinds (unlinkR os c) = kinds os := by
  unfold unlinkR unlinkO
  split
  · rw [kinds_modify, kinds_modify]
    all_goals (intro o; rfl)
  · rfl
theorem kinds_put (p b : Int) (cs : List Nat) : ∀ os : List OneM, kinds (cs.foldl (putO p b) os) = kinds os := by
  induction cs with
  | nil => intro os; rfl
  | cons c cs ih =>
    intro os
    rw [List.foldl_cons, ih]
    unfold putO
    rw [kinds_link, kinds_unlink]
theorem kinds_ins (os : List OneM) (id p b : Int) : kinds (insR os id p b) = kinds os := by
  unfold insR
  split
  · exact kinds_put _ _ _ _
  · rfl
theorem kinds_app (os : List OneM) (p : Nat) (s : ByteArray) : kinds (appO os p (dataQ 2 s)) = kinds os ++ [2] := by
  unfold appO linkO
  rw [kinds_modify, kinds_modify]
  · simp [kinds, dataQ, oneM]
  all_goals (intro o; rfl)
/-- More nodes, none a document. -/
def Adds (os os' : List OneM) : Prop := ∃ ext, kinds os' = kinds os ++ ext ∧ (0 : Int) ∉ ext
theorem Adds.same {os os' : List OneM} (h : kinds os' = kinds os) : Adds os os' := ⟨[], by simp [h], by simp⟩
theorem adds_add (os : List OneM) (q : OneM) (h : q.kind ≠ 0) : Adds os (addO os q).1 := by
  unfold addO
  split
  · exact ⟨[q.kind], by simp [kinds], by simpa using fun e => h e.symm⟩
  · exact Adds.same rfl
theorem adds_elem (os : List OneM) (s : ByteArray) : Adds os (elemO os 0 s []).1 := by
  unfold elemO
  split
  · exact Adds.same rfl
  · split
    · exact Adds.same rfl
    · split
      · split
        · exact ⟨[1, 5], by simp [kinds, elemQ, oneM], by simp⟩
        · exact Adds.same rfl
      · exact adds_add os _ (by simp [elemQ, oneM])
theorem adds_data (os : List OneM) (k : Int) (s : ByteArray) (h : k ≠ 0) : Adds os (dataO os k s).1 := by
  unfold dataO
  split
  · exact Adds.same rfl
  · exact adds_add os _ (by simpa [dataQ, oneM] using h)
theorem adds_step (os : List OneM) (o : OpE) : Adds os (stepE os o) := by
  unfold stepE
  split
  · unfold rawR
    split
    · exact adds_elem os _
    · split
      · exact adds_data os 2 _ (by decide)
      · split
        · exact adds_data os 3 _ (by decide)
        · split
          · unfold docO
            split
            · exact Adds.same rfl
            · exact adds_add os _ (by simp [docQ, oneM])
          · exact adds_add os _ (by simp [oneM])
  · split
    · exact Adds.same (kinds_ins _ _ _ _)
    · split
      · exact Adds.same (kinds_unlink _ _)
      · split
        · unfold addTextO
          repeat' split
          all_goals first
            | exact Adds.same rfl
            | exact ⟨[2], kinds_app os _ o.text, by simp⟩
        · split
          · unfold addElemO
            repeat' split
            all_goals first
              | exact Adds.same rfl
              | (obtain ⟨ext, h1, h2⟩ := adds_elem os (lowS o.text); exact ⟨ext, by rw [kinds_link]; exact h1, h2⟩)
          · split
            · unfold edSetR setAttrR
              repeat' split
              all_goals first | exact Adds.same rfl | exact Adds.same (kinds_modify _ _ _ (fun _ => rfl))
            · split
              · unfold edDelR delAttrR
                repeat' split
                all_goals first | exact Adds.same rfl | exact Adds.same (kinds_modify _ _ _ (fun _ => rfl))
              · unfold setDataR
                split
                all_goals first | exact Adds.same rfl | exact Adds.same (kinds_modify _ _ _ (fun _ => rfl))
theorem k0_step {os : List OneM} (h : K0 os) (o : OpE) : K0 (stepE os o) := by
  obtain ⟨ext, h1, h2⟩ := adds_step os o
  exact h.of h1 h2

section
variable {w0 w : World} {bA bR : Nat} {os : List OneM}
theorem eplay_any (h : Both w0 w bA bR os) (h00 : K0 os) (o : OpE) (hm : o.text.size ≤ maxLen) :
    Calls Tryz.prog 9 #[.pointer (some ⟨bA, 0, none⟩), .pointer (some ⟨bR, 0, none⟩), .agg o.cells] w fun e w' => e = .returned (.bool true) ∧ Both w0 w' bA bR (stepE os o) := by
  unfold stepE
  by_cases h0 : o.what = 0
  · rw [if_pos h0]; exact play_raw h o h0
  rw [if_neg h0]
  by_cases h1 : o.what = 1
  · rw [if_pos h1]; exact play_insert h h00 o h1
  rw [if_neg h1]
  by_cases h2 : o.what = 2
  · rw [if_pos h2]; exact play_remove h o h2
  rw [if_neg h2]
  by_cases h3 : o.what = 3
  · rw [if_pos h3]; exact play_text h o h3
  rw [if_neg h3]
  by_cases h4 : o.what = 4
  · rw [if_pos h4]; exact play_elem h o hm h4
  rw [if_neg h4]
  by_cases h5 : o.what = 5
  · rw [if_pos h5]; exact play_set h o hm h5
  rw [if_neg h5]
  by_cases h6 : o.what = 6
  · rw [if_pos h6]; exact play_del h o hm h6
  rw [if_neg h6]
  exact play_dataE h o h0 h1 h2 h3 h4 h5 h6
end
end Go.Proofs.YtnclnijlpchdnaaGreat

namespace Go.Proofs.YtnclnijlpchdnaaGreat
open Go.ChangeShapes Go.WideShapes Go.ChangeAt Go.RowKit
open Go.ChangeMaps (open_string shut_string)

theorem list7 {α : Type} (l : List α) (h : l.length = 7) : ∃ a b c d e f g, l = [a, b, c, d, e, f, g] := by
  match l, h with
  | [a, b, c, d, e, f, g], _ => exact ⟨a, b, c, d, e, f, g, rfl⟩

/-- A script that came in, as the walks read it. -/
structure ScriptE (w : World) (a : Option Addr) (l : List OpE) : Prop where
  cells : ∀ (i : Nat) o, l[i]? = some o → ∃ b off, a = some ⟨b, off, none⟩ ∧ w.cell? ⟨b, off + i * 7, none⟩ = some (.int .i64 o.what) ∧ w.cell? ⟨b, off + i * 7 + 1, none⟩ = some (.int .i64 o.a) ∧ w.cell? ⟨b, off + i * 7 + 2, none⟩ = some (.int .i64 o.b) ∧ w.cell? ⟨b, off + i * 7 + 3, none⟩ = some (.int .i64 o.c) ∧ w.cell? ⟨b, off + i * 7 + 4, none⟩ = some (.int .i64 o.n) ∧ w.cell? ⟨b, off + i * 7 + 5, none⟩ = some (.string o.text) ∧ w.cell? ⟨b, off + i * 7 + 6, none⟩ = some (.string o.more)
  text : ∀ (i : Nat) o, l[i]? = some o → o.text.size ≤ maxLen
theorem ScriptE.below {w w1 : World} {a : Option Addr} {l : List OpE} (h : ScriptE w a l) (hb : Below w.heap.size w w1) : ScriptE w1 a l := by
  refine ⟨fun i o hi => ?_, h.text⟩
  obtain ⟨b, off, e, c0, c1, c2, c3, c4, c5, c6⟩ := h.cells i o hi
  have hlt : b < w.heap.size := World.block_lt_of_cell? w _ c0
  exact ⟨b, off, e, (hb.cell (p := ⟨b, off + i * 7, none⟩) hlt).trans c0, (hb.cell (p := ⟨b, off + i * 7 + 1, none⟩) hlt).trans c1, (hb.cell (p := ⟨b, off + i * 7 + 2, none⟩) hlt).trans c2, (hb.cell (p := ⟨b, off + i * 7 + 3, none⟩) hlt).trans c3, (hb.cell (p := ⟨b, off + i * 7 + 4, none⟩) hlt).trans c4, (hb.cell (p := ⟨b, off + i * 7 + 5, none⟩) hlt).trans c5, (hb.cell (p := ⟨b, off + i * 7 + 6, none⟩) hlt).trans c6⟩

section
variable {H : Type} {enc : TypeId × Value → H} {W : World} {spare : Nat → Bool} {held : Bool}

theorem addr_plain {x : Addr} {v : Value} (h : W.cell? (x.add 0) = some v) : ∃ b off, x = ⟨b, off, none⟩ := by
  obtain ⟨b, off, spot⟩ := x
  have hspot : spot = none := by simpa [Addr.add] using World.cell?_spot h
  exact ⟨b, off, by rw [hspot]⟩
theorem cells_get {x : Addr} {n : Nat} {cs : List Value} (h : W.cells? 0 x n = some cs) (j : Nat) (v : Value) (hj : cs[j]? = some v) : W.cell? (x.add j) = some v := by
  obtain ⟨_, hlen, hc⟩ := World.cells?_some h
  have hlt : j < cs.length := (List.getElem?_eq_some_iff.1 hj).1
  simp only [World.cells?, Nat.zero_le, if_true] at h
  have hjn : j < n := by omega
  have := mapM_some_get h j j (by simp [hjn])
  rw [this, hj]

/-- A call of a script: its seven cells. -/
theorem op_cells {fuel : Nat} {cs : List Value} {x : DataW H × List MemPlace} (h : DataW.trod enc Tryz.prog W 0 spare held fuel 29 cs = some x) :
    ∃ o : OpE, cs = o.cells.toList ∧ o.text.size ≤ maxLen := by
  have hc7 : Tryz.prog.cellsOf 29 = 7 := by kernel_rfl
  have hc3 : Tryz.prog.cellsOf 3 = 1 := by kernel_rfl
  have hc9 : Tryz.prog.cellsOf 9 = 1 := by kernel_rfl
  obtain ⟨xs, k, _, rfl, hl7, hxl, hfs⟩ := DataW.trod_struct Tryz.underlying29 h
  rw [hc7] at hl7
  obtain ⟨e0, e1, e2, e3, e4, e5, e6, rfl⟩ := list7 cs hl7
  have hx : xs.length = 7 := by simpa using hxl
  obtain ⟨y0, y1, y2, y3, y4, y5, y6, rfl⟩ := list7 xs hx
  have f0 := hfs 0 _ rfl
  have f1 := hfs 1 _ rfl
  have f2 := hfs 2 _ rfl
  have f3 := hfs 3 _ rfl
  have f4 := hfs 4 _ rfl
  have f5 := hfs 5 _ rfl
  have f6 := hfs 6 _ rfl
  simp [hc3, hc9] at f0 f1 f2 f3 f4 f5 f6
  obtain ⟨z0, g0, _, _⟩ := DataW.trod_int Tryz.underlying3 f0
  obtain ⟨z1, g1, _, _⟩ := DataW.trod_int Tryz.underlying3 f1
  obtain ⟨z2, g2, _, _⟩ := DataW.trod_int Tryz.underlying3 f2
  obtain ⟨z3, g3, _, _⟩ := DataW.trod_int Tryz.underlying3 f3
  obtain ⟨z4, g4, _, _⟩ := DataW.trod_int Tryz.underlying3 f4
  obtain ⟨z5, g5, _, hz5⟩ := DataW.trod_string Tryz.underlying9 f5
  obtain ⟨z6, g6, _, _⟩ := DataW.trod_string Tryz.underlying9 f6
  simp at g0 g1 g2 g3 g4 g5 g6
  subst g0 g1 g2 g3 g4 g5 g6
  exact ⟨⟨z0, z1, z2, z3, z4, z5, z6⟩, rfl, hz5⟩

/-- A script that came in. -/
theorem scriptE_open {a : Option Addr} {len cap : Nat} {d : DataW H} {ps : List MemPlace}
    (h : DataW.Trod enc Tryz.prog W 0 spare held 22 (.slice a len cap) d ps) : ∃ l : List OpE, l.length = len ∧ ScriptE W a l ∧ len ≤ maxLen := by
  obtain ⟨fuel, hf⟩ := h
  rcases Go.Deep.open_slice Tryz.underlying22 hf with ⟨hcs, _⟩ | ⟨x, l, c, m, n, D, Pl, hcs, _, hlc, hcm, hm, hx, hel⟩
  · simp [Value.cells] at hcs
    obtain ⟨rfl, rfl, rfl⟩ := hcs
    exact ⟨[], rfl, ⟨fun i x hi => by simp at hi, fun i x hi => by simp at hi⟩, by simp⟩
  · simp [Value.cells] at hcs
    obtain ⟨rfl, rfl, rfl⟩ := hcs
    have hc7 : Tryz.prog.cellsOf 29 = 7 := by kernel_rfl
    have hlm : len ≤ m := by rw [hm]; split <;> omega
    have one : ∀ i, i < len → ∃ o : OpE, (∃ b off, x = ⟨b, off, none⟩ ∧ ∀ j v, o.cells.toList[j]? = some v → W.cell? ⟨b, off + i * 7 + j, none⟩ = some v) ∧ o.text.size ≤ maxLen := by
      intro i hi
      obtain ⟨cs', hcs', htr⟩ := hel i (by omega)
      rw [hc7] at hcs'
      obtain ⟨o, rfl, hw⟩ := op_cells htr
      refine ⟨o, ?_, hw⟩
      obtain ⟨i0, hi0⟩ : ∃ i0 : Nat, i0 = 0 := ⟨0, rfl⟩
      obtain ⟨cs0, hcs0, htr0⟩ := hel i0 (by omega)
      rw [hc7] at hcs0
      obtain ⟨o', rfl, _⟩ := op_cells htr0
      have p0 := cells_get hcs0 0 _ rfl
      rw [Go.Deep.add_add, show i0 * 7 + 0 = 0 by omega] at p0
      obtain ⟨b, off, rfl⟩ := addr_plain p0
      have ad : ∀ k, (⟨b, off, none⟩ : Addr).add k = ⟨b, off + k, none⟩ := fun k => by unfold Addr.add; split <;> simp_all
      refine ⟨b, off, rfl, fun j v hj => ?_⟩
      have := cells_get hcs' j v hj
      rw [Go.Deep.add_add, ad] at this
      rw [Nat.add_assoc]
      exact this
    obtain ⟨f, hf'⟩ : ∃ f : Nat → OpE, ∀ i, i < len → (∃ b off, x = ⟨b, off, none⟩ ∧ ∀ j v, (f i).cells.toList[j]? = some v → W.cell? ⟨b, off + i * 7 + j, none⟩ = some v) ∧ (f i).text.size ≤ maxLen := by
      have : Inhabited OpE := ⟨⟨0, 0, 0, 0, 0, ⟨#[]⟩, ⟨#[]⟩⟩⟩
      exact Go.Deep.choose_lt one
    have get : ∀ (i : Nat) y, ((List.range len).map f)[i]? = some y → i < len ∧ f i = y := by
      intro i y hi
      have hlt : i < len := by have := (List.getElem?_eq_some_iff.1 hi).1; simpa using this
      exact ⟨hlt, by simpa [hlt] using hi⟩
    refine ⟨(List.range len).map f, by simp, ⟨fun i y hi => ?_, fun i y hi => ?_⟩, by omega⟩
    · obtain ⟨hlt, rfl⟩ := get i y hi
      obtain ⟨⟨b, off, rfl, hc⟩, _⟩ := hf' i hlt
      exact ⟨b, off, rfl, hc 0 _ rfl, hc 1 _ rfl, hc 2 _ rfl, hc 3 _ rfl, hc 4 _ rfl, hc 5 _ rfl, hc 6 _ rfl⟩
    · obtain ⟨hlt, rfl⟩ := get i y hi
      exact (hf' i hlt).2
end
end Go.Proofs.YtnclnijlpchdnaaGreat
