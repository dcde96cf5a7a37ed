import Derived.Test.YtmllhebmaldgfaaQRe
import Derived.Test.YtmllhebmaldgfaaNe
import Derived.Test.YtmllhebmaldgfaaQKp
/-
  The document's tables of names; what a border reads.
-/
namespace Go.Proofs.Ytmllhebmaldgfaa
open Go.RowKit Go.Great

theorem rMath_any (w : World) : Calls Try.prog 108 #[] w fun e w' => e = .returned (.slice (some ⟨w.heap.size, 0, none⟩) 6 6) ∧ TabAt w' w.heap.size mathT ∧ Below w.heap.size w w' := by
  go_enter Try.func108, Try.ntmps108
  go_wp2
  go_ret
  exact ⟨rfl, tab_new w mathT _, below_new _ _⟩
theorem rDrawn_any (w : World) : Calls Try.prog 109 #[] w fun e w' => e = .returned (.slice (some ⟨w.heap.size, 0, none⟩) 3 3) ∧ TabAt w' w.heap.size svgT ∧ Below w.heap.size w w' := by
  go_enter Try.func109, Try.ntmps109
  go_wp2
  go_ret
  exact ⟨rfl, tab_new w svgT _, below_new _ _⟩
theorem rSpecials_any (w : World) : Calls Try.prog 110 #[] w fun e w' => e = .returned (.slice (some ⟨w.heap.size, 0, none⟩) 83 83) ∧ TabAt w' w.heap.size specT ∧ Below w.heap.size w w' := by
  go_enter Try.func110, Try.ntmps110
  apply wp_seq_k; intro K0 hK0
  have HK0 := hide hK0
  clear hK0
  go_wp2
  refine (unhide HK0) _ _ ?_
  apply wp_seq_k; intro K1 hK1
  apply wp_region_lit
  refine wpList_buildSliceTo rfl 126 9 83 _ rfl w.heap.size rfl (some 1) rfl (by kernel_rfl) (sRow specT) (by kernel_rfl) ?_
  refine wpList_readTo rfl (some 0) rfl (.slice (some ⟨w.heap.size, 0, none⟩) 83 83) (by rfl) ?_
  apply wpList_nil
  refine hK1 _ _ ?_
  go_wp2
  go_ret
  exact ⟨rfl, tab_new w specT _, below_new _ _⟩

def optT : List ByteArray := [optgroupB, optionB]
def listT : List ByteArray := [olB, ulB]
section
variable {w : World} {base bW bR : Nat} {ks : List Key} {L : List Int}
/-- What an answer of the document's reads of an element: all ten cells. -/
theorem LiveR.whole (h : LiveR w base bW bR ks L) {id : Int} {c : Cal} (hc : elOf ks id = some c) :
    ∃ (i g cap n : Nat) (k : Int) (r : OneM) (aa : Option Addr) (an ac : Nat) (ka : Option Addr) (kn kc : Nat), id = (i : Int) ∧ w.cell? ⟨bW, 0, none⟩ = some (.pointer (some ⟨bR, 0, none⟩)) ∧ w.cell? ⟨bR, 0, none⟩ = some (.slice (some ⟨g, 0, none⟩) n cap) ∧ i < n ∧ n ≤ 32768 ∧
      w.cell? ⟨g, i * 10, none⟩ = some (.int .i64 k) ∧ w.cell? ⟨g, i * 10 + 1, none⟩ = some (.int .i64 c.space) ∧ w.cell? ⟨g, i * 10 + 2, none⟩ = some (.string c.name) ∧ w.cell? ⟨g, i * 10 + 3, none⟩ = some (.slice aa an ac) ∧ w.cell? ⟨g, i * 10 + 4, none⟩ = some (.string r.data) ∧
      w.cell? ⟨g, i * 10 + 5, none⟩ = some (.string r.system) ∧ w.cell? ⟨g, i * 10 + 6, none⟩ = some (.int .i64 r.inner) ∧ w.cell? ⟨g, i * 10 + 7, none⟩ = some (.int .i64 r.host) ∧ w.cell? ⟨g, i * 10 + 8, none⟩ = some (.int .i64 r.up) ∧ w.cell? ⟨g, i * 10 + 9, none⟩ = some (.slice ka kn kc) := by
  obtain ⟨⟨FA, ha⟩, F, p, hs, _, _⟩ := h
  cases hk : keyAt ks id with
  | none => rw [elOf_none hk] at hc; cases hc
  | some q =>
    have e := elOf_key hk
    rw [hc] at e
    split at e
    · cases e
      obtain ⟨i, rfl, hi⟩ := keyAt_some hk
      obtain ⟨g, cap, av, kv, r, aa, an, ac, ka, kn, kc, rfl, rfl, cR, hlt, c0, c1, c2, c3, c4, c5, c6, c7, c8, c9⟩ := ha.open hi
      exact ⟨i, g, cap, _, _, r, aa, an, ac, ka, kn, kc, rfl, hs.cells.1, cR, hlt, ha.most, c0, c1, c2, c3, c4, c5, c6, c7, c8, c9⟩
    · cases e
theorem tab_2nd (w : World) (o1 o3 : Obj) (l : List ByteArray) (t : TypeId) : TabAt (((w.alloc o1).alloc (.cells (sRow l) t)).alloc o3) (w.heap.size + 1) l := by
  have h := (tab_new (w.alloc o1) l t).below (below_new _ o3)
  rw [World.size_alloc] at h
  exact h
theorem tab_3rd (w : World) (o1 o2 : Obj) (l : List ByteArray) (t : TypeId) : TabAt (((w.alloc o1).alloc o2).alloc (.cells (sRow l) t)) (w.heap.size + 2) l := by
  have h := tab_new ((w.alloc o1).alloc o2) l t
  rw [World.size_alloc, World.size_alloc] at h
  exact h
theorem LiveR.of (h : LiveR w base bW bR ks L) {id : Int} {c : Cal} (hc : elOf ks id = some c) {W w1 : World} (hW : Below w.heap.size w W) (hb : Below W.heap.size W w1) (l : List ByteArray) (hl : l.length ≤ 1000) (b : Nat) (ht : TabAt w1 b l) :
    Calls Try.prog 90 #[.pointer (some ⟨bW, 0, none⟩), .int .i64 id, .slice (some ⟨b, 0, none⟩) l.length l.length] w1 fun e w' => e = .returned (.bool (amongM c 0 l)) ∧ Below W.heap.size W w' := by
  refine (rOf_any (h.below (hW.trans (hb.mono hW.size))) id l hl b ht).mono ?_
  rintro e w' ⟨rfl, rfl⟩
  have ec : calOf ks id = c := by unfold calOf; rw [hc]; rfl
  rw [hc, ec]
  exact ⟨by simp, hb⟩
theorem LiveR.named (h : LiveR w base bW bR ks L) {id : Int} {c : Cal} (hc : elOf ks id = some c) {W w1 : World} (hW : Below w.heap.size w W) (hb : Below W.heap.size W w1) (n : ByteArray) :
    Calls Try.prog 103 #[.pointer (some ⟨bW, 0, none⟩), .int .i64 id, .string n] w1 fun e w' => e = .returned (.bool (namedM c n)) ∧ Below W.heap.size W w' := by
  refine (rNamed_any (h.below (hW.trans (hb.mono hW.size))) id n).mono ?_
  rintro e w' ⟨rfl, rfl⟩
  have ec : calOf ks id = c := by unfold calOf; rw [hc]; rfl
  rw [hc, ec]
  exact ⟨by simp, hb⟩
theorem in_table (W : World) (l : List ByteArray) (hl : l.length ≤ 1000) (n : ByteArray) (b : Nat) (w1 : World) (hb : Below W.heap.size W w1) (ht : TabAt w1 b l) : Calls Try.prog 107 #[.slice (some ⟨b, 0, none⟩) l.length l.length, .string n] w1 fun e w' => e = .returned (.bool (hasT l n)) ∧ Below W.heap.size W w' := by
  refine (rIn_any l hl n b ht).mono ?_
  rintro e w' ⟨rfl, rfl⟩
  exact ⟨rfl, hb⟩

theorem lt_cell {b o : Nat} {v : Value} (h : w.cell? ⟨b, o, none⟩ = some v) : b < w.heap.size := by
  unfold World.cell? at h
  cases hb : w.heap[b]? with
  | none => simp [hb] at h
  | some x => exact (Array.getElem?_eq_some_iff.1 hb).1
/-- What the last of a border's answers reads. -/
structure Fin3 (w W : World) (bW bR : Nat) (cs : Int) (cn : ByteArray) : Prop where
  b : Below w.heap.size w W
  lt : w.heap.size + 3 ≤ W.heap.size
  t : TabAt W (w.heap.size + 1 + 1) bordT
  x1 : W.cell? ⟨w.heap.size, 1, none⟩ = some (.int .i64 cs)
  x2 : W.cell? ⟨w.heap.size, 2, none⟩ = some (.string cn)
  y0 : W.cell? ⟨bW, 0, none⟩ = some (.pointer (some ⟨bR, 0, none⟩))
variable {W w1 : World} {cs : Int} {cn : ByteArray}
theorem Fin3.below (f : Fin3 w W bW bR cs cn) (hb : Below W.heap.size W w1) : Fin3 w w1 bW bR cs cn :=
  ⟨f.b.trans (hb.mono f.b.size), Nat.le_trans f.lt hb.size, f.t.below hb, (hb.cell (p := ⟨w.heap.size, 1, none⟩) (by have := f.lt; show w.heap.size < W.heap.size; omega)).trans f.x1, (hb.cell (p := ⟨w.heap.size, 2, none⟩) (by have := f.lt; show w.heap.size < W.heap.size; omega)).trans f.x2, (hb.cell (p := ⟨bW, 0, none⟩) (lt_cell f.y0)).trans f.y0⟩
theorem Fin3.ofB (f : Fin3 w W bW bR cs cn) (h : LiveR w base bW bR ks L) {id : Int} {c : Cal} (hc : elOf ks id = some c) :
    Calls Try.prog 90 #[.pointer (some ⟨bW, 0, none⟩), .int .i64 id, .slice (some ⟨w.heap.size + 1 + 1, 0, none⟩) 9 9] W fun e w' => e = .returned (.bool (amongM c 0 bordT)) ∧ Fin3 w w' bW bR cs cn := by
  refine (h.of hc f.b (Below.refl _ _) bordT (by decide) _ f.t).mono ?_
  rintro e w' ⟨rfl, hb⟩
  exact ⟨rfl, f.below hb⟩
theorem Fin3.mathB (f : Fin3 w W bW bR cs cn) : Calls Try.prog 108 #[] W fun e w' => ∃ b, e = .returned (.slice (some ⟨b, 0, none⟩) 6 6) ∧ TabAt w' b mathT ∧ Fin3 w w' bW bR cs cn := by
  refine (rMath_any W).mono ?_
  rintro e w' ⟨rfl, ht, hb⟩
  exact ⟨_, rfl, ht, f.below hb⟩
theorem Fin3.drawnB (f : Fin3 w W bW bR cs cn) : Calls Try.prog 109 #[] W fun e w' => ∃ b, e = .returned (.slice (some ⟨b, 0, none⟩) 3 3) ∧ TabAt w' b svgT ∧ Fin3 w w' bW bR cs cn := by
  refine (rDrawn_any W).mono ?_
  rintro e w' ⟨rfl, ht, hb⟩
  exact ⟨_, rfl, ht, f.below hb⟩
theorem Fin3.inB (f : Fin3 w W bW bR cs cn) (l : List ByteArray) (hl : l.length ≤ 1000) (n : ByteArray) (b : Nat) (ht : TabAt W b l) : Calls Try.prog 107 #[.slice (some ⟨b, 0, none⟩) l.length l.length, .string n] W fun e w' => e = .returned (.bool (hasT l n)) ∧ Fin3 w w' bW bR cs cn := by
  refine (rIn_any l hl n b ht).mono ?_
  rintro e w' ⟨rfl, rfl⟩
  exact ⟨rfl, f⟩
end
end Go.Proofs.Ytmllhebmaldgfaa
/-
  The document's stack: is an element a border of a scope?
-/
namespace Go.Proofs.Ytmllhebmaldgfaa
open Go.RowKit

section
variable {w : World} {base bW bR : Nat} {ks : List Key} {L : List Int}
theorem list_none {c : Cal} (h : amongM c 0 listT = false) : namedM c olB = false ∧ namedM c ulB = false := by
  unfold namedM amongM hasT listT at *
  cases hc : c.space == 0 <;> simp_all
theorem list_some {c : Cal} (h : amongM c 0 listT = true) : (namedM c olB || namedM c ulB) = true := by
  unfold namedM amongM hasT listT at *
  cases hc : c.space == 0 <;> simp_all
theorem plain_f {c : Cal} (q1 : (c.space == 1) = false) (q2 : (c.space == 2) = false) (hr : amongM c 0 bordT = false) : plainM c = false := by
  unfold plainM foreignM
  rw [hr]
  simp [amongM, q1, q2]
set_option maxHeartbeats 4000000 in
theorem rborder_3 (h : LiveR w base bW bR ks L) {id : Int} {c : Cal} (hc : elOf ks id = some c) : Calls Try.prog 104 #[.pointer (some ⟨bW, 0, none⟩), .int .i64 id, .int .i64 3] w fun e w' => e = .returned (.bool (borderM c 3)) ∧ Below w.heap.size w w' := by
  obtain ⟨i, g, cap, n, qk, r, aa, an, ac, ka, kn, kc, rfl, d0, dR, hlt, hm, c0, c1, c2, c3, c4, c5, c6, c7, c8, c9⟩ := h.whole hc
  have hltz : (i : Int) < (n : Int) := by omega
  have hmz : (n : Int) ≤ 32768 := by omega
  obtain ⟨cs, cn⟩ := c
  simp only at *
  have HH := hide h
  have HC := hide hc
  have hb3 : Below w.heap.size w (((w.alloc (.cells #[.int .i64 qk, .int .i64 cs, .string cn, .slice aa an ac, .string r.data, .string r.system, .int .i64 r.inner, .int .i64 r.host, .int .i64 r.up, .slice ka kn kc] 129)).alloc (.cells (sRow tblT) 9)).alloc (.cells (sRow bordT) 9)) := below3 _ _ _ _
  have ht2 : TabAt (((w.alloc (.cells #[.int .i64 qk, .int .i64 cs, .string cn, .slice aa an ac, .string r.data, .string r.system, .int .i64 r.inner, .int .i64 r.host, .int .i64 r.up, .slice ka kn kc] 129)).alloc (.cells (sRow tblT) 9)).alloc (.cells (sRow bordT) 9)) (w.heap.size + 1) tblT := tab_2nd _ _ _ _ _
  have ht3 : TabAt (((w.alloc (.cells #[.int .i64 qk, .int .i64 cs, .string cn, .slice aa an ac, .string r.data, .string r.system, .int .i64 r.inner, .int .i64 r.host, .int .i64 r.up, .slice ka kn kc] 129)).alloc (.cells (sRow tblT) 9)).alloc (.cells (sRow bordT) 9)) (w.heap.size + 1 + 1) bordT := tab_3rd _ _ _ _ _
  have hsz : (((w.alloc (.cells #[.int .i64 qk, .int .i64 cs, .string cn, .slice aa an ac, .string r.data, .string r.system, .int .i64 r.inner, .int .i64 r.host, .int .i64 r.up, .slice ka kn kc] 129)).alloc (.cells (sRow tblT) 9)).alloc (.cells (sRow bordT) 9)).heap.size = w.heap.size + 3 := by simp
  have hx1 : (((w.alloc (.cells #[.int .i64 qk, .int .i64 cs, .string cn, .slice aa an ac, .string r.data, .string r.system, .int .i64 r.inner, .int .i64 r.host, .int .i64 r.up, .slice ka kn kc] 129)).alloc (.cells (sRow tblT) 9)).alloc (.cells (sRow bordT) 9)).cell? ⟨w.heap.size, 1, none⟩ = some (.int .i64 cs) := by
    rw [(below2 _ _ _).cell (p := ⟨w.heap.size, 1, none⟩) (by simp)]
    exact cell_row _ w.heap.size 1 _ _ _ (heap_alloc_new w _)
  have hx2 : (((w.alloc (.cells #[.int .i64 qk, .int .i64 cs, .string cn, .slice aa an ac, .string r.data, .string r.system, .int .i64 r.inner, .int .i64 r.host, .int .i64 r.up, .slice ka kn kc] 129)).alloc (.cells (sRow tblT) 9)).alloc (.cells (sRow bordT) 9)).cell? ⟨w.heap.size, 2, none⟩ = some (.string cn) := by
    rw [(below2 _ _ _).cell (p := ⟨w.heap.size, 2, none⟩) (by simp)]
    exact cell_row _ w.heap.size 2 _ _ _ (heap_alloc_new w _)
  have hy0 : (((w.alloc (.cells #[.int .i64 qk, .int .i64 cs, .string cn, .slice aa an ac, .string r.data, .string r.system, .int .i64 r.inner, .int .i64 r.host, .int .i64 r.up, .slice ka kn kc] 129)).alloc (.cells (sRow tblT) 9)).alloc (.cells (sRow bordT) 9)).cell? ⟨bW, 0, none⟩ = some (.pointer (some ⟨bR, 0, none⟩)) := (hb3.cell (p := ⟨bW, 0, none⟩) (lt_cell d0)).trans d0
  have hund : undef = Value.tuple #[] := rfl
  have HB3 := hide hb3
  have HT2 := hide ht2
  have e0 : borderM ⟨cs, cn⟩ 3 = amongM ⟨cs, cn⟩ 0 tblT := rfl
  rw [e0]
  clear h hc hb3 ht2 ht3 hsz hx1 hx2 hy0 e0
  go_enter Try.func104, Try.ntmps104
  go_wp2_with (go_at_call 90; refine ((unhide HH).of (unhide HC) (unhide HB3) (Below.refl _ _) tblT (by decide) (w.heap.size + 1) (unhide HT2)).mono ?_; rintro e w1 ⟨rfl, hb⟩; have HB := hide hb; clear hb)
  go_ret
  exact ⟨rfl, (unhide HB3).trans ((unhide HB).mono (unhide HB3).size)⟩
set_option maxHeartbeats 4000000 in
theorem rborder_4 (h : LiveR w base bW bR ks L) {id : Int} {c : Cal} (hc : elOf ks id = some c) : Calls Try.prog 104 #[.pointer (some ⟨bW, 0, none⟩), .int .i64 id, .int .i64 4] w fun e w' => e = .returned (.bool (borderM c 4)) ∧ Below w.heap.size w w' := by
  obtain ⟨i, g, cap, n, qk, r, aa, an, ac, ka, kn, kc, rfl, d0, dR, hlt, hm, c0, c1, c2, c3, c4, c5, c6, c7, c8, c9⟩ := h.whole hc
  have hltz : (i : Int) < (n : Int) := by omega
  have hmz : (n : Int) ≤ 32768 := by omega
  obtain ⟨cs, cn⟩ := c
  simp only at *
  have HH := hide h
  have HC := hide hc
  have hb3 : Below w.heap.size w (((w.alloc (.cells #[.int .i64 qk, .int .i64 cs, .string cn, .slice aa an ac, .string r.data, .string r.system, .int .i64 r.inner, .int .i64 r.host, .int .i64 r.up, .slice ka kn kc] 129)).alloc (.cells (sRow tblT) 9)).alloc (.cells (sRow bordT) 9)) := below3 _ _ _ _
  have ht2 : TabAt (((w.alloc (.cells #[.int .i64 qk, .int .i64 cs, .string cn, .slice aa an ac, .string r.data, .string r.system, .int .i64 r.inner, .int .i64 r.host, .int .i64 r.up, .slice ka kn kc] 129)).alloc (.cells (sRow tblT) 9)).alloc (.cells (sRow bordT) 9)) (w.heap.size + 1) tblT := tab_2nd _ _ _ _ _
  have ht3 : TabAt (((w.alloc (.cells #[.int .i64 qk, .int .i64 cs, .string cn, .slice aa an ac, .string r.data, .string r.system, .int .i64 r.inner, .int .i64 r.host, .int .i64 r.up, .slice ka kn kc] 129)).alloc (.cells (sRow tblT) 9)).alloc (.cells (sRow bordT) 9)) (w.heap.size + 1 + 1) bordT := tab_3rd _ _ _ _ _
  have hsz : (((w.alloc (.cells #[.int .i64 qk, .int .i64 cs, .string cn, .slice aa an ac, .string r.data, .string r.system, .int .i64 r.inner, .int .i64 r.host, .int .i64 r.up, .slice ka kn kc] 129)).alloc (.cells (sRow tblT) 9)).alloc (.cells (sRow bordT) 9)).heap.size = w.heap.size + 3 := by simp
  have hx1 : (((w.alloc (.cells #[.int .i64 qk, .int .i64 cs, .string cn, .slice aa an ac, .string r.data, .string r.system, .int .i64 r.inner, .int .i64 r.host, .int .i64 r.up, .slice ka kn kc] 129)).alloc (.cells (sRow tblT) 9)).alloc (.cells (sRow bordT) 9)).cell? ⟨w.heap.size, 1, none⟩ = some (.int .i64 cs) := by
    rw [(below2 _ _ _).cell (p := ⟨w.heap.size, 1, none⟩) (by simp)]
    exact cell_row _ w.heap.size 1 _ _ _ (heap_alloc_new w _)
  have hx2 : (((w.alloc (.cells #[.int .i64 qk, .int .i64 cs, .string cn, .slice aa an ac, .string r.data, .string r.system, .int .i64 r.inner, .int .i64 r.host, .int .i64 r.up, .slice ka kn kc] 129)).alloc (.cells (sRow tblT) 9)).alloc (.cells (sRow bordT) 9)).cell? ⟨w.heap.size, 2, none⟩ = some (.string cn) := by
    rw [(below2 _ _ _).cell (p := ⟨w.heap.size, 2, none⟩) (by simp)]
    exact cell_row _ w.heap.size 2 _ _ _ (heap_alloc_new w _)
  have hy0 : (((w.alloc (.cells #[.int .i64 qk, .int .i64 cs, .string cn, .slice aa an ac, .string r.data, .string r.system, .int .i64 r.inner, .int .i64 r.host, .int .i64 r.up, .slice ka kn kc] 129)).alloc (.cells (sRow tblT) 9)).alloc (.cells (sRow bordT) 9)).cell? ⟨bW, 0, none⟩ = some (.pointer (some ⟨bR, 0, none⟩)) := (hb3.cell (p := ⟨bW, 0, none⟩) (lt_cell d0)).trans d0
  have hund : undef = Value.tuple #[] := rfl
  have HB3 := hide hb3
  have e0 : borderM ⟨cs, cn⟩ 4 = !amongM ⟨cs, cn⟩ 0 optT := by
    unfold borderM namedM optT amongM hasT
    cases cs == 0 <;> simp
  rw [e0]
  clear h hc hb3 ht2 ht3 hsz hx1 hx2 hy0 e0
  go_enter Try.func104, Try.ntmps104
  go_wp2_with (go_at_call 90; refine ((unhide HH).of (unhide HC) ((unhide HB3).alloc (unhide HB3).size (.cells (sRow optT) 9)) (Below.refl _ _) optT (by decide) (w.heap.size + 1 + 1 + 1) (by have := tab_new (((w.alloc (.cells #[.int .i64 qk, .int .i64 cs, .string cn, .slice aa an ac, .string r.data, .string r.system, .int .i64 r.inner, .int .i64 r.host, .int .i64 r.up, .slice ka kn kc] 129)).alloc (.cells (sRow tblT) 9)).alloc (.cells (sRow bordT) 9)) optT 9; simpa using this)).mono ?_; rintro e w1 ⟨rfl, hb⟩; have HB := hide hb; clear hb)
  go_ret
  exact ⟨rfl, ((unhide HB3).alloc (unhide HB3).size _).trans ((unhide HB).mono ((unhide HB3).alloc (unhide HB3).size _).size)⟩
end
end Go.Proofs.Ytmllhebmaldgfaa
