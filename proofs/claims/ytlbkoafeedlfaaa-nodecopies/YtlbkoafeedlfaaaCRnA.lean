/-
  The law's ints and alike, and the document's Node as a call.
-/
import Derived.Test.YtlbkoafeedlfaaaCRf5
import Derived.Deep.LoopGhost
import Derived.Deep.QuietTactic
import Derived.BigQuiet
import Derived.Test.YtlbkoafeedlfaaaCPlay
namespace Go.Proofs.Ytlbkoafeedlfaaa
open Go.RowKit

theorem below_drewN' {B : Nat} {a w : World} (h : Below B a w) (n : Nat) : Below B a (w.drewN n) := ⟨h.os, h.tape, h.output, h.size, h.block⟩

set_option maxHeartbeats 1000000 in
theorem ints_any {w : World} (a b : Option Addr) (ca cb : Nat) (l : List Nat) (ha : IntsIn w a l) (hb : IntsIn w b l) (hl : l.length ≤ 32768) :
    Calls Try.prog 49 #[.slice a l.length ca, .slice b l.length cb] w fun e w' => e = .returned (.bool true) ∧ Below w.heap.size w w' := by
  have HA := hide ha
  have HB := hide hb
  clear ha hb
  go_enter Try.func49, Try.ntmps49
  go_wp2
  go_loopg [5] l.length (fun k s wx => ∃ j : Nat, s = .int .i64 j ∧ j + k = l.length ∧ Below w.heap.size w wx)
  case atStart => exact ⟨0, rfl, by omega, Below.refl _ _⟩
  case round =>
    obtain ⟨j, rfl, hjk, hb⟩ := hrel
    by_cases hj : j < l.length
    · have hx : l[j]? = some l[j] := List.getElem?_eq_getElem hj
      have hjz : (j : Int) < (l.length : Int) := by omega
      obtain ⟨ba, oa, rfl, da⟩ := ((unhide HA).below hb).cells j _ hx
      obtain ⟨bb, ob, rfl, db⟩ := ((unhide HB).below hb).cells j _ hx
      generalize l[j] = x at da db hx
      have HBW := hide hb
      clear hx hb
      go_wp2
      go_quiet (fail)
      go_wp2
      go_roundg (gk - 1)
      case measure => omega
      case rel => exact ⟨j + 1, by go_num, by omega, below_drewN' (unhide HBW) _⟩
    · have hjz : ¬ (j : Int) < (l.length : Int) := by omega
      go_wp2
      go_ret
      exact ⟨rfl, hb⟩

set_option maxHeartbeats 4000000 in
set_option maxRecDepth 10000 in
theorem alike_any {w : World} (a b : Option Addr) (ca cb : Nat) (l : List AttrM) (ha : AttrsIn w a l) (hb : AttrsIn w b l) (hl : l.length ≤ 1024) (v0 v1 v6 v7 v8 v9 v10 v11 : Int) (v2 v4 v5 : ByteArray) :
    Calls Try.prog 48 #[.agg #[.int .i64 v0, .int .i64 v1, .string v2, .slice a l.length ca, .string v4, .string v5, .int .i64 v6, .int .i64 v7, .int .i64 v8, .int .i64 v9, .int .i64 v10, .int .i64 v11],
      .agg #[.int .i64 v0, .int .i64 v1, .string v2, .slice b l.length cb, .string v4, .string v5, .int .i64 v6, .int .i64 v7, .int .i64 v8, .int .i64 v9, .int .i64 v10, .int .i64 v11]] w fun e w' => e = .returned (.bool true) ∧ Below w.heap.size w w' := by
  have HA := hide ha
  have HB := hide hb
  clear ha hb
  go_enter Try.func48, Try.ntmps48
  go_wp2
  go_loopg [5] l.length (fun k s wx => ∃ j : Nat, s = .int .i64 j ∧ j + k = l.length ∧ Below w.heap.size w wx ∧ wx.cell? ⟨w.heap.size, 3, none⟩ = some (.slice a l.length ca) ∧ wx.cell? ⟨w.heap.size + 1, 3, none⟩ = some (.slice b l.length cb))
  case atStart => exact ⟨0, rfl, by omega, ((Below.refl _ _).alloc (Nat.le_refl _) _).alloc (by simp) _, by simp, by simp⟩
  case round =>
    obtain ⟨j, rfl, hjk, hb, k1, k2⟩ := hrel
    by_cases hj : j < l.length
    · have hx : l[j]? = some l[j] := List.getElem?_eq_getElem hj
      have hjz : (j : Int) < (l.length : Int) := by omega
      obtain ⟨ba, oa, rfl, a0, a1, a2, a3⟩ := ((unhide HA).below hb).cells j _ hx
      obtain ⟨bb, ob, rfl, b0, b1, b2, b3⟩ := ((unhide HB).below hb).cells j _ hx
      generalize l[j] = x at a0 a1 a2 a3 b0 b1 b2 b3 hx
      have HBW := hide hb
      clear hx hb
      go_wp2
      go_quiet (fail)
      go_wp2
      go_roundg (gk - 1)
      case measure => omega
      case rel => exact ⟨j + 1, by go_num, by omega, below_drewN' (unhide HBW) _, by simpa using k1, by simpa using k2⟩
    · have hjz : ¬ (j : Int) < (l.length : Int) := by omega
      go_wp2
      go_ret
      exact ⟨rfl, hb⟩
end Go.Proofs.Ytlbkoafeedlfaaa

namespace Go.Proofs.Ytlbkoafeedlfaaa
open Go.RowKit
set_option linter.unusedVariables false

def firstReg : Code → Option Nat
  | .region i _ _ => some i
  | .seq a b => match firstReg a with
    | some c => some c
    | none => firstReg b
  | .block _ c => firstReg c
  | .loop c => firstReg c
  | .scope c => firstReg c
  | _ => none
def from? (id : Nat) : Code → Option Code
  | .seq a b => if firstReg a = some id then some (.seq a b) else match from? id a with
    | some c => some c
    | none => from? id b
  | .cond _ a b => match from? id a with
    | some c => some c
    | none => from? id b
  | .block _ c => from? id c
  | .loop c => from? id c
  | .scope c => from? id c
  | _ => none

def tell8 (f : Func) : Code := (f.body.bind (from? 8)).getD .skip
def tell5 (f : Func) : Code := (f.body.bind (from? 5)).getD .skip

/-- What the document's Node's two results are read as. -/
theorem refNode_ret (W : World) (b : Nat) (n : NodeM) (h : W.heap[b]? = some (.cells n.cells.toArray 37 (0, 0))) (tmps : Array Value) (x : Value) (h4 : tmps.getD 4 undef = .pointer (some ⟨b, 0, none⟩)) (h5 : tmps.getD 5 undef = x) :
    (results Try.f47 tmps).run Try.prog W = .ok (.tuple #[.agg n.cells.toArray, x]) W := by
  have c : ∀ j, j < 12 → W.cell? ⟨b, j, none⟩ = n.cells[j]? := fun j hj => by simp [World.cell?, h]
  have c0 := c 0 (by omega)
  have c1 := c 1 (by omega)
  have c2 := c 2 (by omega)
  have c3 := c 3 (by omega)
  have c4 := c 4 (by omega)
  have c5 := c 5 (by omega)
  have c6 := c 6 (by omega)
  have c7 := c 7 (by omega)
  have c8 := c 8 (by omega)
  have c9 := c 9 (by omega)
  have c10 := c 10 (by omega)
  have c11 := c 11 (by omega)
  clear c
  simp only [NodeM.cells, List.getElem?_cons_zero, List.getElem?_cons_succ] at c0 c1 c2 c3 c4 c5 c6 c7 c8 c9 c10 c11
  rw [results_cell_tmp (p := 4) (u := 5) (ty := 37) Try.results47 tmps Try.prog W, h4, h5]
  simp [go_sem, c0, c1, c2, c3, c4, c5, c6, c7, c8, c9, c10, c11, NodeM.cells]

/-- The boxes of the document's Node: the node as it lies in the arena, the node that is told, the result. -/
structure Boxes (w : World) (bo bn br : Nat) (r : OneR) (n : NodeM) : Prop where
  o : w.heap[bo]? = some (.cells r.cells.toArray 76 (0, 0))
  n : w.heap[bn]? = some (.cells n.cells.toArray 37 (0, 0))
  r : ∃ cur : Array Value, w.heap[br]? = some (.cells cur 37 (0, 0)) ∧ cur.size = 12
  ne : bn ≠ br

theorem Boxes.on {w : World} {bo bn br : Nat} {r : OneR} {n : NodeM} (h : Boxes w bo bn br r n) : bo ≠ bn ∧ bo ≠ br := by
  obtain ⟨cur, hr, _⟩ := h.r
  refine ⟨fun e => ?_, fun e => ?_⟩
  · have := h.o; rw [e, h.n] at this; simp at this
  · have := h.o; rw [e, hr] at this; simp at this

theorem Boxes.co {w : World} {bo bn br : Nat} {r : OneR} {n : NodeM} (h : Boxes w bo bn br r n) : w.cell? ⟨bo, 8, none⟩ = some (.int .i64 r.o.up) ∧ w.cell? ⟨bo, 9, none⟩ = some r.kv := by
  refine ⟨?_, ?_⟩ <;> (rw [cell_of_row w bo _ _ _ _ h.o]; rfl)

theorem Boxes.cn {w : World} {bo bn br : Nat} {r : OneR} {n : NodeM} (h : Boxes w bo bn br r n) :
    w.cell? ⟨bn, 0, none⟩ = some (.int .i64 n.kind) ∧ w.cell? ⟨bn, 1, none⟩ = some (.int .i64 n.space) ∧ w.cell? ⟨bn, 2, none⟩ = some (.string n.name) ∧ w.cell? ⟨bn, 3, none⟩ = some n.av ∧ w.cell? ⟨bn, 4, none⟩ = some (.string n.data) ∧ w.cell? ⟨bn, 5, none⟩ = some (.string n.system) ∧
    w.cell? ⟨bn, 6, none⟩ = some (.int .i64 n.parent) ∧ w.cell? ⟨bn, 7, none⟩ = some (.int .i64 n.first) ∧ w.cell? ⟨bn, 8, none⟩ = some (.int .i64 n.last) ∧ w.cell? ⟨bn, 9, none⟩ = some (.int .i64 n.prev) ∧ w.cell? ⟨bn, 10, none⟩ = some (.int .i64 n.next) ∧ w.cell? ⟨bn, 11, none⟩ = some (.int .i64 n.inner) := by
  refine ⟨?_, ?_, ?_, ?_, ?_, ?_, ?_, ?_, ?_, ?_, ?_, ?_⟩ <;> (rw [cell_of_row w bn _ _ _ _ h.n]; rfl)

theorem Boxes.free {w : World} {bo bn br : Nat} {r : OneR} {n : NodeM} (h : Boxes w bo bn br r n) : (∀ j, w.frozen? ⟨bn, j, none⟩ = false) ∧ (∀ j, w.frozen? ⟨br, j, none⟩ = false) := by
  obtain ⟨cur, hr, _⟩ := h.r
  exact ⟨fun j => by simp [World.frozen?, h.n], fun j => by simp [World.frozen?, hr]⟩

theorem Boxes.there {w : World} {bo bn br : Nat} {r : OneR} {n : NodeM} (h : Boxes w bo bn br r n) : ∃ z0 z1 z2 z3 z4 z5 z6 z7 z8 z9 z10 z11, w.cell? ⟨br, 0, none⟩ = some z0 ∧ w.cell? ⟨br, 1, none⟩ = some z1 ∧ w.cell? ⟨br, 2, none⟩ = some z2 ∧ w.cell? ⟨br, 3, none⟩ = some z3 ∧ w.cell? ⟨br, 4, none⟩ = some z4 ∧ w.cell? ⟨br, 5, none⟩ = some z5 ∧
    w.cell? ⟨br, 6, none⟩ = some z6 ∧ w.cell? ⟨br, 7, none⟩ = some z7 ∧ w.cell? ⟨br, 8, none⟩ = some z8 ∧ w.cell? ⟨br, 9, none⟩ = some z9 ∧ w.cell? ⟨br, 10, none⟩ = some z10 ∧ w.cell? ⟨br, 11, none⟩ = some z11 := by
  obtain ⟨cur, hr, hs⟩ := h.r
  obtain ⟨a0, a1, a2, a3, a4, a5, a6, a7, a8, a9, a10, a11, rfl⟩ := array12 cur hs
  refine ⟨a0, a1, a2, a3, a4, a5, a6, a7, a8, a9, a10, a11, ?_, ?_, ?_, ?_, ?_, ?_, ?_, ?_, ?_, ?_, ?_, ?_⟩ <;> (rw [cell_of_row w br _ _ _ _ hr]; rfl)

theorem Boxes.below {w w' : World} {bo bn br : Nat} {r : OneR} {n : NodeM} (h : Boxes w bo bn br r n) (hb : Below w.heap.size w w') : Boxes w' bo bn br r n := by
  obtain ⟨cur, hr, hs⟩ := h.r
  exact ⟨by rw [hb.block _ (lt_of_block h.o)]; exact h.o, by rw [hb.block _ (lt_of_block h.n)]; exact h.n, ⟨cur, by rw [hb.block _ (lt_of_block hr)]; exact hr, hs⟩, h.ne⟩

/-- A store into the node that is told. -/
theorem Boxes.set {w : World} {bo bn br : Nat} {r : OneR} {n m : NodeM} (h : Boxes w bo bn br r n) (j : Nat) (v : Value) (hm : m.cells = n.cells.set j v) : Boxes (w.setCell ⟨bn, j, none⟩ v) bo bn br r m := by
  obtain ⟨cur, hr, hs⟩ := h.r
  refine ⟨?_, ?_, ⟨cur, ?_, hs⟩, h.ne⟩
  · rw [Below.heap_setCell _ _ _ _ (fun e => h.on.1 e)]; exact h.o
  · have := heap_setCell_same w bn j _ 37 v h.n
    rw [this, hm]
    simp
  · rw [Below.heap_setCell _ _ _ _ (fun e => h.ne e.symm)]; exact hr

theorem Boxes.done {w : World} {bo bn br : Nat} {r : OneR} {n : NodeM} (h : Boxes w bo bn br r n) : (put12 w br n).heap[br]? = some (.cells n.cells.toArray 37 (0, 0)) := by
  obtain ⟨cur, hr, hs⟩ := h.r
  exact put12_block w br n cur 37 hr hs

set_option maxHeartbeats 4000000 in
set_option maxRecDepth 10000 in
theorem tell_alone {u2 u3 u5 u8 u9 u10 u11 u12 u13 u14 u15 u16 u17 u18 u19 u20 u21 u22 u23 u24 u25 u26 u27 u28 u29 u30 u31 u32 u33 u34 u35 u36 u37 u38 u39 u40 u41 u42 u43 u44 u45 u46 u47 u48 u49 u50 u51 u52 u53 u54 u55 u56 u57 u58 u59 u60 u61 u62 u63 u64 u65 u66 u67 u68 u69 u70 u71 u72 u73 u74 u75 u76 u77 u78 u79 u80 u81 u82 u83 u84 u85 u86 u87 u88 u89 u90 u91 u92 u93 : Value} {bR i br bo bn base g cap : Nat} {w0 w : World} {rs : List OneR} {r : OneR} {n : NodeM} {R : Ending → World → Prop}
    (h : Rf w0 base bR g cap rs) (hi : rs[i]? = some r) (hB : Below w0.heap.size w0 w) (hx : Boxes w bo bn br r n) (lo : w0.heap.size ≤ bo) (ln : w0.heap.size ≤ bn) (lr : w0.heap.size ≤ br) {na : Option Addr} {nl nc : Nat} (hav : n.av = .slice na nl nc) (hu : r.o.up = -1)
    (hR : ∀ w', Mod (fun k => k = bn ∨ k = br) w w' → R (.returned (.tuple #[.agg n.cells.toArray, .int .i64 0])) w') :
    Code.wp Try.prog (tell8 Try.f47) (bodyPost Try.prog Try.f47 R) ⟨List.toArray (.pointer (some ⟨bR, 0, none⟩) :: .int .i64 (i : Nat) :: u2 :: u3 :: .pointer (some ⟨br, 0, none⟩) :: u5 :: .pointer (some ⟨bo, 0, none⟩) :: .pointer (some ⟨bn, 0, none⟩) :: u8 :: u9 :: u10 :: u11 :: u12 :: u13 :: u14 :: u15 :: u16 :: u17 :: u18 :: u19 :: u20 :: u21 :: u22 :: u23 :: u24 :: u25 :: u26 :: u27 :: u28 :: u29 :: u30 :: u31 :: u32 :: u33 :: u34 :: u35 :: u36 :: u37 :: u38 :: u39 :: u40 :: u41 :: u42 :: u43 :: u44 :: u45 :: u46 :: u47 :: u48 :: u49 :: u50 :: u51 :: u52 :: u53 :: u54 :: u55 :: u56 :: u57 :: u58 :: u59 :: u60 :: u61 :: u62 :: u63 :: u64 :: u65 :: u66 :: u67 :: u68 :: u69 :: u70 :: u71 :: u72 :: u73 :: u74 :: u75 :: u76 :: u77 :: u78 :: u79 :: u80 :: u81 :: u82 :: u83 :: u84 :: u85 :: u86 :: u87 :: u88 :: u89 :: u90 :: u91 :: u92 :: u93 :: []), []⟩ w := by
  obtain ⟨k0, k1, k2, k3, k4, k5, k6, k7, k8, k9, k10, k11, k12⟩ := n
  dsimp only at hav
  subst hav
  obtain ⟨o8, o9⟩ := hx.co
  obtain ⟨n0, n1, n2, n3, n4, n5, n6, n7, n8, n9, n10, n11⟩ := hx.cn
  obtain ⟨z0, z1, z2, z3, z4, z5, z6, z7, z8, z9, z10, z11, y0, y1, y2, y3, y4, y5, y6, y7, y8, y9, y10, y11⟩ := hx.there
  dsimp only at n0 n1 n2 n3 n4 n5 n6 n7 n8 n9 n10 n11
  obtain ⟨fn, fr⟩ := hx.free
  obtain ⟨ne1, ne2⟩ := hx.on
  have ne3 := hx.ne
  have HX := hide hx
  have HR := hide hR
  rw [hu] at o8
  clear hx hR h hi hu
  conv => arg 2; whnf
  go_wp2
  have hret := fun tmps h4 h5 => refNode_ret (put12 w br ⟨k0, k1, k2, .slice na nl nc, k4, k5, k6, k7, k8, k9, k10, k11, k12⟩) br ⟨k0, k1, k2, .slice na nl nc, k4, k5, k6, k7, k8, k9, k10, k11, k12⟩ (unhide HX).done tmps (.int .i64 0) h4 h5
  have hfin := (unhide HR) _ ((put12_mod w br ⟨k0, k1, k2, .slice na nl nc, k4, k5, k6, k7, k8, k9, k10, k11, k12⟩).mono (fun k _ hk => .inr hk))
  exact bodyPost_ret (hret _ rfl rfl) rfl hfin

set_option maxHeartbeats 4000000 in
set_option maxRecDepth 10000 in
theorem tell_00 {u2 u3 u5 u8 u9 u10 u11 u12 u13 u14 u15 u16 u17 u18 u19 u20 u21 u22 u23 u24 u25 u26 u27 u28 u29 u30 u31 u32 u33 u34 u35 u36 u37 u38 u39 u40 u41 u42 u43 u44 u45 u46 u47 u48 u49 u50 u51 u52 u53 u54 u55 u56 u57 u58 u59 u60 u61 u62 u63 u64 u65 u66 u67 u68 u69 u70 u71 u72 u73 u74 u75 u76 u77 u78 u79 u80 u81 u82 u83 u84 u85 u86 u87 u88 u89 u90 u91 u92 u93 : Value} {bR i br bo bn base g cap : Nat} {w0 w : World} {rs : List OneR} {r : OneR} {n : NodeM} {R : Ending → World → Prop} {p a1 x y : Nat} {rp : OneR}
    (h : Rf w0 base bR g cap rs) (hi : rs[i]? = some r) (hB : Below w0.heap.size w0 w) (hx : Boxes w bo bn br r n) (lo : w0.heap.size ≤ bo) (ln : w0.heap.size ≤ bn) (lr : w0.heap.size ≤ br) {na : Option Addr} {nl nc : Nat} (hav : n.av = .slice na nl nc) (hu : r.o.up = (p : Int)) (hp : rs[p]? = some rp) {kb koff kc L : Nat} (hkv : rp.kv = .slice (some ⟨kb, koff, none⟩) L kc) (hL : L ≤ 32768)
    (hpl : ∀ W, Below w0.heap.size w0 W → Calls Try.prog 101 #[.pointer (some ⟨bR, 0, none⟩), .int .i64 (i : Nat)] W fun e w' => e = .returned (.int .i64 0) ∧ Below W.heap.size W w') (hb : L = 0 + 1)
    (hR : ∀ w', Mod (fun k => k = bn ∨ k = br) w w' → R (.returned (.tuple #[.agg { n with prev := n.prev, next := n.next }.cells.toArray, .int .i64 0])) w') :
    Code.wp Try.prog (tell8 Try.f47) (bodyPost Try.prog Try.f47 R) ⟨List.toArray (.pointer (some ⟨bR, 0, none⟩) :: .int .i64 (i : Nat) :: u2 :: u3 :: .pointer (some ⟨br, 0, none⟩) :: u5 :: .pointer (some ⟨bo, 0, none⟩) :: .pointer (some ⟨bn, 0, none⟩) :: u8 :: u9 :: u10 :: u11 :: u12 :: u13 :: u14 :: u15 :: u16 :: u17 :: u18 :: u19 :: u20 :: u21 :: u22 :: u23 :: u24 :: u25 :: u26 :: u27 :: u28 :: u29 :: u30 :: u31 :: u32 :: u33 :: u34 :: u35 :: u36 :: u37 :: u38 :: u39 :: u40 :: u41 :: u42 :: u43 :: u44 :: u45 :: u46 :: u47 :: u48 :: u49 :: u50 :: u51 :: u52 :: u53 :: u54 :: u55 :: u56 :: u57 :: u58 :: u59 :: u60 :: u61 :: u62 :: u63 :: u64 :: u65 :: u66 :: u67 :: u68 :: u69 :: u70 :: u71 :: u72 :: u73 :: u74 :: u75 :: u76 :: u77 :: u78 :: u79 :: u80 :: u81 :: u82 :: u83 :: u84 :: u85 :: u86 :: u87 :: u88 :: u89 :: u90 :: u91 :: u92 :: u93 :: []), []⟩ w := by
  obtain ⟨k0, k1, k2, k3, k4, k5, k6, k7, k8, k9, k10, k11, k12⟩ := n
  dsimp only at hav
  subst hav
  obtain ⟨o8, o9⟩ := hx.co
  rw [hu] at o8
  have hAr := hB.cell (p := ⟨bR, 0, none⟩) h.lt.1
  rw [h.cR] at hAr
  have c9 := (h.cells10 hp).2.2.2.2.2.2.2.2.2
  rw [hkv] at c9
  have c9w := (hB.cell (p := ⟨g, p * 10 + 9, none⟩) h.lt.2).trans c9
  have hpz : (p : Int) < (rs.length : Int) := by have := (List.getElem?_eq_some_iff.1 hp).1; omega
  have hmost := h.most
  have HB := hide hB
  have HPL := hide hpl
  have HX := hide hx
  have HR := hide hR
  clear hx hR h hi hu hp hkv hB hpl c9
  conv => arg 2; whnf
  go_wp2
  go_quiet (fail)
  go_wp2_with fail
  refine ((unhide HPL) _ (below_drewN' (unhide HB) _)).mono ?_
  rintro e w1 ⟨rfl, hb1⟩
  have hb1' : Below w.heap.size w w1 := ⟨hb1.os, hb1.tape, hb1.output, hb1.size, hb1.block⟩
  have hx1 := (unhide HX).below hb1'
  have HB1 := hide hb1'
  obtain ⟨n0, n1, n2, n3, n4, n5, n6, n7, n8, n9, n10, n11⟩ := hx1.cn
  obtain ⟨z0, z1, z2, z3, z4, z5, z6, z7, z8, z9, z10, z11, y0, y1, y2, y3, y4, y5, y6, y7, y8, y9, y10, y11⟩ := hx1.there
  dsimp only at n0 n1 n2 n3 n4 n5 n6 n7 n8 n9 n10 n11
  obtain ⟨fn, fr⟩ := hx1.free
  have ne3 := hx1.ne
  have ne4 := Ne.symm ne3
  have hbw := (unhide HB).trans (hb1'.mono (unhide HB).size)
  have HX1 := hide hx1
  clear hx1 hb1 hb1' hbw lo ln lr
  go_wp2
  have hret := fun tmps h4 h5 => refNode_ret (put12 w1 br ⟨k0, k1, k2, .slice na nl nc, k4, k5, k6, k7, k8, k9, k10, k11, k12⟩) br ⟨k0, k1, k2, .slice na nl nc, k4, k5, k6, k7, k8, k9, k10, k11, k12⟩ (unhide HX1).done tmps (.int .i64 0) h4 h5
  have hfin := (unhide HR) _ ((Mod.of_below (unhide HB1)).trans ((put12_mod w1 br ⟨k0, k1, k2, .slice na nl nc, k4, k5, k6, k7, k8, k9, k10, k11, k12⟩).mono (fun k _ hk => .inr hk)))
  exact bodyPost_ret (hret _ rfl rfl) rfl hfin

set_option maxHeartbeats 4000000 in
set_option maxRecDepth 10000 in
theorem tell_01 {u2 u3 u5 u8 u9 u10 u11 u12 u13 u14 u15 u16 u17 u18 u19 u20 u21 u22 u23 u24 u25 u26 u27 u28 u29 u30 u31 u32 u33 u34 u35 u36 u37 u38 u39 u40 u41 u42 u43 u44 u45 u46 u47 u48 u49 u50 u51 u52 u53 u54 u55 u56 u57 u58 u59 u60 u61 u62 u63 u64 u65 u66 u67 u68 u69 u70 u71 u72 u73 u74 u75 u76 u77 u78 u79 u80 u81 u82 u83 u84 u85 u86 u87 u88 u89 u90 u91 u92 u93 : Value} {bR i br bo bn base g cap : Nat} {w0 w : World} {rs : List OneR} {r : OneR} {n : NodeM} {R : Ending → World → Prop} {p a1 x y : Nat} {rp : OneR}
    (h : Rf w0 base bR g cap rs) (hi : rs[i]? = some r) (hB : Below w0.heap.size w0 w) (hx : Boxes w bo bn br r n) (lo : w0.heap.size ≤ bo) (ln : w0.heap.size ≤ bn) (lr : w0.heap.size ≤ br) {na : Option Addr} {nl nc : Nat} (hav : n.av = .slice na nl nc) (hu : r.o.up = (p : Int)) (hp : rs[p]? = some rp) {kb koff kc L : Nat} (hkv : rp.kv = .slice (some ⟨kb, koff, none⟩) L kc) (hL : L ≤ 32768)
    (hpl : ∀ W, Below w0.heap.size w0 W → Calls Try.prog 101 #[.pointer (some ⟨bR, 0, none⟩), .int .i64 (i : Nat)] W fun e w' => e = .returned (.int .i64 0) ∧ Below W.heap.size W w') (hb : 0 + 1 < L) (dy : w0.cell? ⟨kb, koff + (1), none⟩ = some (.int .i64 (y : Nat)))
    (hR : ∀ w', Mod (fun k => k = bn ∨ k = br) w w' → R (.returned (.tuple #[.agg { n with prev := n.prev, next := (y : Int) }.cells.toArray, .int .i64 0])) w') :
    Code.wp Try.prog (tell8 Try.f47) (bodyPost Try.prog Try.f47 R) ⟨List.toArray (.pointer (some ⟨bR, 0, none⟩) :: .int .i64 (i : Nat) :: u2 :: u3 :: .pointer (some ⟨br, 0, none⟩) :: u5 :: .pointer (some ⟨bo, 0, none⟩) :: .pointer (some ⟨bn, 0, none⟩) :: u8 :: u9 :: u10 :: u11 :: u12 :: u13 :: u14 :: u15 :: u16 :: u17 :: u18 :: u19 :: u20 :: u21 :: u22 :: u23 :: u24 :: u25 :: u26 :: u27 :: u28 :: u29 :: u30 :: u31 :: u32 :: u33 :: u34 :: u35 :: u36 :: u37 :: u38 :: u39 :: u40 :: u41 :: u42 :: u43 :: u44 :: u45 :: u46 :: u47 :: u48 :: u49 :: u50 :: u51 :: u52 :: u53 :: u54 :: u55 :: u56 :: u57 :: u58 :: u59 :: u60 :: u61 :: u62 :: u63 :: u64 :: u65 :: u66 :: u67 :: u68 :: u69 :: u70 :: u71 :: u72 :: u73 :: u74 :: u75 :: u76 :: u77 :: u78 :: u79 :: u80 :: u81 :: u82 :: u83 :: u84 :: u85 :: u86 :: u87 :: u88 :: u89 :: u90 :: u91 :: u92 :: u93 :: []), []⟩ w := by
  obtain ⟨k0, k1, k2, k3, k4, k5, k6, k7, k8, k9, k10, k11, k12⟩ := n
  dsimp only at hav
  subst hav
  obtain ⟨o8, o9⟩ := hx.co
  rw [hu] at o8
  have hAr := hB.cell (p := ⟨bR, 0, none⟩) h.lt.1
  rw [h.cR] at hAr
  have c9 := (h.cells10 hp).2.2.2.2.2.2.2.2.2
  rw [hkv] at c9
  have c9w := (hB.cell (p := ⟨g, p * 10 + 9, none⟩) h.lt.2).trans c9
  have hpz : (p : Int) < (rs.length : Int) := by have := (List.getElem?_eq_some_iff.1 hp).1; omega
  have hmost := h.most
  have HB := hide hB
  have HPL := hide hpl
  have HX := hide hx
  have HR := hide hR
  have HDY := hide dy
  have klt := World.block_lt_of_cell? w0 _ dy
  clear hx hR h hi hu hp hkv hB hpl c9
  clear dy
  conv => arg 2; whnf
  go_wp2
  go_quiet (fail)
  go_wp2_with fail
  refine ((unhide HPL) _ (below_drewN' (unhide HB) _)).mono ?_
  rintro e w1 ⟨rfl, hb1⟩
  have hb1' : Below w.heap.size w w1 := ⟨hb1.os, hb1.tape, hb1.output, hb1.size, hb1.block⟩
  have hx1 := (unhide HX).below hb1'
  have HB1 := hide hb1'
  obtain ⟨n0, n1, n2, n3, n4, n5, n6, n7, n8, n9, n10, n11⟩ := hx1.cn
  obtain ⟨z0, z1, z2, z3, z4, z5, z6, z7, z8, z9, z10, z11, y0, y1, y2, y3, y4, y5, y6, y7, y8, y9, y10, y11⟩ := hx1.there
  dsimp only at n0 n1 n2 n3 n4 n5 n6 n7 n8 n9 n10 n11
  obtain ⟨fn, fr⟩ := hx1.free
  have ne3 := hx1.ne
  have ne4 := Ne.symm ne3
  have hbw := (unhide HB).trans (hb1'.mono (unhide HB).size)
  have vy := (hbw.cell (p := ⟨kb, koff + (1), none⟩) klt).trans (unhide HDY)
  have kne : kb ≠ bn := by omega
  have HX1 := hide hx1
  clear hx1 hb1 hb1' hbw lo ln lr
  go_wp2
  have hret := fun tmps h4 h5 => refNode_ret (put12 (w1.setCell ⟨bn, 10, none⟩ (.int .i64 (y : Nat))) br ⟨k0, k1, k2, .slice na nl nc, k4, k5, k6, k7, k8, k9, (y : Int), k11, k12⟩) br ⟨k0, k1, k2, .slice na nl nc, k4, k5, k6, k7, k8, k9, (y : Int), k11, k12⟩ (Boxes.set (m := ⟨k0, k1, k2, .slice na nl nc, k4, k5, k6, k7, k8, k9, (y : Int), k11, k12⟩) (unhide HX1) 10 (.int .i64 (y : Nat)) rfl).done tmps (.int .i64 0) h4 h5
  have hfin := (unhide HR) _ (((Mod.of_below (unhide HB1)).trans (Mod.setCell (F := fun k => k = bn ∨ k = br) w1 ⟨bn, 10, none⟩ (.int .i64 (y : Nat)) (.inl rfl))).trans ((put12_mod (w1.setCell ⟨bn, 10, none⟩ (.int .i64 (y : Nat))) br ⟨k0, k1, k2, .slice na nl nc, k4, k5, k6, k7, k8, k9, (y : Int), k11, k12⟩).mono (fun k _ hk => .inr hk)))
  exact bodyPost_ret (hret _ rfl rfl) rfl hfin

set_option maxHeartbeats 4000000 in
set_option maxRecDepth 10000 in
theorem tell_10 {u2 u3 u5 u8 u9 u10 u11 u12 u13 u14 u15 u16 u17 u18 u19 u20 u21 u22 u23 u24 u25 u26 u27 u28 u29 u30 u31 u32 u33 u34 u35 u36 u37 u38 u39 u40 u41 u42 u43 u44 u45 u46 u47 u48 u49 u50 u51 u52 u53 u54 u55 u56 u57 u58 u59 u60 u61 u62 u63 u64 u65 u66 u67 u68 u69 u70 u71 u72 u73 u74 u75 u76 u77 u78 u79 u80 u81 u82 u83 u84 u85 u86 u87 u88 u89 u90 u91 u92 u93 : Value} {bR i br bo bn base g cap : Nat} {w0 w : World} {rs : List OneR} {r : OneR} {n : NodeM} {R : Ending → World → Prop} {p a1 x y : Nat} {rp : OneR}
    (h : Rf w0 base bR g cap rs) (hi : rs[i]? = some r) (hB : Below w0.heap.size w0 w) (hx : Boxes w bo bn br r n) (lo : w0.heap.size ≤ bo) (ln : w0.heap.size ≤ bn) (lr : w0.heap.size ≤ br) {na : Option Addr} {nl nc : Nat} (hav : n.av = .slice na nl nc) (hu : r.o.up = (p : Int)) (hp : rs[p]? = some rp) {kb koff kc L : Nat} (hkv : rp.kv = .slice (some ⟨kb, koff, none⟩) L kc) (hL : L ≤ 32768)
    (hpl : ∀ W, Below w0.heap.size w0 W → Calls Try.prog 101 #[.pointer (some ⟨bR, 0, none⟩), .int .i64 (i : Nat)] W fun e w' => e = .returned (.int .i64 ((a1 : Int) + 1)) ∧ Below W.heap.size W w') (dx : w0.cell? ⟨kb, koff + a1, none⟩ = some (.int .i64 (x : Nat))) (hb : L = a1 + 1 + 1)
    (hR : ∀ w', Mod (fun k => k = bn ∨ k = br) w w' → R (.returned (.tuple #[.agg { n with prev := (x : Int), next := n.next }.cells.toArray, .int .i64 0])) w') :
    Code.wp Try.prog (tell8 Try.f47) (bodyPost Try.prog Try.f47 R) ⟨List.toArray (.pointer (some ⟨bR, 0, none⟩) :: .int .i64 (i : Nat) :: u2 :: u3 :: .pointer (some ⟨br, 0, none⟩) :: u5 :: .pointer (some ⟨bo, 0, none⟩) :: .pointer (some ⟨bn, 0, none⟩) :: u8 :: u9 :: u10 :: u11 :: u12 :: u13 :: u14 :: u15 :: u16 :: u17 :: u18 :: u19 :: u20 :: u21 :: u22 :: u23 :: u24 :: u25 :: u26 :: u27 :: u28 :: u29 :: u30 :: u31 :: u32 :: u33 :: u34 :: u35 :: u36 :: u37 :: u38 :: u39 :: u40 :: u41 :: u42 :: u43 :: u44 :: u45 :: u46 :: u47 :: u48 :: u49 :: u50 :: u51 :: u52 :: u53 :: u54 :: u55 :: u56 :: u57 :: u58 :: u59 :: u60 :: u61 :: u62 :: u63 :: u64 :: u65 :: u66 :: u67 :: u68 :: u69 :: u70 :: u71 :: u72 :: u73 :: u74 :: u75 :: u76 :: u77 :: u78 :: u79 :: u80 :: u81 :: u82 :: u83 :: u84 :: u85 :: u86 :: u87 :: u88 :: u89 :: u90 :: u91 :: u92 :: u93 :: []), []⟩ w := by
  obtain ⟨k0, k1, k2, k3, k4, k5, k6, k7, k8, k9, k10, k11, k12⟩ := n
  dsimp only at hav
  subst hav
  obtain ⟨o8, o9⟩ := hx.co
  rw [hu] at o8
  have hAr := hB.cell (p := ⟨bR, 0, none⟩) h.lt.1
  rw [h.cR] at hAr
  have c9 := (h.cells10 hp).2.2.2.2.2.2.2.2.2
  rw [hkv] at c9
  have c9w := (hB.cell (p := ⟨g, p * 10 + 9, none⟩) h.lt.2).trans c9
  have hpz : (p : Int) < (rs.length : Int) := by have := (List.getElem?_eq_some_iff.1 hp).1; omega
  have hmost := h.most
  have HB := hide hB
  have HPL := hide hpl
  have HX := hide hx
  have HR := hide hR
  have HDX := hide dx
  have klt := World.block_lt_of_cell? w0 _ dx
  clear hx hR h hi hu hp hkv hB hpl c9 dx
  conv => arg 2; whnf
  go_wp2
  go_quiet (fail)
  go_wp2_with fail
  refine ((unhide HPL) _ (below_drewN' (unhide HB) _)).mono ?_
  rintro e w1 ⟨rfl, hb1⟩
  have hb1' : Below w.heap.size w w1 := ⟨hb1.os, hb1.tape, hb1.output, hb1.size, hb1.block⟩
  have hx1 := (unhide HX).below hb1'
  have HB1 := hide hb1'
  obtain ⟨n0, n1, n2, n3, n4, n5, n6, n7, n8, n9, n10, n11⟩ := hx1.cn
  obtain ⟨z0, z1, z2, z3, z4, z5, z6, z7, z8, z9, z10, z11, y0, y1, y2, y3, y4, y5, y6, y7, y8, y9, y10, y11⟩ := hx1.there
  dsimp only at n0 n1 n2 n3 n4 n5 n6 n7 n8 n9 n10 n11
  obtain ⟨fn, fr⟩ := hx1.free
  have ne3 := hx1.ne
  have ne4 := Ne.symm ne3
  have hbw := (unhide HB).trans (hb1'.mono (unhide HB).size)
  have vx := (hbw.cell (p := ⟨kb, koff + a1, none⟩) klt).trans (unhide HDX)
  have kne : kb ≠ bn := by omega
  have HX1 := hide hx1
  clear hx1 hb1 hb1' hbw lo ln lr
  go_wp2
  have hret := fun tmps h4 h5 => refNode_ret (put12 (w1.setCell ⟨bn, 9, none⟩ (.int .i64 (x : Nat))) br ⟨k0, k1, k2, .slice na nl nc, k4, k5, k6, k7, k8, (x : Int), k10, k11, k12⟩) br ⟨k0, k1, k2, .slice na nl nc, k4, k5, k6, k7, k8, (x : Int), k10, k11, k12⟩ (Boxes.set (m := ⟨k0, k1, k2, .slice na nl nc, k4, k5, k6, k7, k8, (x : Int), k10, k11, k12⟩) (unhide HX1) 9 (.int .i64 (x : Nat)) rfl).done tmps (.int .i64 0) h4 h5
  have hfin := (unhide HR) _ (((Mod.of_below (unhide HB1)).trans (Mod.setCell (F := fun k => k = bn ∨ k = br) w1 ⟨bn, 9, none⟩ (.int .i64 (x : Nat)) (.inl rfl))).trans ((put12_mod (w1.setCell ⟨bn, 9, none⟩ (.int .i64 (x : Nat))) br ⟨k0, k1, k2, .slice na nl nc, k4, k5, k6, k7, k8, (x : Int), k10, k11, k12⟩).mono (fun k _ hk => .inr hk)))
  exact bodyPost_ret (hret _ rfl rfl) rfl hfin

set_option maxHeartbeats 4000000 in
set_option maxRecDepth 10000 in
theorem tell_11 {u2 u3 u5 u8 u9 u10 u11 u12 u13 u14 u15 u16 u17 u18 u19 u20 u21 u22 u23 u24 u25 u26 u27 u28 u29 u30 u31 u32 u33 u34 u35 u36 u37 u38 u39 u40 u41 u42 u43 u44 u45 u46 u47 u48 u49 u50 u51 u52 u53 u54 u55 u56 u57 u58 u59 u60 u61 u62 u63 u64 u65 u66 u67 u68 u69 u70 u71 u72 u73 u74 u75 u76 u77 u78 u79 u80 u81 u82 u83 u84 u85 u86 u87 u88 u89 u90 u91 u92 u93 : Value} {bR i br bo bn base g cap : Nat} {w0 w : World} {rs : List OneR} {r : OneR} {n : NodeM} {R : Ending → World → Prop} {p a1 x y : Nat} {rp : OneR}
    (h : Rf w0 base bR g cap rs) (hi : rs[i]? = some r) (hB : Below w0.heap.size w0 w) (hx : Boxes w bo bn br r n) (lo : w0.heap.size ≤ bo) (ln : w0.heap.size ≤ bn) (lr : w0.heap.size ≤ br) {na : Option Addr} {nl nc : Nat} (hav : n.av = .slice na nl nc) (hu : r.o.up = (p : Int)) (hp : rs[p]? = some rp) {kb koff kc L : Nat} (hkv : rp.kv = .slice (some ⟨kb, koff, none⟩) L kc) (hL : L ≤ 32768)
    (hpl : ∀ W, Below w0.heap.size w0 W → Calls Try.prog 101 #[.pointer (some ⟨bR, 0, none⟩), .int .i64 (i : Nat)] W fun e w' => e = .returned (.int .i64 ((a1 : Int) + 1)) ∧ Below W.heap.size W w') (dx : w0.cell? ⟨kb, koff + a1, none⟩ = some (.int .i64 (x : Nat))) (hb : a1 + 1 + 1 < L) (dy : w0.cell? ⟨kb, koff + (a1 + 2), none⟩ = some (.int .i64 (y : Nat)))
    (hR : ∀ w', Mod (fun k => k = bn ∨ k = br) w w' → R (.returned (.tuple #[.agg { n with prev := (x : Int), next := (y : Int) }.cells.toArray, .int .i64 0])) w') :
    Code.wp Try.prog (tell8 Try.f47) (bodyPost Try.prog Try.f47 R) ⟨List.toArray (.pointer (some ⟨bR, 0, none⟩) :: .int .i64 (i : Nat) :: u2 :: u3 :: .pointer (some ⟨br, 0, none⟩) :: u5 :: .pointer (some ⟨bo, 0, none⟩) :: .pointer (some ⟨bn, 0, none⟩) :: u8 :: u9 :: u10 :: u11 :: u12 :: u13 :: u14 :: u15 :: u16 :: u17 :: u18 :: u19 :: u20 :: u21 :: u22 :: u23 :: u24 :: u25 :: u26 :: u27 :: u28 :: u29 :: u30 :: u31 :: u32 :: u33 :: u34 :: u35 :: u36 :: u37 :: u38 :: u39 :: u40 :: u41 :: u42 :: u43 :: u44 :: u45 :: u46 :: u47 :: u48 :: u49 :: u50 :: u51 :: u52 :: u53 :: u54 :: u55 :: u56 :: u57 :: u58 :: u59 :: u60 :: u61 :: u62 :: u63 :: u64 :: u65 :: u66 :: u67 :: u68 :: u69 :: u70 :: u71 :: u72 :: u73 :: u74 :: u75 :: u76 :: u77 :: u78 :: u79 :: u80 :: u81 :: u82 :: u83 :: u84 :: u85 :: u86 :: u87 :: u88 :: u89 :: u90 :: u91 :: u92 :: u93 :: []), []⟩ w := by
  obtain ⟨k0, k1, k2, k3, k4, k5, k6, k7, k8, k9, k10, k11, k12⟩ := n
  dsimp only at hav
  subst hav
  obtain ⟨o8, o9⟩ := hx.co
  rw [hu] at o8
  have hAr := hB.cell (p := ⟨bR, 0, none⟩) h.lt.1
  rw [h.cR] at hAr
  have c9 := (h.cells10 hp).2.2.2.2.2.2.2.2.2
  rw [hkv] at c9
  have c9w := (hB.cell (p := ⟨g, p * 10 + 9, none⟩) h.lt.2).trans c9
  have hpz : (p : Int) < (rs.length : Int) := by have := (List.getElem?_eq_some_iff.1 hp).1; omega
  have hmost := h.most
  have HB := hide hB
  have HPL := hide hpl
  have HX := hide hx
  have HR := hide hR
  have HDX := hide dx
  have klt := World.block_lt_of_cell? w0 _ dx
  have HDY := hide dy
  have klt' := World.block_lt_of_cell? w0 _ dy
  clear hx hR h hi hu hp hkv hB hpl c9 dx
  clear dy
  conv => arg 2; whnf
  go_wp2
  go_quiet (fail)
  go_wp2_with fail
  refine ((unhide HPL) _ (below_drewN' (unhide HB) _)).mono ?_
  rintro e w1 ⟨rfl, hb1⟩
  have hb1' : Below w.heap.size w w1 := ⟨hb1.os, hb1.tape, hb1.output, hb1.size, hb1.block⟩
  have hx1 := (unhide HX).below hb1'
  have HB1 := hide hb1'
  obtain ⟨n0, n1, n2, n3, n4, n5, n6, n7, n8, n9, n10, n11⟩ := hx1.cn
  obtain ⟨z0, z1, z2, z3, z4, z5, z6, z7, z8, z9, z10, z11, y0, y1, y2, y3, y4, y5, y6, y7, y8, y9, y10, y11⟩ := hx1.there
  dsimp only at n0 n1 n2 n3 n4 n5 n6 n7 n8 n9 n10 n11
  obtain ⟨fn, fr⟩ := hx1.free
  have ne3 := hx1.ne
  have ne4 := Ne.symm ne3
  have hbw := (unhide HB).trans (hb1'.mono (unhide HB).size)
  have vx := (hbw.cell (p := ⟨kb, koff + a1, none⟩) klt).trans (unhide HDX)
  have kne : kb ≠ bn := by omega
  have vy := (hbw.cell (p := ⟨kb, koff + (a1 + 2), none⟩) klt').trans (unhide HDY)
  have HX1 := hide hx1
  clear hx1 hb1 hb1' hbw lo ln lr
  go_wp2
  have hret := fun tmps h4 h5 => refNode_ret (put12 ((w1.setCell ⟨bn, 9, none⟩ (.int .i64 (x : Nat))).setCell ⟨bn, 10, none⟩ (.int .i64 (y : Nat))) br ⟨k0, k1, k2, .slice na nl nc, k4, k5, k6, k7, k8, (x : Int), (y : Int), k11, k12⟩) br ⟨k0, k1, k2, .slice na nl nc, k4, k5, k6, k7, k8, (x : Int), (y : Int), k11, k12⟩ (Boxes.set (m := ⟨k0, k1, k2, .slice na nl nc, k4, k5, k6, k7, k8, (x : Int), (y : Int), k11, k12⟩) (Boxes.set (m := ⟨k0, k1, k2, .slice na nl nc, k4, k5, k6, k7, k8, (x : Int), k10, k11, k12⟩) (unhide HX1) 9 (.int .i64 (x : Nat)) rfl) 10 (.int .i64 (y : Nat)) rfl).done tmps (.int .i64 0) h4 h5
  have hfin := (unhide HR) _ ((((Mod.of_below (unhide HB1)).trans (Mod.setCell (F := fun k => k = bn ∨ k = br) w1 ⟨bn, 9, none⟩ (.int .i64 (x : Nat)) (.inl rfl))).trans (Mod.setCell (F := fun k => k = bn ∨ k = br) (w1.setCell ⟨bn, 9, none⟩ (.int .i64 (x : Nat))) ⟨bn, 10, none⟩ (.int .i64 (y : Nat)) (.inl rfl))).trans ((put12_mod ((w1.setCell ⟨bn, 9, none⟩ (.int .i64 (x : Nat))).setCell ⟨bn, 10, none⟩ (.int .i64 (y : Nat))) br ⟨k0, k1, k2, .slice na nl nc, k4, k5, k6, k7, k8, (x : Int), (y : Int), k11, k12⟩).mono (fun k _ hk => .inr hk)))
  exact bodyPost_ret (hret _ rfl rfl) rfl hfin
end Go.Proofs.Ytlbkoafeedlfaaa

namespace Go.Proofs.Ytlbkoafeedlfaaa
open Go.RowKit
set_option linter.unusedVariables false

set_option maxHeartbeats 4000000 in
set_option maxRecDepth 10000 in
theorem tell_none {u2 u3 u5 u8 u9 u10 u11 u12 u13 u14 u15 u16 u17 u18 u19 u20 u21 u22 u23 u24 u25 u26 u27 u28 u29 u30 u31 u32 u33 u34 u35 u36 u37 u38 u39 u40 u41 u42 u43 u44 u45 u46 u47 u48 u49 u50 u51 u52 u53 u54 u55 u56 u57 u58 u59 u60 u61 u62 u63 u64 u65 u66 u67 u68 u69 u70 u71 u72 u73 u74 u75 u76 u77 u78 u79 u80 u81 u82 u83 u84 u85 u86 u87 u88 u89 u90 u91 u92 u93 : Value} {bR i br bo bn : Nat} {w : World} {r : OneR} {n : NodeM} {Q : Exit → Act → World → Prop} (hx : Boxes w bo bn br r n) {ka : Option Addr} {kc : Nat} (hkv : r.kv = .slice ka 0 kc)
    (hK : ∀ (v2 v3 v5 v8 v9 v10 v11 v12 v13 v14 v15 v16 v17 v18 v19 v20 v21 v22 v23 v24 v25 v26 v27 v28 v29 v30 v31 v32 v33 v34 v35 v36 v37 v38 v39 v40 v41 v42 v43 v44 v45 v46 v47 v48 v49 v50 v51 v52 v53 v54 v55 v56 v57 v58 v59 v60 v61 v62 v63 v64 v65 v66 v67 v68 v69 v70 v71 v72 v73 v74 v75 v76 v77 v78 v79 v80 v81 v82 v83 v84 v85 v86 v87 v88 v89 v90 v91 v92 v93 : Value) (w' : World), Boxes w' bo bn br r n → Mod (fun k => k = bn) w w' → Code.wp Try.prog (tell8 Try.f47) Q ⟨List.toArray (.pointer (some ⟨bR, 0, none⟩) :: .int .i64 (i : Nat) :: v2 :: v3 :: .pointer (some ⟨br, 0, none⟩) :: v5 :: .pointer (some ⟨bo, 0, none⟩) :: .pointer (some ⟨bn, 0, none⟩) :: v8 :: v9 :: v10 :: v11 :: v12 :: v13 :: v14 :: v15 :: v16 :: v17 :: v18 :: v19 :: v20 :: v21 :: v22 :: v23 :: v24 :: v25 :: v26 :: v27 :: v28 :: v29 :: v30 :: v31 :: v32 :: v33 :: v34 :: v35 :: v36 :: v37 :: v38 :: v39 :: v40 :: v41 :: v42 :: v43 :: v44 :: v45 :: v46 :: v47 :: v48 :: v49 :: v50 :: v51 :: v52 :: v53 :: v54 :: v55 :: v56 :: v57 :: v58 :: v59 :: v60 :: v61 :: v62 :: v63 :: v64 :: v65 :: v66 :: v67 :: v68 :: v69 :: v70 :: v71 :: v72 :: v73 :: v74 :: v75 :: v76 :: v77 :: v78 :: v79 :: v80 :: v81 :: v82 :: v83 :: v84 :: v85 :: v86 :: v87 :: v88 :: v89 :: v90 :: v91 :: v92 :: v93 :: []), []⟩ w') :
    Code.wp Try.prog (tell5 Try.f47) Q ⟨List.toArray (.pointer (some ⟨bR, 0, none⟩) :: .int .i64 (i : Nat) :: u2 :: u3 :: .pointer (some ⟨br, 0, none⟩) :: u5 :: .pointer (some ⟨bo, 0, none⟩) :: .pointer (some ⟨bn, 0, none⟩) :: u8 :: u9 :: u10 :: u11 :: u12 :: u13 :: u14 :: u15 :: u16 :: u17 :: u18 :: u19 :: u20 :: u21 :: u22 :: u23 :: u24 :: u25 :: u26 :: u27 :: u28 :: u29 :: u30 :: u31 :: u32 :: u33 :: u34 :: u35 :: u36 :: u37 :: u38 :: u39 :: u40 :: u41 :: u42 :: u43 :: u44 :: u45 :: u46 :: u47 :: u48 :: u49 :: u50 :: u51 :: u52 :: u53 :: u54 :: u55 :: u56 :: u57 :: u58 :: u59 :: u60 :: u61 :: u62 :: u63 :: u64 :: u65 :: u66 :: u67 :: u68 :: u69 :: u70 :: u71 :: u72 :: u73 :: u74 :: u75 :: u76 :: u77 :: u78 :: u79 :: u80 :: u81 :: u82 :: u83 :: u84 :: u85 :: u86 :: u87 :: u88 :: u89 :: u90 :: u91 :: u92 :: u93 :: []), []⟩ w := by
  have HC := hide hK
  obtain ⟨o8, o9⟩ := hx.co
  obtain ⟨n0, n1, n2, n3, n4, n5, n6, n7, n8, n9, n10, n11⟩ := hx.cn
  obtain ⟨fn, fr⟩ := hx.free
  obtain ⟨ne1, ne2⟩ := hx.on
  have HX := hide hx
  clear hK hx
  rw [hkv] at o9
  clear hkv
  conv => arg 2; whnf
  apply wp_seq_k
  intro K hK
  have HK := hide hK
  clear hK
  go_wp2
  exact (unhide HK) _ _ ((unhide HC) _ _ _ _ _ _ _ _ _ _ _ _ _ _ _ _ _ _ _ _ _ _ _ _ _ _ _ _ _ _ _ _ _ _ _ _ _ _ _ _ _ _ _ _ _ _ _ _ _ _ _ _ _ _ _ _ _ _ _ _ _ _ _ _ _ _ _ _ _ _ _ _ _ _ _ _ _ _ _ _ _ _ _ _ _ _ _ _ _ _ (unhide HX) (Mod.refl _ _))

set_option maxHeartbeats 4000000 in
set_option maxRecDepth 10000 in
theorem tell_some {u2 u3 u5 u8 u9 u10 u11 u12 u13 u14 u15 u16 u17 u18 u19 u20 u21 u22 u23 u24 u25 u26 u27 u28 u29 u30 u31 u32 u33 u34 u35 u36 u37 u38 u39 u40 u41 u42 u43 u44 u45 u46 u47 u48 u49 u50 u51 u52 u53 u54 u55 u56 u57 u58 u59 u60 u61 u62 u63 u64 u65 u66 u67 u68 u69 u70 u71 u72 u73 u74 u75 u76 u77 u78 u79 u80 u81 u82 u83 u84 u85 u86 u87 u88 u89 u90 u91 u92 u93 : Value} {bR i br bo bn : Nat} {w : World} {r : OneR} {n : NodeM} {Q : Exit → Act → World → Prop} (hx : Boxes w bo bn br r n) {kb koff kc L f l : Nat} (hkv : r.kv = .slice (some ⟨kb, koff, none⟩) (L + 1) kc) (hL : L ≤ 32768) (df : w.cell? ⟨kb, koff, none⟩ = some (.int .i64 (f : Nat))) (dl : w.cell? ⟨kb, koff + L, none⟩ = some (.int .i64 (l : Nat))) (kne : kb ≠ bn)
    (hK : ∀ (v2 v3 v5 v8 v9 v10 v11 v12 v13 v14 v15 v16 v17 v18 v19 v20 v21 v22 v23 v24 v25 v26 v27 v28 v29 v30 v31 v32 v33 v34 v35 v36 v37 v38 v39 v40 v41 v42 v43 v44 v45 v46 v47 v48 v49 v50 v51 v52 v53 v54 v55 v56 v57 v58 v59 v60 v61 v62 v63 v64 v65 v66 v67 v68 v69 v70 v71 v72 v73 v74 v75 v76 v77 v78 v79 v80 v81 v82 v83 v84 v85 v86 v87 v88 v89 v90 v91 v92 v93 : Value) (w' : World), Boxes w' bo bn br r { n with first := (f : Int), last := (l : Int) } → Mod (fun k => k = bn) w w' → Code.wp Try.prog (tell8 Try.f47) Q ⟨List.toArray (.pointer (some ⟨bR, 0, none⟩) :: .int .i64 (i : Nat) :: v2 :: v3 :: .pointer (some ⟨br, 0, none⟩) :: v5 :: .pointer (some ⟨bo, 0, none⟩) :: .pointer (some ⟨bn, 0, none⟩) :: v8 :: v9 :: v10 :: v11 :: v12 :: v13 :: v14 :: v15 :: v16 :: v17 :: v18 :: v19 :: v20 :: v21 :: v22 :: v23 :: v24 :: v25 :: v26 :: v27 :: v28 :: v29 :: v30 :: v31 :: v32 :: v33 :: v34 :: v35 :: v36 :: v37 :: v38 :: v39 :: v40 :: v41 :: v42 :: v43 :: v44 :: v45 :: v46 :: v47 :: v48 :: v49 :: v50 :: v51 :: v52 :: v53 :: v54 :: v55 :: v56 :: v57 :: v58 :: v59 :: v60 :: v61 :: v62 :: v63 :: v64 :: v65 :: v66 :: v67 :: v68 :: v69 :: v70 :: v71 :: v72 :: v73 :: v74 :: v75 :: v76 :: v77 :: v78 :: v79 :: v80 :: v81 :: v82 :: v83 :: v84 :: v85 :: v86 :: v87 :: v88 :: v89 :: v90 :: v91 :: v92 :: v93 :: []), []⟩ w') :
    Code.wp Try.prog (tell5 Try.f47) Q ⟨List.toArray (.pointer (some ⟨bR, 0, none⟩) :: .int .i64 (i : Nat) :: u2 :: u3 :: .pointer (some ⟨br, 0, none⟩) :: u5 :: .pointer (some ⟨bo, 0, none⟩) :: .pointer (some ⟨bn, 0, none⟩) :: u8 :: u9 :: u10 :: u11 :: u12 :: u13 :: u14 :: u15 :: u16 :: u17 :: u18 :: u19 :: u20 :: u21 :: u22 :: u23 :: u24 :: u25 :: u26 :: u27 :: u28 :: u29 :: u30 :: u31 :: u32 :: u33 :: u34 :: u35 :: u36 :: u37 :: u38 :: u39 :: u40 :: u41 :: u42 :: u43 :: u44 :: u45 :: u46 :: u47 :: u48 :: u49 :: u50 :: u51 :: u52 :: u53 :: u54 :: u55 :: u56 :: u57 :: u58 :: u59 :: u60 :: u61 :: u62 :: u63 :: u64 :: u65 :: u66 :: u67 :: u68 :: u69 :: u70 :: u71 :: u72 :: u73 :: u74 :: u75 :: u76 :: u77 :: u78 :: u79 :: u80 :: u81 :: u82 :: u83 :: u84 :: u85 :: u86 :: u87 :: u88 :: u89 :: u90 :: u91 :: u92 :: u93 :: []), []⟩ w := by
  have HC := hide hK
  obtain ⟨o8, o9⟩ := hx.co
  obtain ⟨n0, n1, n2, n3, n4, n5, n6, n7, n8, n9, n10, n11⟩ := hx.cn
  obtain ⟨fn, fr⟩ := hx.free
  obtain ⟨ne1, ne2⟩ := hx.on
  have HX := hide hx
  clear hK hx
  rw [hkv] at o9
  clear hkv
  have ne5 := Ne.symm kne
  conv => arg 2; whnf
  apply wp_seq_k
  intro K hK
  have HK := hide hK
  clear hK
  go_wp2
  refine (unhide HK) _ _ ((unhide HC) _ _ _ _ _ _ _ _ _ _ _ _ _ _ _ _ _ _ _ _ _ _ _ _ _ _ _ _ _ _ _ _ _ _ _ _ _ _ _ _ _ _ _ _ _ _ _ _ _ _ _ _ _ _ _ _ _ _ _ _ _ _ _ _ _ _ _ _ _ _ _ _ _ _ _ _ _ _ _ _ _ _ _ _ _ _ _ _ _ _ (Boxes.set (m := { n with first := (f : Int), last := (l : Int) }) (Boxes.set (m := { n with first := (f : Int) }) (unhide HX) 7 (.int .i64 (f : Nat)) rfl) 8 (.int .i64 (l : Nat)) rfl) ((Mod.setCell (F := fun k => k = bn) w ⟨bn, 7, none⟩ _ rfl).trans (Mod.setCell (F := fun k => k = bn) _ ⟨bn, 8, none⟩ _ rfl)))
end Go.Proofs.Ytlbkoafeedlfaaa

namespace Go.Proofs.Ytlbkoafeedlfaaa
open Go.RowKit
set_option linter.unusedVariables false

/-- The cells of the box of a node of the document's arena that its Node reads. -/
def BoxO (w' : World) (b : Nat) (r : OneR) (av : Value) : Prop :=
  w'.cell? ⟨b, 0, none⟩ = some (.int .i64 r.o.kind) ∧ w'.cell? ⟨b, 1, none⟩ = some (.int .i64 r.o.space) ∧ w'.cell? ⟨b, 2, none⟩ = some (.string r.o.name) ∧ w'.cell? ⟨b, 3, none⟩ = some av ∧ w'.cell? ⟨b, 4, none⟩ = some (.string r.o.data) ∧ w'.cell? ⟨b, 5, none⟩ = some (.string r.o.system) ∧ w'.cell? ⟨b, 8, none⟩ = some (.int .i64 r.o.up) ∧ w'.cell? ⟨b, 6, none⟩ = some (.int .i64 r.o.inner)
theorem BoxO.of {w w1 : World} {b : Nat} {r : OneR} {av : Value} (h : BoxO w b r av) (he : ∀ j, w1.cell? ⟨b, j, none⟩ = w.cell? ⟨b, j, none⟩) : BoxO w1 b r av := by
  unfold BoxO at h ⊢
  simp only [he]
  exact h

theorem BoxO.drew {w : World} {b : Nat} {r : OneR} {av : Value} (h : BoxO w b r av) : BoxO w.drew b r av := h
theorem BoxO.alloc {w : World} {b : Nat} {r : OneR} {av : Value} (h : BoxO w b r av) (hb : b < w.heap.size) (o : Obj) : BoxO (w.alloc o) b r av := h.of fun j => ((Below.refl _ w).alloc (Nat.le_refl _) o).cell (p := ⟨b, j, none⟩) hb
theorem BoxO.set {w : World} {b k i : Nat} {r : OneR} {av v : Value} (h : BoxO w b r av) (hk : b ≠ k) : BoxO (w.setCell ⟨k, i, none⟩ v) b r av := h.of fun j => World.cell?_of_block (Below.heap_setCell _ _ _ _ hk)

/-- A list of attributes appended to an empty one, in whatever world. -/
theorem step_copy_attrs {ops : Array Oper} {o : Oper} {a : Act} {K : Act → World → Prop} {Q : Exit → Act → World → Prop} {E : Prop} {W : World} (hgd : o.guard = none) (s x : Operand)
    (ho : o.op = .call { callee := .builtin .append, args := #[s, x], argTypes := #[30, 30] }) (k b off c : Nat) (l : List AttrM) (hs : a.eval s = .slice (some ⟨k, 0, none⟩) 0 0) (hx : a.eval x = .slice (some ⟨b, off, none⟩) l.length c)
    (hk : W.heap[k]? = some (.cells #[] 29 (0, 0))) (hl : AttrsIn W (some ⟨b, off, none⟩) l) (h0 : 0 < l.length) (hl2 : l.length ≤ 1024)
    (h : ∀ g4 c4 w4, AttrsIn w4 (some ⟨g4, 0, none⟩) l → Mod (fun q => q = k) W w4 → (g4 = k ∨ g4 = W.heap.size) → g4 < w4.heap.size → K (a.put o.dst (.slice (some ⟨g4, 0, none⟩) l.length c4)) w4) :
    if Region.wanted o (yielded ops a.tmps) = true then Oper.wp Try.prog o a W K Q else E := by
  obtain ⟨i0, hi0, hz0, hz1, hz2⟩ := info_parts Try.info29
  have hklt := lt_of_block hk
  have hown : W.ownsRow 0 29 4 (.slice (some ⟨k, 0, none⟩) 0 0) 0 [] := ⟨by simp, .inr ⟨k, 0, #[], rfl, Nat.zero_le _, hk, Nat.le_refl _, by simp [maxLen], by simp, by simp⟩⟩
  refine step_append_lies W hgd s x 30 ho 0 29 i0 _ 4 56 Try.underlying30 hi0 hz0 hz1 hz2 rfl (by omega) (.slice (some ⟨k, 0, none⟩) 0 0) 0 [] hs hown ⟨b, off, none⟩ l.length c (attrRow l) hx (flat_len AttrM.cells 4 attr_len l) hl.row (attrs_oneCell l) h0 (by unfold maxLen; omega) (by omega) (Nat.zero_le _) _ rfl ?_
  intro g4 c4 w4 hown4 hgrow4 hat4 hlt4
  simp only [Nat.zero_add, List.nil_append] at hown4 ⊢
  obtain ⟨a2, c2, e, hA⟩ := ownsRow_attrs hown4
  simp only [Value.slice.injEq] at e
  obtain ⟨rfl, _, _⟩ := e
  exact h g4 c4 w4 hA (Mod.grown hgrow4 (fun q hq => by simp [Value.ownBlock] at hq; exact hq.symm)) (hat4.imp (fun e => by simp [Value.ownBlock] at e; exact e.symm) id) hlt4

theorem World.block_lt_of_attrs {w : World} {b off : Nat} {l : List AttrM} (h : AttrsIn w (some ⟨b, off, none⟩) l) (h0 : 0 < l.length) : b < w.heap.size := by
  obtain ⟨b', off', e, c0, _⟩ := h.cells 0 _ (List.getElem?_eq_getElem h0)
  cases e
  exact World.block_lt_of_cell? w _ c0
/-- A list of attributes in a world where its block is as it was. -/
theorem attrs_up {w W : World} {b off : Nat} {l : List AttrM} (h : AttrsIn w (some ⟨b, off, none⟩) l) (hb : b < w.heap.size) (hW : Below w.heap.size w W) : AttrsIn W (some ⟨b, off, none⟩) l := h.below hW

theorem BoxO.mod {w w1 : World} {b k : Nat} {r : OneR} {av : Value} (h : BoxO w b r av) (hm : Mod (fun q => q = k) w w1) (hb : b < w.heap.size) (hk : b ≠ k) : BoxO w1 b r av := h.of fun j => World.cell?_of_block (hm.block b hb hk)
theorem mod_cells {w w1 : World} {k : Nat} (hm : Mod (fun q => q = k) w w1) : (∀ b o, b < w.heap.size → ¬ b = k → w1.cell? ⟨b, o, none⟩ = w.cell? ⟨b, o, none⟩) ∧ (∀ b o, b < w.heap.size → ¬ b = k → w1.frozen? ⟨b, o, none⟩ = w.frozen? ⟨b, o, none⟩) :=
  ⟨fun b _ hb hk => World.cell?_of_block (hm.block b hb hk), fun b _ hb hk => World.frozen?_of_block (hm.block b hb hk)⟩

theorem blk_last (X : World) (o : Obj) (k : Nat) (hk : k = X.heap.size) : (X.alloc o).heap[k]? = some o := by subst hk; exact heap_alloc_new X o
theorem blk_old (X : World) (o : Obj) (k : Nat) (hk : k < X.heap.size) {v : Obj} (h : X.heap[k]? = some v) : (X.alloc o).heap[k]? = some v := by rw [Below.heap_alloc _ _ _ hk]; exact h

theorem zero_cells {W : World} {b : Nat} (h : W.heap[b]? = some (.cells #[.int .i64 0, .int .i64 0, .string ⟨#[]⟩, .slice none 0 0, .string ⟨#[]⟩, .string ⟨#[]⟩, .int .i64 0, .int .i64 0, .int .i64 0, .int .i64 0, .int .i64 0, .int .i64 0] 37 (0, 0))) : W.cell? ⟨b, 0, none⟩ = some (.int .i64 0) ∧ W.cell? ⟨b, 1, none⟩ = some (.int .i64 0) ∧ W.cell? ⟨b, 2, none⟩ = some (.string ⟨#[]⟩) ∧ W.cell? ⟨b, 3, none⟩ = some (.slice none 0 0) ∧ W.cell? ⟨b, 4, none⟩ = some (.string ⟨#[]⟩) ∧ W.cell? ⟨b, 5, none⟩ = some (.string ⟨#[]⟩) ∧
    W.cell? ⟨b, 6, none⟩ = some (.int .i64 0) ∧ W.cell? ⟨b, 7, none⟩ = some (.int .i64 0) ∧ W.cell? ⟨b, 8, none⟩ = some (.int .i64 0) ∧ W.cell? ⟨b, 9, none⟩ = some (.int .i64 0) ∧ W.cell? ⟨b, 10, none⟩ = some (.int .i64 0) ∧ W.cell? ⟨b, 11, none⟩ = some (.int .i64 0) ∧ ∀ j, W.frozen? ⟨b, j, none⟩ = false := by
  refine ⟨?_, ?_, ?_, ?_, ?_, ?_, ?_, ?_, ?_, ?_, ?_, ?_, fun j => by simp [World.frozen?, h]⟩ <;> (rw [cell_of_row W b _ _ _ _ h]; rfl)

abbrev zeroBox : Obj := .cells #[.int .i64 0, .int .i64 0, .string ⟨#[]⟩, .slice none 0 0, .string ⟨#[]⟩, .string ⟨#[]⟩, .int .i64 0, .int .i64 0, .int .i64 0, .int .i64 0, .int .i64 0, .int .i64 0] 37
abbrev oneBox (r : OneR) (av kv : Value) : Obj := .cells #[.int .i64 r.o.kind, .int .i64 r.o.space, .string r.o.name, av, .string r.o.data, .string r.o.system, .int .i64 r.o.inner, .int .i64 r.o.host, .int .i64 r.o.up, kv] 76
theorem boxO_new (w : World) (r : OneR) (av kv : Value) : BoxO ((w.alloc zeroBox).alloc (oneBox r av kv)) (w.heap.size + 1) r av := by
  unfold BoxO
  refine ⟨?_, ?_, ?_, ?_, ?_, ?_, ?_, ?_⟩
  all_goals simp

abbrev emptyBox : Obj := .cells #[] 29
def toldN (r : OneR) (na : Option Addr) (nc : Nat) : NodeM := { kind := r.o.kind, space := r.o.space, name := r.o.name, av := .slice na r.o.attrs.length nc, data := r.o.data, system := r.o.system, parent := r.o.up, first := -1, last := -1, prev := -1, next := -1, inner := r.o.inner, attrs := r.o.attrs }

theorem chain2 (w : World) (o0 o1 o2 : Obj) : (((w.alloc o0).alloc o1).alloc o2).heap[w.heap.size]? = some o0 := by
  rw [Below.heap_alloc _ _ _ (by simp; omega), Below.heap_alloc _ _ _ (by simp)]; exact heap_alloc_new w o0
theorem chain3 (w : World) (o0 o1 o2 o3 : Obj) : ((((w.alloc o0).alloc o1).alloc o2).alloc o3).heap[w.heap.size]? = some o0 := by
  rw [Below.heap_alloc _ _ _ (by simp; omega)]; exact chain2 w o0 o1 o2
theorem mod_up {w W w4 : World} {k : Nat} (hM : Mod (fun q => q = k) W w4) (hW : Below w.heap.size w W) (hk : w.heap.size ≤ k) : Below w.heap.size w w4 := hW.trans (hM.below hW.size (fun q hq => by subst hq; exact hk))
theorem told_box1 {w4 : World} {b0 b1 g4 c4 : Nat} {r : OneR} {av kv : Value} (hav : r.av = av) (hkv : r.kv = kv) (ho : w4.heap[b1]? = some (oneBox r av kv)) (hr : w4.heap[b0]? = some zeroBox) :
    Boxes (w4.alloc (.cells #[.int .i64 r.o.kind, .int .i64 r.o.space, .string r.o.name, .slice (some ⟨g4, 0, none⟩) r.o.attrs.length c4, .string r.o.data, .string r.o.system, .int .i64 r.o.up, .int .i64 (-1), .int .i64 (-1), .int .i64 (-1), .int .i64 (-1), .int .i64 r.o.inner] 37)) b1 w4.heap.size b0 r (toldN r (some ⟨g4, 0, none⟩) c4) := by
  subst hav hkv
  have l1 := lt_of_block ho
  have l0 := lt_of_block hr
  exact ⟨(Below.heap_alloc _ _ _ l1).trans ho, heap_alloc_new w4 _, ⟨_, (Below.heap_alloc _ _ _ l0).trans hr, rfl⟩, by omega⟩
theorem told_box2 {w4 : World} {b0 b1 bn g4 c4 : Nat} {r : OneR} {av kv : Value} (hav : r.av = av) (hkv : r.kv = kv) (ho : w4.heap[b1]? = some (oneBox r av kv)) (hr : w4.heap[b0]? = some zeroBox) (hn : w4.heap[bn]? = some zeroBox) (hne : bn ≠ b0) :
    Boxes (put12 w4 bn (toldN r (some ⟨g4, 0, none⟩) c4)) b1 bn b0 r (toldN r (some ⟨g4, 0, none⟩) c4) := by
  subst hav hkv
  have hm := put12_mod w4 bn (toldN r (some ⟨g4, 0, none⟩) c4)
  have n1 : b1 ≠ bn := fun e => by rw [e, hn] at ho; simp [zeroBox, oneBox] at ho
  exact ⟨(hm.block b1 (lt_of_block ho) n1).trans ho, put12_block w4 bn _ _ 37 hn rfl, ⟨_, (hm.block b0 (lt_of_block hr) hne.symm).trans hr, rfl⟩, hne⟩
theorem told_below {w w4 : World} {bn : Nat} {n : NodeM} (hb : Below w.heap.size w w4) (hn : w.heap.size ≤ bn) : Below w.heap.size w (put12 w4 bn n) := hb.trans ((put12_mod w4 bn n).below hb.size (fun q hq => by subst hq; exact hn))
theorem attrs_alloc {w : World} {a : Option Addr} {l : List AttrM} {o : Obj} (h : AttrsIn w a l) : AttrsIn (w.alloc o) a l := h.below ((Below.refl _ w).alloc (Nat.le_refl _) o)
theorem told_attrs {w4 : World} {bn g4 k S : Nat} {n : NodeM} {l : List AttrM} (h : AttrsIn w4 (some ⟨g4, 0, none⟩) l) (hg : g4 = k ∨ g4 = S) (hz : w4.heap[bn]? = some zeroBox) (hne : bn ≠ k ∧ bn < S) : AttrsIn (put12 w4 bn n) (some ⟨g4, 0, none⟩) l :=
  h.mod fun b off e => by
    cases e
    by_cases hl : g4 < w4.heap.size
    · exact (put12_mod w4 bn n).block g4 hl (by omega)
    · have h1 : w4.heap[g4]? = none := by simp; omega
      have h2 : (put12 w4 bn n).heap.size = w4.heap.size := by simp [put12]
      rw [h1]; simp; omega


set_option maxHeartbeats 8000000 in
set_option maxRecDepth 10000 in
theorem refNode_some {w : World} {base bR g cap : Nat} {rs : List OneR} (h : Rf w base bR g cap rs) (i : Nat) (r : OneR) (hi : rs[i]? = some r) {a : Nat} {off cp : Nat} (hav : r.av = .slice (some ⟨a, off, none⟩) r.o.attrs.length cp) (h0 : 0 < r.o.attrs.length) (hfew : r.o.attrs.length ≤ 1024) (hat : AttrsIn w (some ⟨a, off, none⟩) r.o.attrs) {R : Ending → World → Prop}
    (hK : ∀ (v2 v3 v5 v8 v9 v10 v11 v12 v13 v14 v15 v16 v17 v18 v19 v20 v21 v22 v23 v24 v25 v26 v27 v28 v29 v30 v31 v32 v33 v34 v35 v36 v37 v38 v39 v40 v41 v42 v43 v44 v45 v46 v47 v48 v49 v50 v51 v52 v53 v54 v55 v56 v57 v58 v59 v60 v61 v62 v63 v64 v65 v66 v67 v68 v69 v70 v71 v72 v73 v74 v75 v76 v77 v78 v79 v80 v81 v82 v83 v84 v85 v86 v87 v88 v89 v90 v91 v92 v93 : Value) (bn nc : Nat) (na : Option Addr) (w' : World), Boxes w' (w.heap.size + 1) bn w.heap.size r (toldN r na nc) → Below w.heap.size w w' → w.heap.size ≤ bn → AttrsIn w' na r.o.attrs → (∀ b off, na = some ⟨b, off, none⟩ → b ≠ bn ∧ b ≠ w.heap.size) → Code.wp Try.prog (tell5 Try.f47) (bodyPost Try.prog Try.f47 R) ⟨List.toArray (.pointer (some ⟨bR, 0, none⟩) :: .int .i64 (i : Nat) :: v2 :: v3 :: .pointer (some ⟨w.heap.size, 0, none⟩) :: v5 :: .pointer (some ⟨w.heap.size + 1, 0, none⟩) :: .pointer (some ⟨bn, 0, none⟩) :: v8 :: v9 :: v10 :: v11 :: v12 :: v13 :: v14 :: v15 :: v16 :: v17 :: v18 :: v19 :: v20 :: v21 :: v22 :: v23 :: v24 :: v25 :: v26 :: v27 :: v28 :: v29 :: v30 :: v31 :: v32 :: v33 :: v34 :: v35 :: v36 :: v37 :: v38 :: v39 :: v40 :: v41 :: v42 :: v43 :: v44 :: v45 :: v46 :: v47 :: v48 :: v49 :: v50 :: v51 :: v52 :: v53 :: v54 :: v55 :: v56 :: v57 :: v58 :: v59 :: v60 :: v61 :: v62 :: v63 :: v64 :: v65 :: v66 :: v67 :: v68 :: v69 :: v70 :: v71 :: v72 :: v73 :: v74 :: v75 :: v76 :: v77 :: v78 :: v79 :: v80 :: v81 :: v82 :: v83 :: v84 :: v85 :: v86 :: v87 :: v88 :: v89 :: v90 :: v91 :: v92 :: v93 :: []), []⟩ w') :
    Calls Try.prog 47 #[.pointer (some ⟨bR, 0, none⟩), .int .i64 i] w R := by
  have HC := hide hK
  obtain ⟨c0, c1, c2, c3, c4, c5, c6, c7, c8, c9⟩ := h.cells10 hi
  obtain ⟨kv, hkv⟩ : ∃ x, r.kv = x := ⟨_, rfl⟩
  obtain ⟨ka, kcp, hkv2, _, _⟩ := h.kids i r hi
  rw [hkv2] at hkv
  have hlt := (List.getElem?_eq_some_iff.1 hi).1
  have hmost := h.most
  have hAr := h.cR
  have hlR := h.lt.1
  have hlg := h.lt.2
  have HIS := hide (refIs_any (h.alloc zeroBox) i)
  rw [hasO_of (osOf_get hi)] at HIS
  rw [hav] at c3
  rw [hkv2] at c9
  have HAV := hide hav
  have HKV := hide hkv2
  subst hkv
  have HAT := hide hat
  have HBN := hide (boxO_new w r (.slice (some ⟨a, off, none⟩) r.o.attrs.length cp) (.slice ka r.o.kids.length kcp))
  have hal := World.block_lt_of_attrs hat h0
  clear h hi hK hav hkv2 hat
  go_enter Try.func47, Try.ntmps47
  go_wp2_with (first | (go_at_call 79; refine (unhide HIS).mono ?_; rintro e w' ⟨rfl, rfl⟩))
  go_region_held3 (fun w' => w'.cell? ⟨w.heap.size + 1, 0, none⟩ = some (.int .i64 r.o.kind) ∧ w'.cell? ⟨w.heap.size + 1, 1, none⟩ = some (.int .i64 r.o.space) ∧ w'.cell? ⟨w.heap.size + 1, 2, none⟩ = some (.string r.o.name) ∧ w'.cell? ⟨w.heap.size + 1, 3, none⟩ = some (.slice (some ⟨a, off, none⟩) r.o.attrs.length cp) ∧ w'.cell? ⟨w.heap.size + 1, 4, none⟩ = some (.string r.o.data) ∧ w'.cell? ⟨w.heap.size + 1, 5, none⟩ = some (.string r.o.system) ∧ w'.cell? ⟨w.heap.size + 1, 8, none⟩ = some (.int .i64 r.o.up) ∧ w'.cell? ⟨w.heap.size + 1, 6, none⟩ = some (.int .i64 r.o.inner)) ((change BoxO _ (w.heap.size + 1) r (.slice (some ⟨a, off, none⟩) r.o.attrs.length cp); repeat (first | ((with_reducible refine BoxO.set ?_ ?_); rotate_left; (first | omega | (simp; done) | (simp; omega))) | exact unhide HY4 | exact unhide HBN | refine BoxO.drew ?_ | refine BoxO.alloc ?_ (by first | omega | (simp; done) | (simp; omega)) _))) (first
    | (refine step_copy_attrs (by rfl) _ _ (by rfl) (w.heap.size + 2) a off cp r.o.attrs (by rfl) (by rfl) (blk_last _ _ _ (by simp; done)) (by exact attrs_up (unhide HAT) hal (by repeat (first | exact Below.refl _ _ | apply Below.drew | (refine Below.alloc ?_ (by first | (simp; done) | (simp; omega)) _)))) h0 hfew ?_; intro g4 c4 w4 hA4 hM4 hg4 hlt4; have HY4 := hide ((show BoxO _ (w.heap.size + 1) r (.slice (some ⟨a, off, none⟩) r.o.attrs.length cp) from by repeat (first | exact unhide HBN | refine BoxO.drew ?_ | refine BoxO.alloc ?_ (by first | omega | (simp; done) | (simp; omega)) _)).mod hM4 (by first | (simp; done) | (simp; omega)) (by omega)); have hs4 := hM4.size; simp at hs4; have HM4 := hide hM4; have HA4 := hide hA4; have HG4 := hide hg4; clear hM4 hA4 hg4)
    | (refine step_copy_attrs (by rfl) _ _ (by rfl) (w.heap.size + 2) a off cp r.o.attrs (by rfl) (by rfl) (blk_old _ _ _ (by simp; done) (blk_last _ _ _ (by simp; done))) (by exact attrs_up (unhide HAT) hal (by repeat (first | exact Below.refl _ _ | apply Below.drew | (refine Below.alloc ?_ (by first | (simp; done) | (simp; omega)) _)))) h0 hfew ?_; intro g4 c4 w4 hA4 hM4 hg4 hlt4; have HY4 := hide ((show BoxO _ (w.heap.size + 1) r (.slice (some ⟨a, off, none⟩) r.o.attrs.length cp) from by repeat (first | exact unhide HBN | refine BoxO.drew ?_ | refine BoxO.alloc ?_ (by first | omega | (simp; done) | (simp; omega)) _)).mod hM4 (by first | (simp; done) | (simp; omega)) (by omega)); have hs4 := hM4.size; simp at hs4; have hz4 := (hM4.block (w.heap.size + 3) (by simp; done) (by omega)).trans (blk_last _ _ _ (by simp; done)); obtain ⟨e0, e1, e2, e3, e4, e5, e6, e7, e8, e9, e10, e11, ef⟩ := zero_cells hz4; have HZ4 := hide hz4; clear hz4; have HM4 := hide hM4; have HA4 := hide hA4; have HG4 := hide hg4; clear hM4 hA4 hg4)
    | (refine step_copy_attrs (by rfl) _ _ (by rfl) (w.heap.size + 3) a off cp r.o.attrs (by rfl) (by rfl) (blk_last _ _ _ (by simp; done)) (by exact attrs_up (unhide HAT) hal (by repeat (first | exact Below.refl _ _ | apply Below.drew | (refine Below.alloc ?_ (by first | (simp; done) | (simp; omega)) _)))) h0 hfew ?_; intro g4 c4 w4 hA4 hM4 hg4 hlt4; have HY4 := hide ((show BoxO _ (w.heap.size + 1) r (.slice (some ⟨a, off, none⟩) r.o.attrs.length cp) from by repeat (first | exact unhide HBN | refine BoxO.drew ?_ | refine BoxO.alloc ?_ (by first | omega | (simp; done) | (simp; omega)) _)).mod hM4 (by first | (simp; done) | (simp; omega)) (by omega)); have hs4 := hM4.size; simp at hs4; have hz4 := (hM4.block (w.heap.size + 2) (by simp; done) (by omega)).trans (blk_old _ _ _ (by simp; done) (blk_last _ _ _ (by simp; done))); obtain ⟨e0, e1, e2, e3, e4, e5, e6, e7, e8, e9, e10, e11, ef⟩ := zero_cells hz4; have HZ4 := hide hz4; clear hz4; have HM4 := hide hM4; have HA4 := hide hA4; have HG4 := hide hg4; clear hM4 hA4 hg4))
  all_goals
    rename_i K hK hH
    clear hH
    have hM4 := unhide HM4
    have hb4 : Below w.heap.size w w4 := mod_up hM4 (by repeat (first | exact Below.refl _ _ | apply Below.drew | (refine Below.alloc ?_ (by first | (simp; done) | (simp; omega)) _))) (by omega)
    have ho4 : w4.heap[w.heap.size + 1]? = some (oneBox r (.slice (some ⟨a, off, none⟩) r.o.attrs.length cp) (.slice ka r.o.kids.length kcp)) := (hM4.block (w.heap.size + 1) (by first | (simp; done) | (simp; omega)) (by omega)).trans (by repeat (first | exact blk_last _ _ _ (by simp; done) | refine blk_old _ _ _ (by first | (simp; done) | (simp; omega)) ?_))
    have hr4 : w4.heap[w.heap.size]? = some zeroBox := (hM4.block w.heap.size (by first | (simp; done) | (simp; omega)) (by omega)).trans (by first | exact chain2 w zeroBox _ _ | exact chain3 w zeroBox _ _ _)
    clear hM4
    refine hK _ _ ?_
    clear hK
  · refine (unhide HC) _ _ _ _ _ _ _ _ _ _ _ _ _ _ _ _ _ _ _ _ _ _ _ _ _ _ _ _ _ _ _ _ _ _ _ _ _ _ _ _ _ _ _ _ _ _ _ _ _ _ _ _ _ _ _ _ _ _ _ _ _ _ _ _ _ _ _ _ _ _ _ _ _ _ _ _ _ _ _ _ _ _ _ _ _ _ _ _ _ w4.heap.size c4 (some ⟨g4, 0, none⟩) _ ?_ ?_ ?_ ?_ ?_
    · exact told_box1 (unhide HAV) (unhide HKV) ho4 hr4
    · exact hb4.alloc hb4.size _
    · exact hb4.size
    · exact attrs_alloc (unhide HA4)
    · have hg := unhide HG4
      simp at hg
      intro b off e
      cases e
      constructor <;> omega
  · refine (unhide HC) _ _ _ _ _ _ _ _ _ _ _ _ _ _ _ _ _ _ _ _ _ _ _ _ _ _ _ _ _ _ _ _ _ _ _ _ _ _ _ _ _ _ _ _ _ _ _ _ _ _ _ _ _ _ _ _ _ _ _ _ _ _ _ _ _ _ _ _ _ _ _ _ _ _ _ _ _ _ _ _ _ _ _ _ _ _ _ _ _ (w.heap.size + 3) c4 (some ⟨g4, 0, none⟩) (put12 w4 (w.heap.size + 3) (toldN r (some ⟨g4, 0, none⟩) c4)) ?_ ?_ ?_ ?_ ?_
    · exact told_box2 (unhide HAV) (unhide HKV) ho4 hr4 (unhide HZ4) (by omega)
    · exact told_below hb4 (by omega)
    · omega
    · exact told_attrs (unhide HA4) (unhide HG4) (unhide HZ4) (by simp)
    · have hg := unhide HG4
      simp at hg
      intro b off e
      cases e
      constructor <;> omega
  · refine (unhide HC) _ _ _ _ _ _ _ _ _ _ _ _ _ _ _ _ _ _ _ _ _ _ _ _ _ _ _ _ _ _ _ _ _ _ _ _ _ _ _ _ _ _ _ _ _ _ _ _ _ _ _ _ _ _ _ _ _ _ _ _ _ _ _ _ _ _ _ _ _ _ _ _ _ _ _ _ _ _ _ _ _ _ _ _ _ _ _ _ _ (w.heap.size + 2) c4 (some ⟨g4, 0, none⟩) (put12 w4 (w.heap.size + 2) (toldN r (some ⟨g4, 0, none⟩) c4)) ?_ ?_ ?_ ?_ ?_
    · exact told_box2 (unhide HAV) (unhide HKV) ho4 hr4 (unhide HZ4) (by omega)
    · exact told_below hb4 (by omega)
    · omega
    · exact told_attrs (unhide HA4) (unhide HG4) (unhide HZ4) (by simp)
    · have hg := unhide HG4
      simp at hg
      intro b off e
      cases e
      constructor <;> omega
end Go.Proofs.Ytlbkoafeedlfaaa

namespace Go.Proofs.Ytlbkoafeedlfaaa
open Go.RowKit
set_option linter.unusedVariables false

abbrev toldBox (r : OneR) (g4 : Nat) : Obj := .cells #[.int .i64 r.o.kind, .int .i64 r.o.space, .string r.o.name, .slice (some ⟨g4, 0, none⟩) 0 0, .string r.o.data, .string r.o.system, .int .i64 r.o.up, .int .i64 (-1), .int .i64 (-1), .int .i64 (-1), .int .i64 (-1), .int .i64 r.o.inner] 37
theorem told_cells (r : OneR) (g4 : Nat) (h0 : r.o.attrs = []) : toldBox r g4 = .cells (toldN r (some ⟨g4, 0, none⟩) 0).cells.toArray 37 (0, 0) := by
  simp [toldN, NodeM.cells, h0]
theorem told_nil1 (w : World) {r : OneR} {av kv : Value} (hav : r.av = av) (hkv : r.kv = kv) (h0 : r.o.attrs = []) (o2 : Obj) (g4 : Nat) :
    Boxes ((((w.alloc zeroBox).alloc (oneBox r av kv)).alloc o2).alloc (toldBox r g4)).drew (w.heap.size + 1) (w.heap.size + 3) w.heap.size r (toldN r (some ⟨g4, 0, none⟩) 0) := by
  subst hav hkv
  refine ⟨?_, ?_, ⟨_, chain3 w zeroBox _ _ _, rfl⟩, by omega⟩
  · show ((((w.alloc zeroBox).alloc (oneBox r r.av r.kv)).alloc o2).alloc (toldBox r g4)).heap[w.heap.size + 1]? = _
    rw [Below.heap_alloc _ _ _ (by simp), Below.heap_alloc _ _ _ (by simp)]
    have := heap_alloc_new (w.alloc zeroBox) (oneBox r r.av r.kv)
    rw [World.size_alloc] at this
    exact this
  · show ((((w.alloc zeroBox).alloc (oneBox r r.av r.kv)).alloc o2).alloc (toldBox r g4)).heap[w.heap.size + 3]? = _
    have := heap_alloc_new (((w.alloc zeroBox).alloc (oneBox r r.av r.kv)).alloc o2) (toldBox r g4)
    rw [told_cells r g4 h0] at this ⊢
    simpa using this
theorem told_nil2 (w : World) {r : OneR} {av kv : Value} (hav : r.av = av) (hkv : r.kv = kv) (h0 : r.o.attrs = []) (o2 : Obj) (g4 : Nat) :
    Boxes ((((w.alloc zeroBox).alloc (oneBox r av kv)).alloc (toldBox r g4)).alloc o2).drew (w.heap.size + 1) (w.heap.size + 2) w.heap.size r (toldN r (some ⟨g4, 0, none⟩) 0) := by
  subst hav hkv
  refine ⟨?_, ?_, ⟨_, chain3 w zeroBox _ _ _, rfl⟩, by omega⟩
  · show ((((w.alloc zeroBox).alloc (oneBox r r.av r.kv)).alloc (toldBox r g4)).alloc o2).heap[w.heap.size + 1]? = _
    rw [Below.heap_alloc _ _ _ (by simp), Below.heap_alloc _ _ _ (by simp)]
    have := heap_alloc_new (w.alloc zeroBox) (oneBox r r.av r.kv)
    rw [World.size_alloc] at this
    exact this
  · show ((((w.alloc zeroBox).alloc (oneBox r r.av r.kv)).alloc (toldBox r g4)).alloc o2).heap[w.heap.size + 2]? = _
    rw [Below.heap_alloc _ _ _ (by simp)]
    have := heap_alloc_new ((w.alloc zeroBox).alloc (oneBox r r.av r.kv)) (toldBox r g4)
    rw [told_cells r g4 h0] at this ⊢
    simpa using this
theorem attrs_nil {w : World} {a : Option Addr} {l : List AttrM} (h : l = []) : AttrsIn w a l := ⟨fun i x hi => by subst h; simp at hi⟩

set_option maxHeartbeats 8000000 in
set_option maxRecDepth 10000 in
theorem refNode_nil {w : World} {base bR g cap : Nat} {rs : List OneR} (h : Rf w base bR g cap rs) (i : Nat) (r : OneR) (hi : rs[i]? = some r) {cp : Nat}  (hav : r.av = .slice none 0 cp) (h0 : r.o.attrs = []) {R : Ending → World → Prop}
    (hK : ∀ (v2 v3 v5 v8 v9 v10 v11 v12 v13 v14 v15 v16 v17 v18 v19 v20 v21 v22 v23 v24 v25 v26 v27 v28 v29 v30 v31 v32 v33 v34 v35 v36 v37 v38 v39 v40 v41 v42 v43 v44 v45 v46 v47 v48 v49 v50 v51 v52 v53 v54 v55 v56 v57 v58 v59 v60 v61 v62 v63 v64 v65 v66 v67 v68 v69 v70 v71 v72 v73 v74 v75 v76 v77 v78 v79 v80 v81 v82 v83 v84 v85 v86 v87 v88 v89 v90 v91 v92 v93 : Value) (bn nc : Nat) (na : Option Addr) (w' : World), Boxes w' (w.heap.size + 1) bn w.heap.size r (toldN r na nc) → Below w.heap.size w w' → w.heap.size ≤ bn → AttrsIn w' na r.o.attrs → (∀ b off, na = some ⟨b, off, none⟩ → b ≠ bn ∧ b ≠ w.heap.size) → Code.wp Try.prog (tell5 Try.f47) (bodyPost Try.prog Try.f47 R) ⟨List.toArray (.pointer (some ⟨bR, 0, none⟩) :: .int .i64 (i : Nat) :: v2 :: v3 :: .pointer (some ⟨w.heap.size, 0, none⟩) :: v5 :: .pointer (some ⟨w.heap.size + 1, 0, none⟩) :: .pointer (some ⟨bn, 0, none⟩) :: v8 :: v9 :: v10 :: v11 :: v12 :: v13 :: v14 :: v15 :: v16 :: v17 :: v18 :: v19 :: v20 :: v21 :: v22 :: v23 :: v24 :: v25 :: v26 :: v27 :: v28 :: v29 :: v30 :: v31 :: v32 :: v33 :: v34 :: v35 :: v36 :: v37 :: v38 :: v39 :: v40 :: v41 :: v42 :: v43 :: v44 :: v45 :: v46 :: v47 :: v48 :: v49 :: v50 :: v51 :: v52 :: v53 :: v54 :: v55 :: v56 :: v57 :: v58 :: v59 :: v60 :: v61 :: v62 :: v63 :: v64 :: v65 :: v66 :: v67 :: v68 :: v69 :: v70 :: v71 :: v72 :: v73 :: v74 :: v75 :: v76 :: v77 :: v78 :: v79 :: v80 :: v81 :: v82 :: v83 :: v84 :: v85 :: v86 :: v87 :: v88 :: v89 :: v90 :: v91 :: v92 :: v93 :: []), []⟩ w') :
    Calls Try.prog 47 #[.pointer (some ⟨bR, 0, none⟩), .int .i64 i] w R := by
  have HC := hide hK
  obtain ⟨c0, c1, c2, c3, c4, c5, c6, c7, c8, c9⟩ := h.cells10 hi
  obtain ⟨kv, hkv⟩ : ∃ x, r.kv = x := ⟨_, rfl⟩
  obtain ⟨ka, kcp, hkv2, _, _⟩ := h.kids i r hi
  rw [hkv2] at hkv
  have hlt := (List.getElem?_eq_some_iff.1 hi).1
  have hmost := h.most
  have hAr := h.cR
  have hlR := h.lt.1
  have hlg := h.lt.2
  have HIS := hide (refIs_any (h.alloc zeroBox) i)
  rw [hasO_of (osOf_get hi)] at HIS
  rw [hav] at c3
  rw [hkv2] at c9
  have HAV := hide hav
  have HKV := hide hkv2
  subst hkv
  have HBN := hide (boxO_new w r (.slice none 0 cp) (.slice ka r.o.kids.length kcp))
  have HH0 := hide h0
  clear h hi hK hav hkv2 h0
  go_enter Try.func47, Try.ntmps47
  go_wp2_with (first | (go_at_call 79; refine (unhide HIS).mono ?_; rintro e w' ⟨rfl, rfl⟩))
  go_region_held3 (fun w' => w'.cell? ⟨w.heap.size + 1, 0, none⟩ = some (.int .i64 r.o.kind) ∧ w'.cell? ⟨w.heap.size + 1, 1, none⟩ = some (.int .i64 r.o.space) ∧ w'.cell? ⟨w.heap.size + 1, 2, none⟩ = some (.string r.o.name) ∧ w'.cell? ⟨w.heap.size + 1, 3, none⟩ = some (.slice none 0 cp) ∧ w'.cell? ⟨w.heap.size + 1, 4, none⟩ = some (.string r.o.data) ∧ w'.cell? ⟨w.heap.size + 1, 5, none⟩ = some (.string r.o.system) ∧ w'.cell? ⟨w.heap.size + 1, 8, none⟩ = some (.int .i64 r.o.up) ∧ w'.cell? ⟨w.heap.size + 1, 6, none⟩ = some (.int .i64 r.o.inner)) ((change BoxO _ (w.heap.size + 1) r (.slice none 0 cp); repeat (first | ((with_reducible refine BoxO.set ?_ ?_); rotate_left; (first | omega | (simp; done) | (simp; omega))) | exact unhide HBN | refine BoxO.drew ?_ | refine BoxO.alloc ?_ (by first | omega | (simp; done) | (simp; omega)) _))) (fail)
  all_goals
    rename_i K hK hH
    clear hH
    refine hK _ _ ?_
    clear hK
  · exact (unhide HC) _ _ _ _ _ _ _ _ _ _ _ _ _ _ _ _ _ _ _ _ _ _ _ _ _ _ _ _ _ _ _ _ _ _ _ _ _ _ _ _ _ _ _ _ _ _ _ _ _ _ _ _ _ _ _ _ _ _ _ _ _ _ _ _ _ _ _ _ _ _ _ _ _ _ _ _ _ _ _ _ _ _ _ _ _ _ _ _ _ (w.heap.size + 3) 0 (some ⟨w.heap.size + 2, 0, none⟩) _ (told_nil1 w (unhide HAV) (unhide HKV) (unhide HH0) _ (w.heap.size + 2)) (by repeat (first | exact Below.refl _ _ | apply Below.drew | (refine Below.alloc ?_ (by first | (simp; done) | (simp; omega)) _))) (by omega) (attrs_nil (unhide HH0)) (fun b off e => by cases e; constructor <;> omega)
  · exact (unhide HC) _ _ _ _ _ _ _ _ _ _ _ _ _ _ _ _ _ _ _ _ _ _ _ _ _ _ _ _ _ _ _ _ _ _ _ _ _ _ _ _ _ _ _ _ _ _ _ _ _ _ _ _ _ _ _ _ _ _ _ _ _ _ _ _ _ _ _ _ _ _ _ _ _ _ _ _ _ _ _ _ _ _ _ _ _ _ _ _ _ (w.heap.size + 3) 0 (some ⟨w.heap.size + 2, 0, none⟩) _ (told_nil1 w (unhide HAV) (unhide HKV) (unhide HH0) _ (w.heap.size + 2)) (by repeat (first | exact Below.refl _ _ | apply Below.drew | (refine Below.alloc ?_ (by first | (simp; done) | (simp; omega)) _))) (by omega) (attrs_nil (unhide HH0)) (fun b off e => by cases e; constructor <;> omega)
  · exact (unhide HC) _ _ _ _ _ _ _ _ _ _ _ _ _ _ _ _ _ _ _ _ _ _ _ _ _ _ _ _ _ _ _ _ _ _ _ _ _ _ _ _ _ _ _ _ _ _ _ _ _ _ _ _ _ _ _ _ _ _ _ _ _ _ _ _ _ _ _ _ _ _ _ _ _ _ _ _ _ _ _ _ _ _ _ _ _ _ _ _ _ (w.heap.size + 2) 0 (some ⟨w.heap.size + 3, 0, none⟩) _ (told_nil2 w (unhide HAV) (unhide HKV) (unhide HH0) _ (w.heap.size + 3)) (by repeat (first | exact Below.refl _ _ | apply Below.drew | (refine Below.alloc ?_ (by first | (simp; done) | (simp; omega)) _))) (by omega) (attrs_nil (unhide HH0)) (fun b off e => by cases e; constructor <;> omega)

set_option maxHeartbeats 8000000 in
set_option maxRecDepth 10000 in
theorem refNode_nil2 {w : World} {base bR g cap : Nat} {rs : List OneR} (h : Rf w base bR g cap rs) (i : Nat) (r : OneR) (hi : rs[i]? = some r) {cp : Nat} {ad : Addr} (hav : r.av = .slice (some ad) 0 cp) (h0 : r.o.attrs = []) {R : Ending → World → Prop}
    (hK : ∀ (v2 v3 v5 v8 v9 v10 v11 v12 v13 v14 v15 v16 v17 v18 v19 v20 v21 v22 v23 v24 v25 v26 v27 v28 v29 v30 v31 v32 v33 v34 v35 v36 v37 v38 v39 v40 v41 v42 v43 v44 v45 v46 v47 v48 v49 v50 v51 v52 v53 v54 v55 v56 v57 v58 v59 v60 v61 v62 v63 v64 v65 v66 v67 v68 v69 v70 v71 v72 v73 v74 v75 v76 v77 v78 v79 v80 v81 v82 v83 v84 v85 v86 v87 v88 v89 v90 v91 v92 v93 : Value) (bn nc : Nat) (na : Option Addr) (w' : World), Boxes w' (w.heap.size + 1) bn w.heap.size r (toldN r na nc) → Below w.heap.size w w' → w.heap.size ≤ bn → AttrsIn w' na r.o.attrs → (∀ b off, na = some ⟨b, off, none⟩ → b ≠ bn ∧ b ≠ w.heap.size) → Code.wp Try.prog (tell5 Try.f47) (bodyPost Try.prog Try.f47 R) ⟨List.toArray (.pointer (some ⟨bR, 0, none⟩) :: .int .i64 (i : Nat) :: v2 :: v3 :: .pointer (some ⟨w.heap.size, 0, none⟩) :: v5 :: .pointer (some ⟨w.heap.size + 1, 0, none⟩) :: .pointer (some ⟨bn, 0, none⟩) :: v8 :: v9 :: v10 :: v11 :: v12 :: v13 :: v14 :: v15 :: v16 :: v17 :: v18 :: v19 :: v20 :: v21 :: v22 :: v23 :: v24 :: v25 :: v26 :: v27 :: v28 :: v29 :: v30 :: v31 :: v32 :: v33 :: v34 :: v35 :: v36 :: v37 :: v38 :: v39 :: v40 :: v41 :: v42 :: v43 :: v44 :: v45 :: v46 :: v47 :: v48 :: v49 :: v50 :: v51 :: v52 :: v53 :: v54 :: v55 :: v56 :: v57 :: v58 :: v59 :: v60 :: v61 :: v62 :: v63 :: v64 :: v65 :: v66 :: v67 :: v68 :: v69 :: v70 :: v71 :: v72 :: v73 :: v74 :: v75 :: v76 :: v77 :: v78 :: v79 :: v80 :: v81 :: v82 :: v83 :: v84 :: v85 :: v86 :: v87 :: v88 :: v89 :: v90 :: v91 :: v92 :: v93 :: []), []⟩ w') :
    Calls Try.prog 47 #[.pointer (some ⟨bR, 0, none⟩), .int .i64 i] w R := by
  have HC := hide hK
  obtain ⟨c0, c1, c2, c3, c4, c5, c6, c7, c8, c9⟩ := h.cells10 hi
  obtain ⟨kv, hkv⟩ : ∃ x, r.kv = x := ⟨_, rfl⟩
  obtain ⟨ka, kcp, hkv2, _, _⟩ := h.kids i r hi
  rw [hkv2] at hkv
  have hlt := (List.getElem?_eq_some_iff.1 hi).1
  have hmost := h.most
  have hAr := h.cR
  have hlR := h.lt.1
  have hlg := h.lt.2
  have HIS := hide (refIs_any (h.alloc zeroBox) i)
  rw [hasO_of (osOf_get hi)] at HIS
  rw [hav] at c3
  rw [hkv2] at c9
  have HAV := hide hav
  have HKV := hide hkv2
  subst hkv
  have HBN := hide (boxO_new w r (.slice (some ad) 0 cp) (.slice ka r.o.kids.length kcp))
  have HH0 := hide h0
  clear h hi hK hav hkv2 h0
  go_enter Try.func47, Try.ntmps47
  go_wp2_with (first | (go_at_call 79; refine (unhide HIS).mono ?_; rintro e w' ⟨rfl, rfl⟩))
  go_region_held3 (fun w' => w'.cell? ⟨w.heap.size + 1, 0, none⟩ = some (.int .i64 r.o.kind) ∧ w'.cell? ⟨w.heap.size + 1, 1, none⟩ = some (.int .i64 r.o.space) ∧ w'.cell? ⟨w.heap.size + 1, 2, none⟩ = some (.string r.o.name) ∧ w'.cell? ⟨w.heap.size + 1, 3, none⟩ = some (.slice (some ad) 0 cp) ∧ w'.cell? ⟨w.heap.size + 1, 4, none⟩ = some (.string r.o.data) ∧ w'.cell? ⟨w.heap.size + 1, 5, none⟩ = some (.string r.o.system) ∧ w'.cell? ⟨w.heap.size + 1, 8, none⟩ = some (.int .i64 r.o.up) ∧ w'.cell? ⟨w.heap.size + 1, 6, none⟩ = some (.int .i64 r.o.inner)) ((change BoxO _ (w.heap.size + 1) r (.slice (some ad) 0 cp); repeat (first | ((with_reducible refine BoxO.set ?_ ?_); rotate_left; (first | omega | (simp; done) | (simp; omega))) | exact unhide HBN | refine BoxO.drew ?_ | refine BoxO.alloc ?_ (by first | omega | (simp; done) | (simp; omega)) _))) (fail)
  all_goals
    rename_i K hK hH
    clear hH
    refine hK _ _ ?_
    clear hK
  · exact (unhide HC) _ _ _ _ _ _ _ _ _ _ _ _ _ _ _ _ _ _ _ _ _ _ _ _ _ _ _ _ _ _ _ _ _ _ _ _ _ _ _ _ _ _ _ _ _ _ _ _ _ _ _ _ _ _ _ _ _ _ _ _ _ _ _ _ _ _ _ _ _ _ _ _ _ _ _ _ _ _ _ _ _ _ _ _ _ _ _ _ _ (w.heap.size + 3) 0 (some ⟨w.heap.size + 2, 0, none⟩) _ (told_nil1 w (unhide HAV) (unhide HKV) (unhide HH0) _ (w.heap.size + 2)) (by repeat (first | exact Below.refl _ _ | apply Below.drew | (refine Below.alloc ?_ (by first | (simp; done) | (simp; omega)) _))) (by omega) (attrs_nil (unhide HH0)) (fun b off e => by cases e; constructor <;> omega)
  · exact (unhide HC) _ _ _ _ _ _ _ _ _ _ _ _ _ _ _ _ _ _ _ _ _ _ _ _ _ _ _ _ _ _ _ _ _ _ _ _ _ _ _ _ _ _ _ _ _ _ _ _ _ _ _ _ _ _ _ _ _ _ _ _ _ _ _ _ _ _ _ _ _ _ _ _ _ _ _ _ _ _ _ _ _ _ _ _ _ _ _ _ _ (w.heap.size + 3) 0 (some ⟨w.heap.size + 2, 0, none⟩) _ (told_nil1 w (unhide HAV) (unhide HKV) (unhide HH0) _ (w.heap.size + 2)) (by repeat (first | exact Below.refl _ _ | apply Below.drew | (refine Below.alloc ?_ (by first | (simp; done) | (simp; omega)) _))) (by omega) (attrs_nil (unhide HH0)) (fun b off e => by cases e; constructor <;> omega)
  · exact (unhide HC) _ _ _ _ _ _ _ _ _ _ _ _ _ _ _ _ _ _ _ _ _ _ _ _ _ _ _ _ _ _ _ _ _ _ _ _ _ _ _ _ _ _ _ _ _ _ _ _ _ _ _ _ _ _ _ _ _ _ _ _ _ _ _ _ _ _ _ _ _ _ _ _ _ _ _ _ _ _ _ _ _ _ _ _ _ _ _ _ _ (w.heap.size + 2) 0 (some ⟨w.heap.size + 3, 0, none⟩) _ (told_nil2 w (unhide HAV) (unhide HKV) (unhide HH0) _ (w.heap.size + 3)) (by repeat (first | exact Below.refl _ _ | apply Below.drew | (refine Below.alloc ?_ (by first | (simp; done) | (simp; omega)) _))) (by omega) (attrs_nil (unhide HH0)) (fun b off e => by cases e; constructor <;> omega)
end Go.Proofs.Ytlbkoafeedlfaaa

namespace Go.Proofs.Ytlbkoafeedlfaaa
open Go.RowKit
set_option linter.unusedVariables false

theorem refNode_no {w : World} {base bR g cap : Nat} {rs : List OneR} (h : Rf w base bR g cap rs) (k : Int) (hk : hasO (osOf rs) k = false) :
    Calls Try.prog 47 #[.pointer (some ⟨bR, 0, none⟩), .int .i64 k] w fun e w' => e = .returned (.tuple #[nodeZ, .int .i64 6]) ∧ Below w.heap.size w w' := by
  have HIS := hide (refIs_any (h.alloc zeroBox) k)
  rw [hk] at HIS
  clear h hk
  go_enter Try.func47, Try.ntmps47
  go_wp2_with (first | (go_at_call 79; refine (unhide HIS).mono ?_; rintro e w' ⟨rfl, rfl⟩))
  exact bodyPost_ret (v := .tuple #[nodeZ, .int .i64 6]) (by simp [results, Try.results47, go_sem, nodeZ]) rfl ⟨rfl, by first | assumption | exact (Below.refl _ _).alloc (Nat.le_refl _) _⟩

theorem osOf_back {rs : List OneR} {p : Nat} {o : OneM} (h : (osOf rs)[p]? = some o) : ∃ r, rs[p]? = some r ∧ r.o = o := by
  simp only [osOf, List.getElem?_map, Option.map_eq_some_iff] at h
  exact h

/-- What is written into the boxes leaves the attributes that are told as they are. -/
theorem told_keep {w1 w2 w3 : World} {bn br : Nat} {na : Option Addr} {l : List AttrM} (h : AttrsIn w1 na l) (hap : ∀ b off, na = some ⟨b, off, none⟩ → b ≠ bn ∧ b ≠ br) (h2 : Mod (fun k => k = bn) w1 w2) (h3 : Mod (fun k => k = bn ∨ k = br) w2 w3) : AttrsIn w3 na l := by
  have hm : Mod (fun k => k = bn ∨ k = br) w1 w3 := (h2.mono (fun _ _ e => .inl e)).trans h3
  refine ⟨fun i x hi => ?_⟩
  obtain ⟨b, off, e, c0, c1, c2, c3⟩ := h.cells i x hi
  obtain ⟨n1, n2⟩ := hap b off e
  have hlt := World.block_lt_of_cell? w1 _ c0
  have hbk := hm.block b hlt (fun e => e.elim n1 n2)
  have up : ∀ j, w3.cell? ⟨b, j, none⟩ = w1.cell? ⟨b, j, none⟩ := fun j => World.cell?_of_block hbk
  exact ⟨b, off, e, by rw [up]; exact c0, by rw [up]; exact c1, by rw [up]; exact c2, by rw [up]; exact c3⟩

theorem nbr_alone {os : List OneM} {i : Nat} {o : OneM} (hu : o.up = -1) : nbr os i o = (-1, -1) := by unfold nbr; rw [if_pos hu]
theorem nbr_cut {os : List OneM} {i p : Nat} {o op : OneM} {A B : List Nat} (hu : o.up = (p : Int)) (hop : os[p]? = some op) (hk : op.kids = A ++ i :: B) (hA : i ∉ A) : nbr os i o = (lastI A, headI B) := by
  obtain ⟨t1, t2⟩ := take_cut (B := B) hA
  unfold nbr
  rw [if_neg (by rw [hu]; omega), hu, Int.toNat_natCast, hop, Option.map_some]
  simp only
  rw [hk, t1, t2]
  rfl

def toldO (os : List OneM) (i : Nat) (o : OneM) (na : Option Addr) (nc : Nat) : NodeM := { tellN os i o with av := .slice na o.attrs.length nc }

set_option maxHeartbeats 1000000 in
theorem tell8_any {w0 : World} {base bR g cap : Nat} {rs : List OneR} {ns : List NodeM} (h : Rf w0 base bR g cap rs) (hs : Sim ns (osOf rs)) {i : Nat} {r : OneR} (hi : rs[i]? = some r) {w : World} {bo bn br : Nat} {n : NodeM} {na : Option Addr} {nl nc : Nat} (hav : n.av = .slice na nl nc) (hpv : n.prev = -1) (hnx : n.next = -1)
    (hB : Below w0.heap.size w0 w) (hx : Boxes w bo bn br r n) (lo : w0.heap.size ≤ bo) (ln : w0.heap.size ≤ bn) (lr : w0.heap.size ≤ br) {R : Ending → World → Prop}
    (hR : ∀ w', Mod (fun k => k = bn ∨ k = br) w w' → R (.returned (.tuple #[.agg { n with prev := (nbr (osOf rs) i r.o).1, next := (nbr (osOf rs) i r.o).2 }.cells.toArray, .int .i64 0])) w') :
    ∀ {u2 : Value} {u3 : Value} {u5 : Value} {u8 : Value} {u9 : Value} {u10 : Value} {u11 : Value} {u12 : Value} {u13 : Value} {u14 : Value} {u15 : Value} {u16 : Value} {u17 : Value} {u18 : Value} {u19 : Value} {u20 : Value} {u21 : Value} {u22 : Value} {u23 : Value} {u24 : Value} {u25 : Value} {u26 : Value} {u27 : Value} {u28 : Value} {u29 : Value} {u30 : Value} {u31 : Value} {u32 : Value} {u33 : Value} {u34 : Value} {u35 : Value} {u36 : Value} {u37 : Value} {u38 : Value} {u39 : Value} {u40 : Value} {u41 : Value} {u42 : Value} {u43 : Value} {u44 : Value} {u45 : Value} {u46 : Value} {u47 : Value} {u48 : Value} {u49 : Value} {u50 : Value} {u51 : Value} {u52 : Value} {u53 : Value} {u54 : Value} {u55 : Value} {u56 : Value} {u57 : Value} {u58 : Value} {u59 : Value} {u60 : Value} {u61 : Value} {u62 : Value} {u63 : Value} {u64 : Value} {u65 : Value} {u66 : Value} {u67 : Value} {u68 : Value} {u69 : Value} {u70 : Value} {u71 : Value} {u72 : Value} {u73 : Value} {u74 : Value} {u75 : Value} {u76 : Value} {u77 : Value} {u78 : Value} {u79 : Value} {u80 : Value} {u81 : Value} {u82 : Value} {u83 : Value} {u84 : Value} {u85 : Value} {u86 : Value} {u87 : Value} {u88 : Value} {u89 : Value} {u90 : Value} {u91 : Value} {u92 : Value} {u93 : Value}, Code.wp Try.prog (tell8 Try.f47) (bodyPost Try.prog Try.f47 R) ⟨List.toArray (.pointer (some ⟨bR, 0, none⟩) :: .int .i64 (i : Nat) :: u2 :: u3 :: .pointer (some ⟨br, 0, none⟩) :: u5 :: .pointer (some ⟨bo, 0, none⟩) :: .pointer (some ⟨bn, 0, none⟩) :: u8 :: u9 :: u10 :: u11 :: u12 :: u13 :: u14 :: u15 :: u16 :: u17 :: u18 :: u19 :: u20 :: u21 :: u22 :: u23 :: u24 :: u25 :: u26 :: u27 :: u28 :: u29 :: u30 :: u31 :: u32 :: u33 :: u34 :: u35 :: u36 :: u37 :: u38 :: u39 :: u40 :: u41 :: u42 :: u43 :: u44 :: u45 :: u46 :: u47 :: u48 :: u49 :: u50 :: u51 :: u52 :: u53 :: u54 :: u55 :: u56 :: u57 :: u58 :: u59 :: u60 :: u61 :: u62 :: u63 :: u64 :: u65 :: u66 :: u67 :: u68 :: u69 :: u70 :: u71 :: u72 :: u73 :: u74 :: u75 :: u76 :: u77 :: u78 :: u79 :: u80 :: u81 :: u82 :: u83 :: u84 :: u85 :: u86 :: u87 :: u88 :: u89 :: u90 :: u91 :: u92 :: u93 :: []), []⟩ w := by
  intros
  by_cases hu : r.o.up = -1
  · rw [nbr_alone hu] at hR
    refine tell_alone h hi hB hx lo ln lr hav hu (fun w' hm => ?_)
    have := hR w' hm
    have e : { n with prev := (-1 : Int), next := (-1 : Int) } = n := by cases n; simp_all
    rwa [e] at this
  · obtain ⟨p, op, A, B, hup, hop, hk⟩ := hs.cut (osOf_get hi) hu
    have hnd := (hs.kids p op hop).nodup
    rw [hk] at hnd
    have hA : i ∉ A := fun e => by
      rw [List.nodup_append] at hnd
      exact hnd.2.2 i e i (by simp) rfl
    obtain ⟨rp, hrp, rfl⟩ := osOf_back hop
    rw [nbr_cut hup hop hk hA] at hR
    obtain ⟨ka, kcp, hkv, hin, hkl⟩ := h.kids p rp hrp
    have hat : rp.o.kids[A.length]? = some i := by rw [hk]; simp
    obtain ⟨kb, koff, rfl, _⟩ := hin.cells A.length i hat
    have hpl := fun W (hb : Below w0.heap.size w0 W) => refPlace_any (h.below hb) i p r rp hi hup hrp A B hk hA
    have hlen : rp.o.kids.length = A.length + 1 + B.length := by rw [hk]; simp; omega
    rcases List.eq_nil_or_concat A with hA0 | ⟨A', x, hA1⟩
    · subst hA0
      cases B with
      | nil =>
        refine tell_00 h hi hB hx lo ln lr hav hup hrp hkv hkl (a1 := 0) (x := 0) (y := 0) hpl (by simpa using hlen) (fun w' hm => ?_)
        have := hR w' hm
        have e : { n with prev := lastI [], next := headI [] } = n := by cases n; simp_all [lastI, headI]
        rwa [e] at this
      | cons y B =>
        have hy : rp.o.kids[1]? = some y := by rw [hk]; simp
        obtain ⟨kb', koff', ek, dy⟩ := hin.cells 1 y hy
        cases ek
        refine tell_01 h hi hB hx lo ln lr hav hup hrp hkv hkl (a1 := 0) (x := 0) (y := y) hpl (by simp at hlen; omega) dy (fun w' hm => ?_)
        have := hR w' hm
        have e : { n with prev := lastI [], next := headI (y :: B) } = { n with prev := n.prev, next := (y : Int) } := by rw [hpv]; rfl
        rwa [e] at this
    · simp only [List.concat_eq_append] at hA1
      subst hA1
      have hx' : rp.o.kids[A'.length]? = some x := by rw [hk]; simp
      obtain ⟨kb', koff', ek, dx⟩ := hin.cells A'.length x hx'
      cases ek
      have hpl' : ∀ W, Below w0.heap.size w0 W → Calls Try.prog 101 #[.pointer (some ⟨bR, 0, none⟩), .int .i64 (i : Nat)] W fun e w' => e = .returned (.int .i64 ((A'.length : Int) + 1)) ∧ Below W.heap.size W w' := fun W hb => by
        have := hpl W hb
        rw [show (((A' ++ [x]).length : Nat) : Int) = (A'.length : Int) + 1 by simp] at this
        exact this
      have hl : lastI (A' ++ [x]) = (x : Int) := by simp [lastI]
      rw [hl] at hR
      cases B with
      | nil =>
        refine tell_10 h hi hB hx lo ln lr hav hup hrp hkv hkl (a1 := A'.length) (x := x) (y := 0) hpl' dx (by simp at hlen; omega) (fun w' hm => ?_)
        have := hR w' hm
        have e : { n with prev := (x : Int), next := headI [] } = { n with prev := (x : Int), next := n.next } := by rw [hnx]; rfl
        rwa [e] at this
      | cons y B =>
        have hy : rp.o.kids[A'.length + 2]? = some y := by rw [hk]; simp
        obtain ⟨kb', koff', ek, dy⟩ := hin.cells (A'.length + 2) y hy
        cases ek
        exact tell_11 h hi hB hx lo ln lr hav hup hrp hkv hkl (a1 := A'.length) (x := x) (y := y) hpl' dx (by simp at hlen; omega) dy hR

set_option maxHeartbeats 1000000 in
theorem refNode_in {w : World} {base bR g cap : Nat} {rs : List OneR} {ns : List NodeM} (h : Rf w base bR g cap rs) (hs : Sim ns (osOf rs)) (i : Nat) (r : OneR) (hi : rs[i]? = some r) :
    Calls Try.prog 47 #[.pointer (some ⟨bR, 0, none⟩), .int .i64 i] w fun e w' => ∃ na nc, e = .returned (.tuple #[.agg (toldO (osOf rs) i r.o na nc).cells.toArray, .int .i64 0]) ∧ AttrsIn w' na r.o.attrs ∧ Below w.heap.size w w' := by
  obtain ⟨a, cp, hav, hat, hfew, _⟩ := h.attrs i r hi
  obtain ⟨ka, kcp, hkv, hin, hkl⟩ := h.kids i r hi
  have h0 : r.o.attrs = [] ∨ 0 < r.o.attrs.length := by cases r.o.attrs with | nil => exact .inl rfl | cons x l => exact .inr (by simp)
  have fin : ∀ (bn nc : Nat) (na : Option Addr) (w1 w2 w3 : World) (n : NodeM), { n with prev := (nbr (osOf rs) i r.o).1, next := (nbr (osOf rs) i r.o).2 } = toldO (osOf rs) i r.o na nc → AttrsIn w1 na r.o.attrs → (∀ b off, na = some ⟨b, off, none⟩ → b ≠ bn ∧ b ≠ w.heap.size) → Below w.heap.size w w1 → w.heap.size ≤ bn → Mod (fun k => k = bn) w1 w2 → Mod (fun k => k = bn ∨ k = w.heap.size) w2 w3 →
      ∃ na nc, Ending.returned (.tuple #[.agg { n with prev := (nbr (osOf rs) i r.o).1, next := (nbr (osOf rs) i r.o).2 }.cells.toArray, .int .i64 0]) = .returned (.tuple #[.agg (toldO (osOf rs) i r.o na nc).cells.toArray, .int .i64 0]) ∧ AttrsIn w3 na r.o.attrs ∧ Below w.heap.size w w3 := by
    intro bn nc na w1 w2 w3 n e hA hap hB ln h2 h3
    have hm : Mod (fun k => k = bn ∨ k = w.heap.size) w1 w3 := (h2.mono (fun _ _ e => .inl e)).trans h3
    exact ⟨na, nc, by rw [e], told_keep hA hap h2 h3, hB.trans (hm.below hB.size (fun k hk => by omega))⟩
  have cont : ∀ (v2 v3 v5 v8 v9 v10 v11 v12 v13 v14 v15 v16 v17 v18 v19 v20 v21 v22 v23 v24 v25 v26 v27 v28 v29 v30 v31 v32 v33 v34 v35 v36 v37 v38 v39 v40 v41 v42 v43 v44 v45 v46 v47 v48 v49 v50 v51 v52 v53 v54 v55 v56 v57 v58 v59 v60 v61 v62 v63 v64 v65 v66 v67 v68 v69 v70 v71 v72 v73 v74 v75 v76 v77 v78 v79 v80 v81 v82 v83 v84 v85 v86 v87 v88 v89 v90 v91 v92 v93 : Value) (bn nc : Nat) (na : Option Addr) (w' : World), Boxes w' (w.heap.size + 1) bn w.heap.size r (toldN r na nc) → Below w.heap.size w w' → w.heap.size ≤ bn → AttrsIn w' na r.o.attrs → (∀ b off, na = some ⟨b, off, none⟩ → b ≠ bn ∧ b ≠ w.heap.size) →
      Code.wp Try.prog (tell5 Try.f47) (bodyPost Try.prog Try.f47 fun e w' => ∃ na nc, e = .returned (.tuple #[.agg (toldO (osOf rs) i r.o na nc).cells.toArray, .int .i64 0]) ∧ AttrsIn w' na r.o.attrs ∧ Below w.heap.size w w') ⟨List.toArray (.pointer (some ⟨bR, 0, none⟩) :: .int .i64 (i : Nat) :: v2 :: v3 :: .pointer (some ⟨w.heap.size, 0, none⟩) :: v5 :: .pointer (some ⟨w.heap.size + 1, 0, none⟩) :: .pointer (some ⟨bn, 0, none⟩) :: v8 :: v9 :: v10 :: v11 :: v12 :: v13 :: v14 :: v15 :: v16 :: v17 :: v18 :: v19 :: v20 :: v21 :: v22 :: v23 :: v24 :: v25 :: v26 :: v27 :: v28 :: v29 :: v30 :: v31 :: v32 :: v33 :: v34 :: v35 :: v36 :: v37 :: v38 :: v39 :: v40 :: v41 :: v42 :: v43 :: v44 :: v45 :: v46 :: v47 :: v48 :: v49 :: v50 :: v51 :: v52 :: v53 :: v54 :: v55 :: v56 :: v57 :: v58 :: v59 :: v60 :: v61 :: v62 :: v63 :: v64 :: v65 :: v66 :: v67 :: v68 :: v69 :: v70 :: v71 :: v72 :: v73 :: v74 :: v75 :: v76 :: v77 :: v78 :: v79 :: v80 :: v81 :: v82 :: v83 :: v84 :: v85 :: v86 :: v87 :: v88 :: v89 :: v90 :: v91 :: v92 :: v93 :: []), []⟩ w' := by
    intro v2 v3 v5 v8 v9 v10 v11 v12 v13 v14 v15 v16 v17 v18 v19 v20 v21 v22 v23 v24 v25 v26 v27 v28 v29 v30 v31 v32 v33 v34 v35 v36 v37 v38 v39 v40 v41 v42 v43 v44 v45 v46 v47 v48 v49 v50 v51 v52 v53 v54 v55 v56 v57 v58 v59 v60 v61 v62 v63 v64 v65 v66 v67 v68 v69 v70 v71 v72 v73 v74 v75 v76 v77 v78 v79 v80 v81 v82 v83 v84 v85 v86 v87 v88 v89 v90 v91 v92 v93 bn nc na w' hx hB ln hA hap
    cases hks : r.o.kids with
    | nil =>
      rw [hks] at hkv
      refine tell_none hx hkv ?_
      intro x2 x3 x5 x8 x9 x10 x11 x12 x13 x14 x15 x16 x17 x18 x19 x20 x21 x22 x23 x24 x25 x26 x27 x28 x29 x30 x31 x32 x33 x34 x35 x36 x37 x38 x39 x40 x41 x42 x43 x44 x45 x46 x47 x48 x49 x50 x51 x52 x53 x54 x55 x56 x57 x58 x59 x60 x61 x62 x63 x64 x65 x66 x67 x68 x69 x70 x71 x72 x73 x74 x75 x76 x77 x78 x79 x80 x81 x82 x83 x84 x85 x86 x87 x88 x89 x90 x91 x92 x93 w2 hx2 hm2
      refine tell8_any h hs hi (n := toldN r na nc) rfl rfl rfl (hB.trans (hm2.below hB.size (fun k hk => by omega))) hx2 (by omega) ln (Nat.le_refl _) (fun w3 hm3 => ?_)
      exact fin bn nc na w' w2 w3 _ (by simp [toldO, toldN, tellN, hks, headI, lastI]) hA hap hB ln hm2 hm3
    | cons f ks =>
      have hf : r.o.kids[0]? = some f := by rw [hks]; rfl
      obtain ⟨l, hl⟩ : ∃ l, r.o.kids[ks.length]? = some l := ⟨_, List.getElem?_eq_getElem (by rw [hks]; simp)⟩
      obtain ⟨kb, koff, rfl, df⟩ := hin.cells 0 f hf
      obtain ⟨kb', koff', ek, dl⟩ := hin.cells ks.length l hl
      cases ek
      have hkb : kb < w.heap.size := World.block_lt_of_cell? w _ df
      have hlast : lastI r.o.kids = (l : Int) := by
        have : r.o.kids.getLast? = some l := by rw [List.getLast?_eq_getElem?, hks]; simpa [hks] using hl
        simp [lastI, this]
      rw [hks] at hkv hkl hlast
      have hkl2 : ks.length ≤ 32768 := by simp at hkl; omega
      have kne : kb ≠ bn := by omega
      refine tell_some hx (L := ks.length) (f := f) (l := l) hkv hkl2 ((hB.cell (p := ⟨kb, koff, none⟩) hkb).trans df) ((hB.cell (p := ⟨kb, koff + ks.length, none⟩) hkb).trans dl) kne ?_
      intro x2 x3 x5 x8 x9 x10 x11 x12 x13 x14 x15 x16 x17 x18 x19 x20 x21 x22 x23 x24 x25 x26 x27 x28 x29 x30 x31 x32 x33 x34 x35 x36 x37 x38 x39 x40 x41 x42 x43 x44 x45 x46 x47 x48 x49 x50 x51 x52 x53 x54 x55 x56 x57 x58 x59 x60 x61 x62 x63 x64 x65 x66 x67 x68 x69 x70 x71 x72 x73 x74 x75 x76 x77 x78 x79 x80 x81 x82 x83 x84 x85 x86 x87 x88 x89 x90 x91 x92 x93 w2 hx2 hm2
      refine tell8_any h hs hi (n := { toldN r na nc with first := (f : Int), last := (l : Int) }) rfl rfl rfl (hB.trans (hm2.below hB.size (fun k hk => by omega))) hx2 (by omega) ln (Nat.le_refl _) (fun w3 hm3 => ?_)
      exact fin bn nc na w' w2 w3 _ (by simp [toldO, toldN, tellN, hlast, hks, headI]) hA hap hB ln hm2 hm3
  rcases h0 with h0 | h0
  · rw [h0] at hav
    cases a with
    | none => exact refNode_nil h i r hi hav h0 cont
    | some ad => exact refNode_nil2 h i r hi hav h0 cont
  · obtain ⟨b, off, rfl⟩ := Addr.of_lt hat h0
    exact refNode_some h i r hi hav h0 hfew hat cont
end Go.Proofs.Ytlbkoafeedlfaaa
