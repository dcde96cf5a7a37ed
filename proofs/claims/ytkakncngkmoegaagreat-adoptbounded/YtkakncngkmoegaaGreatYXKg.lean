/-
  The document's list: whether two entries without attributes are alike. The document's list: an entry goes, with one behind it at least.
-/
import Derived.Test.YtkakncngkmoegaaGreatTZbd
import Derived.Test.YtkakncngkmoegaaGreatTZaq
namespace Go.Proofs.YtkakncngkmoegaaGreat
open Go.RowKit Go.Sort

theorem qsets_nil (w : World) (a b : Option Addr) (c d : Nat) : Calls Tryz.prog 118 #[.slice a 0 c, .slice b 0 d] w fun e w' => e = .returned (.bool true) ∧ w = w' := by
  go_enter Tryz.func118, Tryz.ntmps118
  go_wp2
  go_loopg [5] 0 (fun _ s5 wr => s5 = .int .i64 0 ∧ wr = w)
  case atStart => exact ⟨rfl, rfl⟩
  case round =>
    obtain ⟨rfl, rfl⟩ := hrel
    go_wp2
    go_loopg [6] 0 (fun _ s6 wr2 => s6 = .int .i64 0 ∧ wr2 = wr)
    case atStart => exact ⟨rfl, rfl⟩
    case round =>
      obtain ⟨rfl, rfl⟩ := hrel
      go_wp2
      go_ret
      exact ⟨rfl, rfl⟩
theorem kept_oldK {W w1 : World} {b : Nat} {o : Obj} (h : W.heap[b]? = some o) (hb : Below W.heap.size W w1) : w1.heap[b]? = some o := (hb.block _ (lt_of_block h)).trans h
/-- Two structs in their variables, and what was made behind them. -/
structure Ek (w : World) (ox oy : Obj) (W : World) : Prop where
  low : Below ((w.alloc ox).alloc oy).heap.size ((w.alloc ox).alloc oy) W
section
variable {w W W' : World} {ox oy : Obj}
theorem Ek.start (w : World) (ox oy : Obj) : Ek w ox oy ((w.alloc ox).alloc oy) := ⟨Below.refl _ _⟩
theorem Ek.bel (h : Ek w ox oy W) : Below w.heap.size w W := by
  have h0 : Below w.heap.size w ((w.alloc ox).alloc oy) := (below_newAc _ _).alloc (by simp) _
  exact h0.trans (h.low.mono h0.size)
theorem Ek.x (h : Ek w ox oy W) : W.heap[w.heap.size]? = some ox := kept_oldK (((below_newAc (w.alloc ox) oy).block _ (by simp)).trans (heap_alloc_new w ox)) h.low
theorem Ek.y (h : Ek w ox oy W) : W.heap[w.heap.size + 1]? = some oy := by
  have := heap_alloc_new (w.alloc ox) oy
  rw [show (w.alloc ox).heap.size = w.heap.size + 1 by simp] at this
  exact kept_oldK this h.low
theorem Ek.more (h : Ek w ox oy W) (hb : Below W.heap.size W W') : Ek w ox oy W' := ⟨h.low.trans (hb.mono h.low.size)⟩
theorem Ek.alloc (h : Ek w ox oy W) (o : Obj) : Ek w ox oy (W.alloc o) := h.more (below_newAc _ _)
theorem Ek.drew (h : Ek w ox oy W) : Ek w ox oy W.drew := h.more (Below.refl _ _).drew
theorem Ek.put1 (h : Ek w ox oy W) (b j : Nat) (v : Value) (hb : w.heap.size + 1 < b) : Ek w ox oy (W.setCell ⟨b, j, none⟩ v) := by
  have hm : Mod (fun k => k = b) W (W.setCell ⟨b, j, none⟩ v) := Mod.setCell _ _ _ rfl
  exact ⟨h.low.trans (hm.below h.low.size (fun k e => by simp; omega))⟩
theorem Ek.lt (h : Ek w ox oy W) : w.heap.size + 1 < W.heap.size := lt_of_block h.y
end
section
variable {w : World} {base bQ bR : Nat} {ks : List Key} {F : Nat → Prop}
set_option maxHeartbeats 4000000 in
theorem qalike_nil (hr : RfK w base bR ks F) (hq : w.cell? ⟨bQ, 0, none⟩ = some (.pointer (some ⟨bR, 0, none⟩))) (x y : EntQ) (hx : x.tok.attrs = []) (hy : y.tok.attrs = []) {i k : Nat} {p q : Key} (hxi : x.node = (i : Int)) (hyk : y.node = (k : Int)) (hp : ks[i]? = some p) (hqk : ks[k]? = some q) : Calls Tryz.prog 79 #[.pointer (some ⟨bQ, 0, none⟩), .agg x.cells.toArray, .agg y.cells.toArray] w fun e w' => e = .returned (.bool (p.name.toList == q.name.toList && p.space == q.space)) ∧ Below w.heap.size w w' := by
  obtain ⟨g, cap, _, _, r1, a1, n1, c1, e1, m1, d1, rfl, rfl, cR, hi, x0, x1, x2, x3, x4, x5, x6, x7, x8, x9⟩ := hr.open hp
  obtain ⟨g', cap', _, _, r2, a2, n2, c2, e2, m2, d2, rfl, rfl, cR', hk, y0, y1, y2, y3, y4, y5, y6, y7, y8, y9⟩ := hr.open hqk
  have hcc := cR.symm.trans cR'
  simp only [Option.some.injEq, Value.slice.injEq, Addr.mk.injEq, and_true, true_and] at hcc
  obtain ⟨rfl, rfl⟩ := hcc
  have hmost := hr.most
  have hiz : (i : Int) < (ks.length : Int) := by omega
  have hkz : (k : Int) < (ks.length : Int) := by omega
  have hmz : (ks.length : Int) ≤ 32768 := by omega
  obtain ⟨xn, ⟨t0, t1, t2, t3, t4, t5, t6, t7, ta⟩, xa, xc⟩ := x
  obtain ⟨yn, ⟨v0, v1, v2, v3, v4, v5, v6, v7, va⟩, ya, yc⟩ := y
  simp only at hx hy hxi hyk
  subst hx hy hxi hyk
  simp only [EntQ.cells, EntQ.av, TokM.cells, List.length_nil]
  have HSET := hide (fun W => qsets_nil W xa ya xc yc)
  obtain ⟨pk, ps, pn⟩ := p
  obtain ⟨qk, qs, qn⟩ := q
  simp only at *
  have hkeep : ∀ W', Below w.heap.size w W' → ∀ (b o : Nat) (v : Value), w.cell? ⟨b, o, none⟩ = some v → W'.cell? ⟨b, o, none⟩ = some v := fun W' hb b o v hv => cell_kept hb hv
  generalize ks.length = n at *
  have HSS : Hid (∀ W', Ek w (.cells #[.int .i64 (i : Int), .int .i64 t0, .string t1, .string t2, .string t3, .int .i64 t4, .bool t5, .int .i32 t6, .bool t7, .slice xa 0 xc] 54) (.cells #[.int .i64 (k : Int), .int .i64 v0, .string v1, .string v2, .string v3, .int .i64 v4, .bool v5, .int .i32 v6, .bool v7, .slice ya 0 yc] 54) W' → W'.cell? ⟨bQ, 0, none⟩ = some (.pointer (some ⟨bR, 0, none⟩)) ∧ W'.cell? ⟨bR, 0, none⟩ = some (.slice (some ⟨g, 0, none⟩) n cap) ∧ W'.cell? ⟨g, i * 10, none⟩ = some (.int .i64 pk) ∧ W'.cell? ⟨g, i * 10 + 1, none⟩ = some (.int .i64 ps) ∧ W'.cell? ⟨g, i * 10 + 2, none⟩ = some (.string pn) ∧ W'.cell? ⟨g, i * 10 + 3, none⟩ = some (.slice a1 n1 c1) ∧ W'.cell? ⟨g, i * 10 + 4, none⟩ = some (.string r1.data) ∧ W'.cell? ⟨g, i * 10 + 5, none⟩ = some (.string r1.system) ∧ W'.cell? ⟨g, i * 10 + 6, none⟩ = some (.int .i64 r1.inner) ∧ W'.cell? ⟨g, i * 10 + 7, none⟩ = some (.int .i64 r1.host) ∧ W'.cell? ⟨g, i * 10 + 8, none⟩ = some (.int .i64 r1.up) ∧ W'.cell? ⟨g, i * 10 + 9, none⟩ = some (.slice e1 m1 d1) ∧ W'.cell? ⟨g, k * 10, none⟩ = some (.int .i64 qk) ∧ W'.cell? ⟨g, k * 10 + 1, none⟩ = some (.int .i64 qs) ∧ W'.cell? ⟨g, k * 10 + 2, none⟩ = some (.string qn) ∧ W'.cell? ⟨g, k * 10 + 3, none⟩ = some (.slice a2 n2 c2) ∧ W'.cell? ⟨g, k * 10 + 4, none⟩ = some (.string r2.data) ∧ W'.cell? ⟨g, k * 10 + 5, none⟩ = some (.string r2.system) ∧ W'.cell? ⟨g, k * 10 + 6, none⟩ = some (.int .i64 r2.inner) ∧ W'.cell? ⟨g, k * 10 + 7, none⟩ = some (.int .i64 r2.host) ∧ W'.cell? ⟨g, k * 10 + 8, none⟩ = some (.int .i64 r2.up) ∧ W'.cell? ⟨g, k * 10 + 9, none⟩ = some (.slice e2 m2 d2) ∧ W'.cell? ⟨w.heap.size, 0, none⟩ = some (.int .i64 (i : Int)) ∧ W'.cell? ⟨w.heap.size + 1, 0, none⟩ = some (.int .i64 (k : Int))) := hide (fun W' h => ⟨hkeep W' h.bel _ _ _ hq, hkeep W' h.bel _ _ _ cR, hkeep W' h.bel _ _ _ x0, hkeep W' h.bel _ _ _ x1, hkeep W' h.bel _ _ _ x2, hkeep W' h.bel _ _ _ x3, hkeep W' h.bel _ _ _ x4, hkeep W' h.bel _ _ _ x5, hkeep W' h.bel _ _ _ x6, hkeep W' h.bel _ _ _ x7, hkeep W' h.bel _ _ _ x8, hkeep W' h.bel _ _ _ x9, hkeep W' h.bel _ _ _ y0, hkeep W' h.bel _ _ _ y1, hkeep W' h.bel _ _ _ y2, hkeep W' h.bel _ _ _ y3, hkeep W' h.bel _ _ _ y4, hkeep W' h.bel _ _ _ y5, hkeep W' h.bel _ _ _ y6, hkeep W' h.bel _ _ _ y7, hkeep W' h.bel _ _ _ y8, hkeep W' h.bel _ _ _ y9, cell_of_row _ _ 0 _ _ _ h.x, cell_of_row _ _ 0 _ _ _ h.y⟩)
  have HAT : Hid (∀ W', Ek w (.cells #[.int .i64 (i : Int), .int .i64 t0, .string t1, .string t2, .string t3, .int .i64 t4, .bool t5, .int .i32 t6, .bool t7, .slice xa 0 xc] 54) (.cells #[.int .i64 (k : Int), .int .i64 v0, .string v1, .string v2, .string v3, .int .i64 v4, .bool v5, .int .i32 v6, .bool v7, .slice ya 0 yc] 54) W' → W'.cell? ⟨w.heap.size, 9, none⟩ = some (.slice xa 0 xc) ∧ W'.cell? ⟨w.heap.size + 1, 9, none⟩ = some (.slice ya 0 yc)) := hide (fun W' h => ⟨cell_of_row _ _ 9 _ _ _ h.x, cell_of_row _ _ 9 _ _ _ h.y⟩)
  have HEK := hide (Ek.start w (.cells #[.int .i64 (i : Int), .int .i64 t0, .string t1, .string t2, .string t3, .int .i64 t4, .bool t5, .int .i32 t6, .bool t7, .slice xa 0 xc] 54) (.cells #[.int .i64 (k : Int), .int .i64 v0, .string v1, .string v2, .string v3, .int .i64 v4, .bool v5, .int .i32 v6, .bool v7, .slice ya 0 yc] 54))
  have HBL := hide (fun W' (h : Ek w (.cells #[.int .i64 (i : Int), .int .i64 t0, .string t1, .string t2, .string t3, .int .i64 t4, .bool t5, .int .i32 t6, .bool t7, .slice xa 0 xc] 54) (.cells #[.int .i64 (k : Int), .int .i64 v0, .string v1, .string v2, .string v3, .int .i64 v4, .bool v5, .int .i32 v6, .bool v7, .slice ya 0 yc] 54) W') => h.bel)
  have HLT := hide (fun W' (h : Ek w (.cells #[.int .i64 (i : Int), .int .i64 t0, .string t1, .string t2, .string t3, .int .i64 t4, .bool t5, .int .i32 t6, .bool t7, .slice xa 0 xc] 54) (.cells #[.int .i64 (k : Int), .int .i64 v0, .string v1, .string v2, .string v3, .int .i64 v4, .bool v5, .int .i32 v6, .bool v7, .slice ya 0 yc] 54) W') => h.lt)
  clear hr hp hqk cR' hmost hi hk hkeep hq cR x0 x1 x2 x3 x4 x5 x6 x7 x8 x9 y0 y1 y2 y3 y4 y5 y6 y7 y8 y9
  go_enter Tryz.func79, Tryz.ntmps79
  go_wp2
  generalize hW0 : (w.alloc (.cells #[.int .i64 (i : Int), .int .i64 t0, .string t1, .string t2, .string t3, .int .i64 t4, .bool t5, .int .i32 t6, .bool t7, .slice xa 0 xc] 54)).alloc (.cells #[.int .i64 (k : Int), .int .i64 v0, .string v1, .string v2, .string v3, .int .i64 v4, .bool v5, .int .i32 v6, .bool v7, .slice ya 0 yc] 54) = W0 at *
  have HL0 := hide ((unhide HLT) _ (unhide HEK))
  clear hW0
  obtain ⟨s0, s1, s2, s3, s4, s5, s6, s7, s8, s9, s10, s11, s12, s13, s14, s15, s16, s17, s18, s19, s20, s21, s22, s23⟩ := (unhide HSS) _ (unhide HEK)
  go_region_held3 (fun W' => W'.cell? ⟨bQ, 0, none⟩ = some (.pointer (some ⟨bR, 0, none⟩)) ∧ W'.cell? ⟨bR, 0, none⟩ = some (.slice (some ⟨g, 0, none⟩) n cap) ∧ W'.cell? ⟨g, i * 10, none⟩ = some (.int .i64 pk) ∧ W'.cell? ⟨g, i * 10 + 1, none⟩ = some (.int .i64 ps) ∧ W'.cell? ⟨g, i * 10 + 2, none⟩ = some (.string pn) ∧ W'.cell? ⟨g, i * 10 + 3, none⟩ = some (.slice a1 n1 c1) ∧ W'.cell? ⟨g, i * 10 + 4, none⟩ = some (.string r1.data) ∧ W'.cell? ⟨g, i * 10 + 5, none⟩ = some (.string r1.system) ∧ W'.cell? ⟨g, i * 10 + 6, none⟩ = some (.int .i64 r1.inner) ∧ W'.cell? ⟨g, i * 10 + 7, none⟩ = some (.int .i64 r1.host) ∧ W'.cell? ⟨g, i * 10 + 8, none⟩ = some (.int .i64 r1.up) ∧ W'.cell? ⟨g, i * 10 + 9, none⟩ = some (.slice e1 m1 d1) ∧ W'.cell? ⟨g, k * 10, none⟩ = some (.int .i64 qk) ∧ W'.cell? ⟨g, k * 10 + 1, none⟩ = some (.int .i64 qs) ∧ W'.cell? ⟨g, k * 10 + 2, none⟩ = some (.string qn) ∧ W'.cell? ⟨g, k * 10 + 3, none⟩ = some (.slice a2 n2 c2) ∧ W'.cell? ⟨g, k * 10 + 4, none⟩ = some (.string r2.data) ∧ W'.cell? ⟨g, k * 10 + 5, none⟩ = some (.string r2.system) ∧ W'.cell? ⟨g, k * 10 + 6, none⟩ = some (.int .i64 r2.inner) ∧ W'.cell? ⟨g, k * 10 + 7, none⟩ = some (.int .i64 r2.host) ∧ W'.cell? ⟨g, k * 10 + 8, none⟩ = some (.int .i64 r2.up) ∧ W'.cell? ⟨g, k * 10 + 9, none⟩ = some (.slice e2 m2 d2) ∧ W'.cell? ⟨w.heap.size, 0, none⟩ = some (.int .i64 (i : Int)) ∧ W'.cell? ⟨w.heap.size + 1, 0, none⟩ = some (.int .i64 (k : Int))) ((refine (unhide HSS) _ ?_; repeat' (with_reducible (first | exact unhide HEK | apply Ek.alloc | apply Ek.drew | (refine Ek.put1 ?_ _ _ _ (unhide HL0)))))) (skip)
  clear s0 s1 s2 s3 s4 s5 s6 s7 s8 s9 s10 s11 s12 s13 s14 s15 s16 s17 s18 s19 s20 s21 s22 s23
  have HEK1 := hide ((unhide HEK).alloc (.cells #[.int .i64 pk, .int .i64 ps, .string pn, .slice a1 n1 c1, .string r1.data, .string r1.system, .int .i64 r1.inner, .int .i64 r1.host, .int .i64 r1.up, .slice e1 m1 d1] 145)).drew
  have hb1 := kept_oldK (heap_alloc_new W0 (.cells #[.int .i64 pk, .int .i64 ps, .string pn, .slice a1 n1 c1, .string r1.data, .string r1.system, .int .i64 r1.inner, .int .i64 r1.host, .int .i64 r1.up, .slice e1 m1 d1] 145)) (Below.refl _ _).drew
  generalize (W0.alloc (.cells #[.int .i64 pk, .int .i64 ps, .string pn, .slice a1 n1 c1, .string r1.data, .string r1.system, .int .i64 r1.inner, .int .i64 r1.host, .int .i64 r1.up, .slice e1 m1 d1] 145)).drew = W1 at *
  have HL1 := hide ((unhide HLT) _ (unhide HEK1))
  go_wp2
  obtain ⟨s0, s1, s2, s3, s4, s5, s6, s7, s8, s9, s10, s11, s12, s13, s14, s15, s16, s17, s18, s19, s20, s21, s22, s23⟩ := (unhide HSS) _ (unhide HEK1)
  go_region_held3 (fun W' => W'.cell? ⟨bQ, 0, none⟩ = some (.pointer (some ⟨bR, 0, none⟩)) ∧ W'.cell? ⟨bR, 0, none⟩ = some (.slice (some ⟨g, 0, none⟩) n cap) ∧ W'.cell? ⟨g, i * 10, none⟩ = some (.int .i64 pk) ∧ W'.cell? ⟨g, i * 10 + 1, none⟩ = some (.int .i64 ps) ∧ W'.cell? ⟨g, i * 10 + 2, none⟩ = some (.string pn) ∧ W'.cell? ⟨g, i * 10 + 3, none⟩ = some (.slice a1 n1 c1) ∧ W'.cell? ⟨g, i * 10 + 4, none⟩ = some (.string r1.data) ∧ W'.cell? ⟨g, i * 10 + 5, none⟩ = some (.string r1.system) ∧ W'.cell? ⟨g, i * 10 + 6, none⟩ = some (.int .i64 r1.inner) ∧ W'.cell? ⟨g, i * 10 + 7, none⟩ = some (.int .i64 r1.host) ∧ W'.cell? ⟨g, i * 10 + 8, none⟩ = some (.int .i64 r1.up) ∧ W'.cell? ⟨g, i * 10 + 9, none⟩ = some (.slice e1 m1 d1) ∧ W'.cell? ⟨g, k * 10, none⟩ = some (.int .i64 qk) ∧ W'.cell? ⟨g, k * 10 + 1, none⟩ = some (.int .i64 qs) ∧ W'.cell? ⟨g, k * 10 + 2, none⟩ = some (.string qn) ∧ W'.cell? ⟨g, k * 10 + 3, none⟩ = some (.slice a2 n2 c2) ∧ W'.cell? ⟨g, k * 10 + 4, none⟩ = some (.string r2.data) ∧ W'.cell? ⟨g, k * 10 + 5, none⟩ = some (.string r2.system) ∧ W'.cell? ⟨g, k * 10 + 6, none⟩ = some (.int .i64 r2.inner) ∧ W'.cell? ⟨g, k * 10 + 7, none⟩ = some (.int .i64 r2.host) ∧ W'.cell? ⟨g, k * 10 + 8, none⟩ = some (.int .i64 r2.up) ∧ W'.cell? ⟨g, k * 10 + 9, none⟩ = some (.slice e2 m2 d2) ∧ W'.cell? ⟨w.heap.size, 0, none⟩ = some (.int .i64 (i : Int)) ∧ W'.cell? ⟨w.heap.size + 1, 0, none⟩ = some (.int .i64 (k : Int))) ((refine (unhide HSS) _ ?_; repeat' (with_reducible (first | exact unhide HEK1 | apply Ek.alloc | apply Ek.drew | (refine Ek.put1 ?_ _ _ _ (unhide HL1)))))) (skip)
  have HEK2 := hide ((unhide HEK1).alloc (.cells #[.int .i64 qk, .int .i64 qs, .string qn, .slice a2 n2 c2, .string r2.data, .string r2.system, .int .i64 r2.inner, .int .i64 r2.host, .int .i64 r2.up, .slice e2 m2 d2] 145)).drew
  have hb2 := kept_oldK (heap_alloc_new W1 (.cells #[.int .i64 qk, .int .i64 qs, .string qn, .slice a2 n2 c2, .string r2.data, .string r2.system, .int .i64 r2.inner, .int .i64 r2.host, .int .i64 r2.up, .slice e2 m2 d2] 145)) (Below.refl _ _).drew
  have hb3 : ((W1.alloc (.cells #[.int .i64 qk, .int .i64 qs, .string qn, .slice a2 n2 c2, .string r2.data, .string r2.system, .int .i64 r2.inner, .int .i64 r2.host, .int .i64 r2.up, .slice e2 m2 d2] 145)).drew).heap[W0.heap.size]? = some (.cells #[.int .i64 pk, .int .i64 ps, .string pn, .slice a1 n1 c1, .string r1.data, .string r1.system, .int .i64 r1.inner, .int .i64 r1.host, .int .i64 r1.up, .slice e1 m1 d1] 145 (0, 0)) := kept_oldK hb1 ((below_newAc _ _).drew)
  generalize (W1.alloc (.cells #[.int .i64 qk, .int .i64 qs, .string qn, .slice a2 n2 c2, .string r2.data, .string r2.system, .int .i64 r2.inner, .int .i64 r2.host, .int .i64 r2.up, .slice e2 m2 d2] 145)).drew = W2 at *
  have o1 := cell_of_row _ _ 1 _ _ _ hb3
  have o2 := cell_of_row _ _ 2 _ _ _ hb3
  have p1 := cell_of_row _ _ 1 _ _ _ hb2
  have p2 := cell_of_row _ _ 2 _ _ _ hb2
  obtain ⟨ax, ay⟩ := (unhide HAT) _ (unhide HEK2)
  clear s0 s1 s2 s3 s4 s5 s6 s7 s8 s9 s10 s11 s12 s13 s14 s15 s16 s17 s18 s19 s20 s21 s22 s23 hb1 hb2 hb3 HSS HAT
  cases hnm : (pn.toList == qn.toList) with
  | false =>
    go_wp2_with (first
      | (go_at_call 118; refine ((unhide HSET) _).mono ?_; rintro e w1 ⟨rfl, rfl⟩))
    go_ret
    exact ⟨by rw [hnm]; rfl, (unhide HBL) _ (unhide HEK2)⟩
  | true =>
    cases hsp : (ps == qs) with
    | false =>
      go_wp2_with (first
        | (go_at_call 118; refine ((unhide HSET) _).mono ?_; rintro e w1 ⟨rfl, rfl⟩))
      go_ret
      exact ⟨by rw [hnm, hsp]; rfl, (unhide HBL) _ (unhide HEK2)⟩
    | true =>
      go_wp2_with (first
        | (go_at_call 118; refine ((unhide HSET) _).mono ?_; rintro e w1 ⟨rfl, rfl⟩))
      go_ret
      exact ⟨by rw [hnm, hsp]; rfl, (unhide HBL) _ (unhide HEK2)⟩
end
end Go.Proofs.YtkakncngkmoegaaGreat

namespace Go.Proofs.YtkakncngkmoegaaGreat
open Go.RowKit Go.Sort

theorem qRow_app (a b : List EntQ) : qRow (a ++ b) = qRow a ++ qRow b := by simp [qRow]
theorem qRow_len (a : List EntQ) : (qRow a).length = a.length * 10 := by
  induction a with
  | nil => rfl
  | cons x a ih =>
    have e : qRow (x :: a) = x.cells ++ qRow a := by simp [qRow]
    rw [e, List.length_append, ih, entQ_len, List.length_cons]
    omega
theorem qRow_one (a : List EntQ) : ∀ u ∈ qRow a, u.oneCell' = true := by
  intro u hu
  obtain ⟨x, _, hx⟩ := List.mem_flatMap.1 hu
  simp only [EntQ.cells, EntQ.av, TokM.cells, List.mem_cons, List.not_mem_nil, or_false] at hx
  rcases hx with rfl | rfl | rfl | rfl | rfl | rfl | rfl | rfl | rfl | rfl <;> rfl
theorem own_val {w : World} {b : Nat} {t : TypeId} {z : Nat} {v : Value} {n : Nat} {row : List Value} (h : w.ownsRow b t z v n row) : ∃ a c, v = .slice a n c := by
  rcases h.2 with ⟨e, h0⟩ | ⟨g, cap, cur, e, _⟩
  · subst h0; exact ⟨_, _, e⟩
  · exact ⟨_, _, e⟩
theorem empty_own (w : World) : (w.alloc (.cells #[] 54)).ownsRow w.heap.size 54 10 (.slice (some ⟨w.heap.size, 0, none⟩) 0 0) 0 [] :=
  ⟨rfl, .inr ⟨w.heap.size, 0, #[], rfl, Nat.le_refl _, heap_alloc_new w _, Nat.le_refl _, by unfold maxLen; omega, rfl, rfl⟩⟩
section
variable {w : World} {base bQ bR : Nat} {v : Value} {qs : List EntQ} {F : Nat → Prop}
/-- The list is another one, in a block of its own that is new. -/
theorem QlM.fresh (h : QlM w base bQ bR v qs) (hF : ∀ k, F k ↔ footQ bQ v k) {w2 : World} {v2 : Value} {ps : List EntQ} (hb : Below w.heap.size w w2) (hown : w2.ownsRow w.heap.size 54 10 v2 ps.length (qRow ps)) (hps : ∀ x ∈ ps, x ∈ qs) : UpdQ F w (w2.setCell ⟨bQ, 1, none⟩ v2) base bQ bR ps ∧ w2.frozen? ⟨bQ, 1, none⟩ = false ∧ w2.cell? ⟨bQ, 1, none⟩ = some v := by
  have hlt := lt_of_block h.box
  have hlo := h.lo
  have hbx := (hb.block bQ hlt).trans h.box
  have hne : ∀ k, v2.ownBlock = some k → k ≠ bQ := fun k hk e => by
    have := (hown.lt k hk).1
    omega
  have hm : Mod F w (w2.setCell ⟨bQ, 1, none⟩ v2) := (Mod.of_below hb).trans (Mod.setCell _ _ _ ((hF _).2 (.inl rfl)))
  refine ⟨⟨footQ bQ v2, ⟨v2, ⟨?_, ?_, fun i y hy => ?_, h.lo⟩, fun _ => Iff.rfl⟩, hm, ?_⟩, by simp [World.frozen?, hbx], cell_of_row _ _ 1 _ _ _ hbx⟩
  · have := heap_setCell_same w2 bQ 1 #[.pointer (some ⟨bR, 0, none⟩), v] 104 v2 hbx
    simpa using this
  · have := ownsRow_setCell_other hown (a := ⟨bQ, 1, none⟩) (fun e => hne _ e rfl) v2
    rcases this with ⟨h1, ⟨e, h0⟩ | ⟨g, cap, cur, e, lo, h2⟩⟩
    · exact ⟨h1, .inl ⟨e, h0⟩⟩
    · exact ⟨h1, .inr ⟨g, cap, cur, e, by omega, h2⟩⟩
  · obtain ⟨j, hj⟩ := List.getElem?_of_mem (hps y (List.mem_of_getElem? hy))
    have hL := h.attrs j y hj
    refine ⟨hL.1.mod (fun b off e => ?_), hL.2⟩
    have hb2 := hL.2 b off e
    exact hm.block b (by omega) (fun e => by have := (h.lt ((hF b).1 e)).1; omega)
  · rintro k (rfl | hk)
    · exact .inl ((hF _).2 (.inl rfl))
    · exact .inr (hown.lt k hk).1
theorem grown_new {o : Obj} {w1 : World} (hg : (w.alloc o).grownBy w1 (some w.heap.size)) : Below w.heap.size w w1 := by
  have hm : Mod (fun k => k = w.heap.size) (w.alloc o) w1 := Mod.grown hg (fun k e => by simpa using e.symm)
  exact (below_newAc w o).trans (hm.below (by simp) (fun k e => by omega))
theorem grown_more {w1 w2 : World} {v1 : Value} (hb : Below w.heap.size w w1) (hv : ∀ k, v1.ownBlock = some k → w.heap.size ≤ k) (hg : w1.grownBy w2 v1.ownBlock) : Below w.heap.size w w2 := by
  have hm : Mod (fun k => v1.ownBlock = some k) w1 w2 := Mod.grown hg (fun k e => e)
  exact hb.trans (hm.below hb.size (fun k e => hv k e))
set_option maxRecDepth 100000 in
set_option maxHeartbeats 4000000 in
theorem qremove_in (h : QlM w base bQ bR v qs) (hF : ∀ k, F k ↔ footQ bQ v k) (hl : qs.length < 1000000000) (i : Nat) (hi : i + 1 < qs.length) : Calls Tryz.prog 80 #[.pointer (some ⟨bQ, 0, none⟩), .int .i64 i] w fun e w' => e = .returned (.tuple #[]) ∧ UpdQ F w w' base bQ bR (qs.take i ++ qs.drop (i + 1)) := by
  obtain ⟨c0, c1, f1⟩ := h.cells
  have hlt := lt_of_block h.box
  obtain ⟨g, cap, rfl⟩ : ∃ g cap, v = .slice (some ⟨g, 0, none⟩) qs.length cap := by
    rcases h.val with ⟨_, h0⟩ | h0
    · rw [h0] at hi; simp at hi
    · exact h0
  have hcap : qs.length ≤ cap ∧ cap ≤ maxLen := by
    rcases h.own.2 with ⟨e, _⟩ | ⟨g', cap', cur, e, _, _, h1, h2, _⟩
    · cases e
    · cases e; exact ⟨h1, h2⟩
  have HCELL : Hid (∀ W, Below w.heap.size w W → ∀ (j : Nat) (u : Value), (qRow qs)[j]? = some u → W.cell? ⟨g, j, none⟩ = some u) := hide (fun W hb j u hu => by
    have hj := (List.getElem?_eq_some_iff.1 hu).1
    rw [qRow_len] at hj
    refine cell_kept hb ?_
    rw [h.own.cellAt j (by omega)]
    exact hu)
  have HSP : Hid (qRow qs = qRow (qs.take i) ++ qRow (qs.drop i) ∧ qRow qs = qRow (qs.take (i + 1)) ++ qRow (qs.drop (i + 1)) ∧ (qRow (qs.take i)).length = i * 10 ∧ (qRow (qs.take (i + 1))).length = (i + 1) * 10 ∧ (qRow (qs.drop (i + 1))).length = (qs.length - (i + 1)) * 10) := hide ⟨by rw [← qRow_app, List.take_append_drop], by rw [← qRow_app, List.take_append_drop], by rw [qRow_len, List.length_take]; congr 1; omega, by rw [qRow_len, List.length_take]; congr 1; omega, by rw [qRow_len, List.length_drop]⟩
  have HN1 : Hid (∀ W, Below w.heap.size w W → ∀ (j : Nat) (u : Value), (qRow (qs.take i))[j]? = some u → W.cell? ((⟨g, 0, none⟩ : Addr).add j) = some u) := hide (fun W hb j u hu => by
    have := (unhide HCELL) W hb j u (by rw [(unhide HSP).1]; rw [List.getElem?_append_left (List.getElem?_eq_some_iff.1 hu).1]; exact hu)
    rw [add_at, Nat.zero_add]
    exact this)
  have HN2 : Hid (∀ W, Below w.heap.size w W → ∀ (j : Nat) (u : Value), (qRow (qs.drop (i + 1)))[j]? = some u → W.cell? ((⟨g, (i + 1) * 10, none⟩ : Addr).add j) = some u) := hide (fun W hb j u hu => by
    have := (unhide HCELL) W hb ((i + 1) * 10 + j) u (by rw [(unhide HSP).2.1, List.getElem?_append_right (by rw [(unhide HSP).2.2.2.1]; omega), (unhide HSP).2.2.2.1, Nat.add_sub_cancel_left]; exact hu)
    rw [add_at]
    exact this)
  have HKEEP : Hid (∀ W, Below w.heap.size w W → W.cell? ⟨bQ, 1, none⟩ = some (.slice (some ⟨g, 0, none⟩) qs.length cap)) := hide (fun W hb => cell_kept hb c1)
  have HFIN : Hid (∀ (w2 : World) (v2 : Value), Below w.heap.size w w2 → w2.ownsRow w.heap.size 54 10 v2 (0 + i + (qs.length - (i + 1))) ((([] : List Value) ++ qRow (qs.take i)) ++ qRow (qs.drop (i + 1))) → UpdQ F w (w2.setCell ⟨bQ, 1, none⟩ v2) base bQ bR (qs.take i ++ qs.drop (i + 1)) ∧ w2.frozen? ⟨bQ, 1, none⟩ = false ∧ w2.cell? ⟨bQ, 1, none⟩ = some (.slice (some ⟨g, 0, none⟩) qs.length cap)) := hide (fun w2 v2 hb ho => by
    refine h.fresh hF hb ?_ ?_
    · rw [qRow_app, List.length_append, List.length_take, List.length_drop, Nat.min_eq_left (by omega)]
      rw [List.nil_append, Nat.zero_add] at ho
      exact ho
    · intro x hx
      rcases List.mem_append.1 hx with e | e
      · exact List.mem_of_mem_take e
      · exact List.mem_of_mem_drop e)
  obtain ⟨ti, hi0, hz0, hz1, hz2⟩ := info_parts Tryz.info54
  have HB0 := hide (Nat.le_refl w.heap.size)
  have hiz : (i : Int) ≤ (qs.length : Int) := by omega
  have hic : (i : Int) ≤ (cap : Int) := by omega
  have hiz1 : (i : Int) + 1 ≤ (qs.length : Int) := by omega
  have hnc : (qs.length : Int) ≤ (cap : Int) := by omega
  have hcm : (cap : Int) ≤ 9223372036854775807 := by have := hcap.2; unfold maxLen at this; omega
  have hne : ¬ cap = i + 1 := by omega
  have hw1 : IntKind.i64.wrap ((i : Int) + 1) = (i : Int) + 1 := by rw [IntKind.wrap_i64]; omega
  have HM : Hid (0 + i ≤ maxLen ∧ (0 + i) * 112 ≤ 140737488355328 ∧ 0 + i + (qs.length - (i + 1)) ≤ maxLen ∧ (0 + i + (qs.length - (i + 1))) * 112 ≤ 140737488355328) := hide (by unfold maxLen; omega)
  clear h hF hl hcap f1 hlt
  generalize qs.length = n at *
  have c1a := (unhide HKEEP) _ (below_newAc w (.cells #[] 54))
  have HEO := hide (empty_own w)
  go_enter Tryz.func80, Tryz.ntmps80
  go_wp2_with (first
    | (have _x := unhide Q1; clear _x; at_builtin; go_must (refine wpList_append_own _ (by rfl) _ _ 102 (by rfl) w.heap.size 54 ti _ 10 112 (by kernel_rfl) hi0 hz0 hz1 hz2 rfl (by omega) v1 (0 + i) (([] : List Value) ++ qRow (qs.take i)) (by rfl) (unhide Q1) ⟨g, (i + 1) * 10, none⟩ (n - (i + 1)) (cap - (i + 1)) (qRow (qs.drop (i + 1))) (by rfl) (unhide HSP).2.2.2.2 ((unhide HN2) _ (unhide Q3)) (qRow_one _) (unhide HM).2.2.1 (unhide HM).2.2.2 (unhide Q3).size ?_); intro v2 w2 ho2 hg2 _; obtain ⟨va2, vc2, rfl⟩ := own_val ho2; obtain ⟨hu, d1, d2⟩ := (unhide HFIN) w2 _ (grown_more (unhide Q3) (unhide Q4) hg2) ho2; have HU := hide hu; clear ho2 hg2 hu)
    | (at_builtin; go_must (refine wpList_append_own _ (by rfl) _ _ 102 (by rfl) w.heap.size 54 ti _ 10 112 (by kernel_rfl) hi0 hz0 hz1 hz2 rfl (by omega) (.slice (some ⟨w.heap.size, 0, none⟩) 0 0) 0 ([] : List Value) (by rfl) (unhide HEO) ⟨g, 0, none⟩ i cap (qRow (qs.take i)) (by rfl) (unhide HSP).2.2.1 ((unhide HN1) _ (below_newAc _ _)) (qRow_one _) (unhide HM).1 (unhide HM).2.1 (below_newAc _ _).size ?_); intro v1 w1 ho1 hg1 _; have Q1 := hide ho1; have Q3 := hide (grown_new hg1); have Q4 := hide (fun k (hk : v1.ownBlock = some k) => (ho1.lt k hk).1); have c1b := (unhide HKEEP) _ (unhide Q3); clear ho1 hg1))
  have h9 := unhide HU
  rw [Nat.zero_add] at h9
  exact ⟨rfl, _, results_none rfl _ _ _, rfl, h9⟩
end
end Go.Proofs.YtkakncngkmoegaaGreat
