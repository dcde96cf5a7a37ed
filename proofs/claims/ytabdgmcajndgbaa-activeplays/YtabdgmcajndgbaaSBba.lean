/-
  The document's list: whether two entries are alike.
-/
import Derived.Test.YtabdgmcajndgbaaSBaz
namespace Go.Proofs.Ytabdgmcajndgbaa
open Go.RowKit Go.Sort

section
variable {w : World} {base bQ bR : Nat} {ks : List Key} {F : Nat → Prop}
set_option maxHeartbeats 4000000 in
theorem qalike_any (hr : RfK w base bR ks F) (hq : w.cell? ⟨bQ, 0, none⟩ = some (.pointer (some ⟨bR, 0, none⟩))) (x y : EntQ) (hx : AttrsIn w x.a x.tok.attrs) (hy : AttrsIn w y.a y.tok.attrs) (lx : x.tok.attrs.length ≤ 2513169434916) (ly : y.tok.attrs.length ≤ 2513169434916) {i k : Nat} {p q : Key} (hxi : x.node = (i : Int)) (hyk : y.node = (k : Int)) (hp : ks[i]? = some p) (hqk : ks[k]? = some q) : Calls Try.prog 54 #[.pointer (some ⟨bQ, 0, none⟩), .agg x.cells.toArray, .agg y.cells.toArray] w fun e w' => e = .returned (.bool (p.name.toList == q.name.toList && p.space == q.space && setsB x.tok.attrs y.tok.attrs)) ∧ Below w.heap.size w w' := by
  obtain ⟨g, cap, _, _, r1, a1, n1, c1, e1, m1, d1, rfl, rfl, cR, hi, x0, x1, x2, x3, x4, x5, x6, x7, x8, x9⟩ := hr.open hp
  obtain ⟨g', cap', _, _, r2, a2, n2, c2, e2, m2, d2, rfl, rfl, cR', hk, y0, y1, y2, y3, y4, y5, y6, y7, y8, y9⟩ := hr.open hqk
  have hcc := cR.symm.trans cR'
  simp only [Option.some.injEq, Value.slice.injEq, Addr.mk.injEq, and_true, true_and] at hcc
  obtain ⟨rfl, rfl⟩ := hcc
  have hmost := hr.most
  have hiz : (i : Int) < (ks.length : Int) := by omega
  have hkz : (k : Int) < (ks.length : Int) := by omega
  have hmz : (ks.length : Int) ≤ 32768 := by omega
  obtain ⟨xn, ⟨t0, t1, t2, t3, t4, t5, t6, t7, ta⟩, xa, xc⟩ := x
  obtain ⟨yn, ⟨v0, v1, v2, v3, v4, v5, v6, v7, va⟩, ya, yc⟩ := y
  simp only at hx hy hxi hyk lx ly
  subst hxi hyk
  simp only [EntQ.cells, EntQ.av, TokM.cells]
  have HSET := hide (fun W (hb : Below w.heap.size w W) => qsets_any W xa ya xc yc ta va (hx.below hb) (hy.below hb) lx ly)
  obtain ⟨pk, ps, pn⟩ := p
  obtain ⟨qk, qs, qn⟩ := q
  simp only at *
  have hkeep : ∀ W', Below w.heap.size w W' → ∀ (b o : Nat) (v : Value), w.cell? ⟨b, o, none⟩ = some v → W'.cell? ⟨b, o, none⟩ = some v := fun W' hb b o v hv => cell_kept hb hv
  generalize ks.length = n at *
  have HSS : Hid (∀ W', Ek w (.cells #[.int .i64 (i : Int), .int .i64 t0, .string t1, .string t2, .string t3, .int .i64 t4, .bool t5, .int .i32 t6, .bool t7, .slice xa ta.length xc] 46) (.cells #[.int .i64 (k : Int), .int .i64 v0, .string v1, .string v2, .string v3, .int .i64 v4, .bool v5, .int .i32 v6, .bool v7, .slice ya va.length yc] 46) W' → W'.cell? ⟨bQ, 0, none⟩ = some (.pointer (some ⟨bR, 0, none⟩)) ∧ W'.cell? ⟨bR, 0, none⟩ = some (.slice (some ⟨g, 0, none⟩) n cap) ∧ W'.cell? ⟨g, i * 10, none⟩ = some (.int .i64 pk) ∧ W'.cell? ⟨g, i * 10 + 1, none⟩ = some (.int .i64 ps) ∧ W'.cell? ⟨g, i * 10 + 2, none⟩ = some (.string pn) ∧ W'.cell? ⟨g, i * 10 + 3, none⟩ = some (.slice a1 n1 c1) ∧ W'.cell? ⟨g, i * 10 + 4, none⟩ = some (.string r1.data) ∧ W'.cell? ⟨g, i * 10 + 5, none⟩ = some (.string r1.system) ∧ W'.cell? ⟨g, i * 10 + 6, none⟩ = some (.int .i64 r1.inner) ∧ W'.cell? ⟨g, i * 10 + 7, none⟩ = some (.int .i64 r1.host) ∧ W'.cell? ⟨g, i * 10 + 8, none⟩ = some (.int .i64 r1.up) ∧ W'.cell? ⟨g, i * 10 + 9, none⟩ = some (.slice e1 m1 d1) ∧ W'.cell? ⟨g, k * 10, none⟩ = some (.int .i64 qk) ∧ W'.cell? ⟨g, k * 10 + 1, none⟩ = some (.int .i64 qs) ∧ W'.cell? ⟨g, k * 10 + 2, none⟩ = some (.string qn) ∧ W'.cell? ⟨g, k * 10 + 3, none⟩ = some (.slice a2 n2 c2) ∧ W'.cell? ⟨g, k * 10 + 4, none⟩ = some (.string r2.data) ∧ W'.cell? ⟨g, k * 10 + 5, none⟩ = some (.string r2.system) ∧ W'.cell? ⟨g, k * 10 + 6, none⟩ = some (.int .i64 r2.inner) ∧ W'.cell? ⟨g, k * 10 + 7, none⟩ = some (.int .i64 r2.host) ∧ W'.cell? ⟨g, k * 10 + 8, none⟩ = some (.int .i64 r2.up) ∧ W'.cell? ⟨g, k * 10 + 9, none⟩ = some (.slice e2 m2 d2) ∧ W'.cell? ⟨w.heap.size, 0, none⟩ = some (.int .i64 (i : Int)) ∧ W'.cell? ⟨w.heap.size + 1, 0, none⟩ = some (.int .i64 (k : Int))) := hide (fun W' h => ⟨hkeep W' h.bel _ _ _ hq, hkeep W' h.bel _ _ _ cR, hkeep W' h.bel _ _ _ x0, hkeep W' h.bel _ _ _ x1, hkeep W' h.bel _ _ _ x2, hkeep W' h.bel _ _ _ x3, hkeep W' h.bel _ _ _ x4, hkeep W' h.bel _ _ _ x5, hkeep W' h.bel _ _ _ x6, hkeep W' h.bel _ _ _ x7, hkeep W' h.bel _ _ _ x8, hkeep W' h.bel _ _ _ x9, hkeep W' h.bel _ _ _ y0, hkeep W' h.bel _ _ _ y1, hkeep W' h.bel _ _ _ y2, hkeep W' h.bel _ _ _ y3, hkeep W' h.bel _ _ _ y4, hkeep W' h.bel _ _ _ y5, hkeep W' h.bel _ _ _ y6, hkeep W' h.bel _ _ _ y7, hkeep W' h.bel _ _ _ y8, hkeep W' h.bel _ _ _ y9, cell_of_row _ _ 0 _ _ _ h.x, cell_of_row _ _ 0 _ _ _ h.y⟩)
  have HAT : Hid (∀ W', Ek w (.cells #[.int .i64 (i : Int), .int .i64 t0, .string t1, .string t2, .string t3, .int .i64 t4, .bool t5, .int .i32 t6, .bool t7, .slice xa ta.length xc] 46) (.cells #[.int .i64 (k : Int), .int .i64 v0, .string v1, .string v2, .string v3, .int .i64 v4, .bool v5, .int .i32 v6, .bool v7, .slice ya va.length yc] 46) W' → W'.cell? ⟨w.heap.size, 9, none⟩ = some (.slice xa ta.length xc) ∧ W'.cell? ⟨w.heap.size + 1, 9, none⟩ = some (.slice ya va.length yc)) := hide (fun W' h => ⟨cell_of_row _ _ 9 _ _ _ h.x, cell_of_row _ _ 9 _ _ _ h.y⟩)
  have HEK := hide (Ek.start w (.cells #[.int .i64 (i : Int), .int .i64 t0, .string t1, .string t2, .string t3, .int .i64 t4, .bool t5, .int .i32 t6, .bool t7, .slice xa ta.length xc] 46) (.cells #[.int .i64 (k : Int), .int .i64 v0, .string v1, .string v2, .string v3, .int .i64 v4, .bool v5, .int .i32 v6, .bool v7, .slice ya va.length yc] 46))
  have HBL := hide (fun W' (h : Ek w (.cells #[.int .i64 (i : Int), .int .i64 t0, .string t1, .string t2, .string t3, .int .i64 t4, .bool t5, .int .i32 t6, .bool t7, .slice xa ta.length xc] 46) (.cells #[.int .i64 (k : Int), .int .i64 v0, .string v1, .string v2, .string v3, .int .i64 v4, .bool v5, .int .i32 v6, .bool v7, .slice ya va.length yc] 46) W') => h.bel)
  have HLT := hide (fun W' (h : Ek w (.cells #[.int .i64 (i : Int), .int .i64 t0, .string t1, .string t2, .string t3, .int .i64 t4, .bool t5, .int .i32 t6, .bool t7, .slice xa ta.length xc] 46) (.cells #[.int .i64 (k : Int), .int .i64 v0, .string v1, .string v2, .string v3, .int .i64 v4, .bool v5, .int .i32 v6, .bool v7, .slice ya va.length yc] 46) W') => h.lt)
  clear hx hy lx ly hr hp hqk cR' hmost hi hk hkeep hq cR x0 x1 x2 x3 x4 x5 x6 x7 x8 x9 y0 y1 y2 y3 y4 y5 y6 y7 y8 y9
  go_enter Try.func54, Try.ntmps54
  go_wp2
  generalize hW0 : (w.alloc (.cells #[.int .i64 (i : Int), .int .i64 t0, .string t1, .string t2, .string t3, .int .i64 t4, .bool t5, .int .i32 t6, .bool t7, .slice xa ta.length xc] 46)).alloc (.cells #[.int .i64 (k : Int), .int .i64 v0, .string v1, .string v2, .string v3, .int .i64 v4, .bool v5, .int .i32 v6, .bool v7, .slice ya va.length yc] 46) = W0 at *
  have HL0 := hide ((unhide HLT) _ (unhide HEK))
  clear hW0
  obtain ⟨s0, s1, s2, s3, s4, s5, s6, s7, s8, s9, s10, s11, s12, s13, s14, s15, s16, s17, s18, s19, s20, s21, s22, s23⟩ := (unhide HSS) _ (unhide HEK)
  go_region_held3 (fun W' => W'.cell? ⟨bQ, 0, none⟩ = some (.pointer (some ⟨bR, 0, none⟩)) ∧ W'.cell? ⟨bR, 0, none⟩ = some (.slice (some ⟨g, 0, none⟩) n cap) ∧ W'.cell? ⟨g, i * 10, none⟩ = some (.int .i64 pk) ∧ W'.cell? ⟨g, i * 10 + 1, none⟩ = some (.int .i64 ps) ∧ W'.cell? ⟨g, i * 10 + 2, none⟩ = some (.string pn) ∧ W'.cell? ⟨g, i * 10 + 3, none⟩ = some (.slice a1 n1 c1) ∧ W'.cell? ⟨g, i * 10 + 4, none⟩ = some (.string r1.data) ∧ W'.cell? ⟨g, i * 10 + 5, none⟩ = some (.string r1.system) ∧ W'.cell? ⟨g, i * 10 + 6, none⟩ = some (.int .i64 r1.inner) ∧ W'.cell? ⟨g, i * 10 + 7, none⟩ = some (.int .i64 r1.host) ∧ W'.cell? ⟨g, i * 10 + 8, none⟩ = some (.int .i64 r1.up) ∧ W'.cell? ⟨g, i * 10 + 9, none⟩ = some (.slice e1 m1 d1) ∧ W'.cell? ⟨g, k * 10, none⟩ = some (.int .i64 qk) ∧ W'.cell? ⟨g, k * 10 + 1, none⟩ = some (.int .i64 qs) ∧ W'.cell? ⟨g, k * 10 + 2, none⟩ = some (.string qn) ∧ W'.cell? ⟨g, k * 10 + 3, none⟩ = some (.slice a2 n2 c2) ∧ W'.cell? ⟨g, k * 10 + 4, none⟩ = some (.string r2.data) ∧ W'.cell? ⟨g, k * 10 + 5, none⟩ = some (.string r2.system) ∧ W'.cell? ⟨g, k * 10 + 6, none⟩ = some (.int .i64 r2.inner) ∧ W'.cell? ⟨g, k * 10 + 7, none⟩ = some (.int .i64 r2.host) ∧ W'.cell? ⟨g, k * 10 + 8, none⟩ = some (.int .i64 r2.up) ∧ W'.cell? ⟨g, k * 10 + 9, none⟩ = some (.slice e2 m2 d2) ∧ W'.cell? ⟨w.heap.size, 0, none⟩ = some (.int .i64 (i : Int)) ∧ W'.cell? ⟨w.heap.size + 1, 0, none⟩ = some (.int .i64 (k : Int))) ((refine (unhide HSS) _ ?_; repeat' (with_reducible (first | exact unhide HEK | apply Ek.alloc | apply Ek.drew | (refine Ek.put1 ?_ _ _ _ (unhide HL0)))))) (skip)
  clear s0 s1 s2 s3 s4 s5 s6 s7 s8 s9 s10 s11 s12 s13 s14 s15 s16 s17 s18 s19 s20 s21 s22 s23
  have HEK1 := hide ((unhide HEK).alloc (.cells #[.int .i64 pk, .int .i64 ps, .string pn, .slice a1 n1 c1, .string r1.data, .string r1.system, .int .i64 r1.inner, .int .i64 r1.host, .int .i64 r1.up, .slice e1 m1 d1] 98)).drew
  have hb1 := kept_oldK (heap_alloc_new W0 (.cells #[.int .i64 pk, .int .i64 ps, .string pn, .slice a1 n1 c1, .string r1.data, .string r1.system, .int .i64 r1.inner, .int .i64 r1.host, .int .i64 r1.up, .slice e1 m1 d1] 98)) (Below.refl _ _).drew
  generalize (W0.alloc (.cells #[.int .i64 pk, .int .i64 ps, .string pn, .slice a1 n1 c1, .string r1.data, .string r1.system, .int .i64 r1.inner, .int .i64 r1.host, .int .i64 r1.up, .slice e1 m1 d1] 98)).drew = W1 at *
  have HL1 := hide ((unhide HLT) _ (unhide HEK1))
  go_wp2
  obtain ⟨s0, s1, s2, s3, s4, s5, s6, s7, s8, s9, s10, s11, s12, s13, s14, s15, s16, s17, s18, s19, s20, s21, s22, s23⟩ := (unhide HSS) _ (unhide HEK1)
  go_region_held3 (fun W' => W'.cell? ⟨bQ, 0, none⟩ = some (.pointer (some ⟨bR, 0, none⟩)) ∧ W'.cell? ⟨bR, 0, none⟩ = some (.slice (some ⟨g, 0, none⟩) n cap) ∧ W'.cell? ⟨g, i * 10, none⟩ = some (.int .i64 pk) ∧ W'.cell? ⟨g, i * 10 + 1, none⟩ = some (.int .i64 ps) ∧ W'.cell? ⟨g, i * 10 + 2, none⟩ = some (.string pn) ∧ W'.cell? ⟨g, i * 10 + 3, none⟩ = some (.slice a1 n1 c1) ∧ W'.cell? ⟨g, i * 10 + 4, none⟩ = some (.string r1.data) ∧ W'.cell? ⟨g, i * 10 + 5, none⟩ = some (.string r1.system) ∧ W'.cell? ⟨g, i * 10 + 6, none⟩ = some (.int .i64 r1.inner) ∧ W'.cell? ⟨g, i * 10 + 7, none⟩ = some (.int .i64 r1.host) ∧ W'.cell? ⟨g, i * 10 + 8, none⟩ = some (.int .i64 r1.up) ∧ W'.cell? ⟨g, i * 10 + 9, none⟩ = some (.slice e1 m1 d1) ∧ W'.cell? ⟨g, k * 10, none⟩ = some (.int .i64 qk) ∧ W'.cell? ⟨g, k * 10 + 1, none⟩ = some (.int .i64 qs) ∧ W'.cell? ⟨g, k * 10 + 2, none⟩ = some (.string qn) ∧ W'.cell? ⟨g, k * 10 + 3, none⟩ = some (.slice a2 n2 c2) ∧ W'.cell? ⟨g, k * 10 + 4, none⟩ = some (.string r2.data) ∧ W'.cell? ⟨g, k * 10 + 5, none⟩ = some (.string r2.system) ∧ W'.cell? ⟨g, k * 10 + 6, none⟩ = some (.int .i64 r2.inner) ∧ W'.cell? ⟨g, k * 10 + 7, none⟩ = some (.int .i64 r2.host) ∧ W'.cell? ⟨g, k * 10 + 8, none⟩ = some (.int .i64 r2.up) ∧ W'.cell? ⟨g, k * 10 + 9, none⟩ = some (.slice e2 m2 d2) ∧ W'.cell? ⟨w.heap.size, 0, none⟩ = some (.int .i64 (i : Int)) ∧ W'.cell? ⟨w.heap.size + 1, 0, none⟩ = some (.int .i64 (k : Int))) ((refine (unhide HSS) _ ?_; repeat' (with_reducible (first | exact unhide HEK1 | apply Ek.alloc | apply Ek.drew | (refine Ek.put1 ?_ _ _ _ (unhide HL1)))))) (skip)
  have HEK2 := hide ((unhide HEK1).alloc (.cells #[.int .i64 qk, .int .i64 qs, .string qn, .slice a2 n2 c2, .string r2.data, .string r2.system, .int .i64 r2.inner, .int .i64 r2.host, .int .i64 r2.up, .slice e2 m2 d2] 98)).drew
  have hb2 := kept_oldK (heap_alloc_new W1 (.cells #[.int .i64 qk, .int .i64 qs, .string qn, .slice a2 n2 c2, .string r2.data, .string r2.system, .int .i64 r2.inner, .int .i64 r2.host, .int .i64 r2.up, .slice e2 m2 d2] 98)) (Below.refl _ _).drew
  have hb3 : ((W1.alloc (.cells #[.int .i64 qk, .int .i64 qs, .string qn, .slice a2 n2 c2, .string r2.data, .string r2.system, .int .i64 r2.inner, .int .i64 r2.host, .int .i64 r2.up, .slice e2 m2 d2] 98)).drew).heap[W0.heap.size]? = some (.cells #[.int .i64 pk, .int .i64 ps, .string pn, .slice a1 n1 c1, .string r1.data, .string r1.system, .int .i64 r1.inner, .int .i64 r1.host, .int .i64 r1.up, .slice e1 m1 d1] 98 (0, 0)) := kept_oldK hb1 ((below_new _ _).drew)
  generalize (W1.alloc (.cells #[.int .i64 qk, .int .i64 qs, .string qn, .slice a2 n2 c2, .string r2.data, .string r2.system, .int .i64 r2.inner, .int .i64 r2.host, .int .i64 r2.up, .slice e2 m2 d2] 98)).drew = W2 at *
  have o1 := cell_of_row _ _ 1 _ _ _ hb3
  have o2 := cell_of_row _ _ 2 _ _ _ hb3
  have p1 := cell_of_row _ _ 1 _ _ _ hb2
  have p2 := cell_of_row _ _ 2 _ _ _ hb2
  obtain ⟨ax, ay⟩ := (unhide HAT) _ (unhide HEK2)
  clear s0 s1 s2 s3 s4 s5 s6 s7 s8 s9 s10 s11 s12 s13 s14 s15 s16 s17 s18 s19 s20 s21 s22 s23 hb1 hb2 hb3 HSS HAT
  cases hnm : (pn.toList == qn.toList) with
  | false =>
    go_wp2_with (first
      | (go_at_call 69; refine ((unhide HSET) _ ((unhide HBL) _ (unhide HEK2))).mono ?_; rintro e w1 ⟨rfl, hb1⟩; have HB1 := hide (((unhide HBL) _ (unhide HEK2)).trans (hb1.mono ((unhide HBL) _ (unhide HEK2)).size)); clear hb1))
    go_ret
    exact ⟨by rw [hnm]; rfl, (unhide HBL) _ (unhide HEK2)⟩
  | true =>
    cases hsp : (ps == qs) with
    | false =>
      go_wp2_with (first
        | (go_at_call 69; refine ((unhide HSET) _ ((unhide HBL) _ (unhide HEK2))).mono ?_; rintro e w1 ⟨rfl, hb1⟩; have HB1 := hide (((unhide HBL) _ (unhide HEK2)).trans (hb1.mono ((unhide HBL) _ (unhide HEK2)).size)); clear hb1))
      go_ret
      exact ⟨by rw [hnm, hsp]; rfl, (unhide HBL) _ (unhide HEK2)⟩
    | true =>
      go_wp2_with (first
        | (go_at_call 69; refine ((unhide HSET) _ ((unhide HBL) _ (unhide HEK2))).mono ?_; rintro e w1 ⟨rfl, hb1⟩; have HB1 := hide (((unhide HBL) _ (unhide HEK2)).trans (hb1.mono ((unhide HBL) _ (unhide HEK2)).size)); clear hb1))
      go_ret
      exact ⟨by rw [hnm, hsp]; rfl, unhide HB1⟩
end
end Go.Proofs.Ytabdgmcajndgbaa
