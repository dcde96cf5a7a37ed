/-
  The agency: a node is put. The agency: a new element for an entry's token. The agency: the element below F; an end.
-/
import Derived.Test.YtkakncngkmoegaaGreatYXJc
import Derived.Test.YtkakncngkmoegaaGreatXGu
import Derived.Test.YtkakncngkmoegaaGreatXGv
namespace Go.Proofs.YtkakncngkmoegaaGreat
open Go.RowKit Go.Sort

section
variable {w wx : World} {P : Pt} {s : St} {c : Ct} {rest : List (Ob w.heap.size)}
theorem AE.boxesP (h : AE w wx P s c rest) (p q id : Int) : AE w (((wx.alloc (.cells #[.pointer (some ⟨P.bG, 0, none⟩)] 83)).alloc (.cells #[.int .i64 p, .int .i64 q] 159)).alloc (.cells #[.int .i64 id] 3)) P s c (((rest ++ [blkOb _ wx.heap.size #[.pointer (some ⟨P.bG, 0, none⟩)] 83]) ++ [blkOb _ (wx.heap.size + 1) #[.int .i64 p, .int .i64 q] 159]) ++ [blkOb _ (wx.heap.size + 1 + 1) #[.int .i64 id] 3]) := by
  have h2 := (h.boxed #[.pointer (some ⟨P.bG, 0, none⟩)] 83).boxed #[.int .i64 p, .int .i64 q] 159
  rw [show (wx.alloc (.cells #[.pointer (some ⟨P.bG, 0, none⟩)] 83)).heap.size = wx.heap.size + 1 by simp] at h2
  have h3 := h2.boxed #[.int .i64 id] 3
  rwa [show ((wx.alloc (.cells #[.pointer (some ⟨P.bG, 0, none⟩)] 83)).alloc (.cells #[.int .i64 p, .int .i64 q] 159)).heap.size = wx.heap.size + 1 + 1 by simp] at h3
theorem AE.boxesP_cells {W' : World} {s' : St} {c' : Ct} {p q id : Int} (hW : AE w W' P s' c' (((rest ++ [blkOb _ wx.heap.size #[.pointer (some ⟨P.bG, 0, none⟩)] 83]) ++ [blkOb _ (wx.heap.size + 1) #[.int .i64 p, .int .i64 q] 159]) ++ [blkOb _ (wx.heap.size + 1 + 1) #[.int .i64 id] 3])) : W'.cell? ⟨wx.heap.size, 0, none⟩ = some (.pointer (some ⟨P.bG, 0, none⟩)) ∧ W'.cell? ⟨wx.heap.size + 1, 0, none⟩ = some (.int .i64 p) ∧ W'.cell? ⟨wx.heap.size + 1, 1, none⟩ = some (.int .i64 q) ∧ W'.cell? ⟨wx.heap.size + 1 + 1, 0, none⟩ = some (.int .i64 id) ∧ W'.cell? ⟨P.bG, 0, none⟩ = some (.pointer (some ⟨P.bA, 0, none⟩)) := by
  have b1 := hW.block (i := rest.length) (three_at _ _ _ _).1
  have b2 := hW.block (i := rest.length + 1) (three_at _ _ _ _).2.1
  have b3 := hW.block (i := rest.length + 1 + 1) (three_at _ _ _ _).2.2
  exact ⟨cell_of_row _ _ 0 _ _ _ b1, cell_of_row _ _ 0 _ _ _ b2, cell_of_row _ _ 1 _ _ _ b2, cell_of_row _ _ 0 _ _ _ b3, hW.cells.1⟩
set_option maxHeartbeats 2000000 in
theorem gput_any (h : AE w wx P s c rest) (hc : c.cnt < 1000000000) (p q id : Int) (hp : hasO s.os p = true) (hid : hasO s.os id = true) (hq : q = -1 ∨ hasO s.os q = true) : Calls Tryz.prog 133 #[.pointer (some ⟨P.bG, 0, none⟩), spotV p q, .int .i64 id] wx fun e w' => e = .returned (.tuple #[]) ∧ AE w w' P (putP s p q id) ⟨c.another, c.errs, c.cnt + 1⟩ rest := by
  have hmf : ∀ (fn : Fn) (first cap : Array Value) (w : World), (Instr.makeFunc fn first cap).run Tryz.prog w = .ok (.func fn first cap) w := fun _ _ _ _ => rfl
  have hk2 : 0 ≤ id ∧ id < s.os.length := by simpa [hasO] using hid
  obtain ⟨k, rfl⟩ : ∃ k : Nat, id = k := ⟨id.toNat, by omega⟩
  obtain ⟨o, ho⟩ : ∃ o, s.os[k]? = some o := ⟨_, List.getElem?_eq_getElem (by omega)⟩
  have hae := h.boxesP p q (k : Int)
  have HS := hide (fun W (s' : St) (c' : Ct) (hW : AE w W P s' c' (((rest ++ [blkOb _ wx.heap.size #[.pointer (some ⟨P.bG, 0, none⟩)] 83]) ++ [blkOb _ (wx.heap.size + 1) #[.int .i64 p, .int .i64 q] 159]) ++ [blkOb _ (wx.heap.size + 1 + 1) #[.int .i64 (k : Int)] 3])) => hW.boxesP_cells)
  have HN : Hid (∀ W, AE w W P s c (((rest ++ [blkOb _ wx.heap.size #[.pointer (some ⟨P.bG, 0, none⟩)] 83]) ++ [blkOb _ (wx.heap.size + 1) #[.int .i64 p, .int .i64 q] 159]) ++ [blkOb _ (wx.heap.size + 1 + 1) #[.int .i64 k] 3]) → Calls Tryz.prog 14 #[.pointer (some ⟨P.bA, 0, none⟩), .int .i64 k] W fun e w' => ∃ (n : NodeM) (ao : Option Addr) (m c1 : Nat), e = .returned (.tuple #[nodeV n (.slice ao m c1), .int .i64 0]) ∧ Below W.heap.size W w') := hide (fun W hW => (anode_in (i := 0) hW rfl ho).mono fun _ _ ⟨a, b, c, d, e, _, g⟩ => ⟨a, b, c, d, e, g⟩)
  have HPU := hide (fun W (hW : AE w W P s c (((rest ++ [blkOb _ wx.heap.size #[.pointer (some ⟨P.bG, 0, none⟩)] 83]) ++ [blkOb _ (wx.heap.size + 1) #[.int .i64 p, .int .i64 q] 159]) ++ [blkOb _ (wx.heap.size + 1 + 1) #[.int .i64 k] 3])) => ae_put hW p q (k : Int) hp hid hq)
  have HCH := hide (fun W (s' : St) (e : Int) (fn : Fn) (fi ca : Array Value) (hW : AE w W P s' c (((rest ++ [blkOb _ wx.heap.size #[.pointer (some ⟨P.bG, 0, none⟩)] 83]) ++ [blkOb _ (wx.heap.size + 1) #[.int .i64 p, .int .i64 q] 159]) ++ [blkOb _ (wx.heap.size + 1 + 1) #[.int .i64 k] 3])) => changed_any hW hc e fn fi ca)
  have HDR := hide (fun W (s' : St) (c' : Ct) (hW : AE w W P s' c' (((rest ++ [blkOb _ wx.heap.size #[.pointer (some ⟨P.bG, 0, none⟩)] 83]) ++ [blkOb _ (wx.heap.size + 1) #[.int .i64 p, .int .i64 q] 159]) ++ [blkOb _ (wx.heap.size + 1 + 1) #[.int .i64 k] 3])) => hW.drop1.drop1.drop1)
  have HX := hide hae
  obtain ⟨y0, y1, y2, y3, y4⟩ := (unhide HS) _ _ _ hae
  generalize (((rest ++ [blkOb w.heap.size wx.heap.size #[.pointer (some ⟨P.bG, 0, none⟩)] 83]) ++ [blkOb w.heap.size (wx.heap.size + 1) #[.int .i64 p, .int .i64 q] 159]) ++ [blkOb w.heap.size (wx.heap.size + 1 + 1) #[.int .i64 k] 3]) = rest2 at *
  clear h hc hae hp hid hq hk2 ho
  unfold spotV at HPU ⊢
  go_enter Tryz.func133, Tryz.ntmps133
  go_wp2
  rename_i Q1 K1 hK1
  have HL : Hid (∀ (W : World) (bw : Nat) (u8 u9 u10 u11 u12 u13 u14 u15 u16 u17 u18 u19 u20 u21 u22 u23 u24 u25 u26 u27 : Value), AE w W P s c rest2 → K1 { tmps := #[.pointer (some ⟨P.bG, 0, none⟩), .agg #[.int .i64 p, .int .i64 q], .int .i64 k, .pointer (some ⟨wx.heap.size, 0, none⟩), .pointer (some ⟨wx.heap.size + 1, 0, none⟩), .pointer (some ⟨wx.heap.size + 1 + 1, 0, none⟩), .pointer (some ⟨bw, 0, none⟩), .int .i64 0, u8, u9, u10, u11, u12, u13, u14, u15, u16, u17, u18, u19, u20, u21, u22, u23, u24, u25, u26, u27], defers := [] } W) := hide (by
    intro W bw u8 u9 u10 u11 u12 u13 u14 u15 u16 u17 u18 u19 u20 u21 u22 u23 u24 u25 u26 u27 hW
    have HY := hide hW
    clear y0 y1 y2 y3 y4
    obtain ⟨y0, y1, y2, y3, y4⟩ := (unhide HS) _ _ _ hW
    clear hW HX HN
    apply hK1
    clear hK1
    go_wp2
    go_region_held3 (fun W' => W'.cell? ⟨wx.heap.size, 0, none⟩ = some (.pointer (some ⟨P.bG, 0, none⟩)) ∧ W'.cell? ⟨wx.heap.size + 1, 0, none⟩ = some (.int .i64 p) ∧ W'.cell? ⟨wx.heap.size + 1, 1, none⟩ = some (.int .i64 q) ∧ W'.cell? ⟨wx.heap.size + 1 + 1, 0, none⟩ = some (.int .i64 k) ∧ W'.cell? ⟨P.bG, 0, none⟩ = some (.pointer (some ⟨P.bA, 0, none⟩))) (first | exact (unhide HS) _ _ _ (unhide HX2) | exact (unhide HS) _ _ _ (unhide HY) | exact (unhide HS) _ _ _ (unhide HY).drew) (first
      | (go_at_call 168; refine ((unhide HPU) _ (by first | exact unhide HY | exact (unhide HY).drew)).mono ?_; rintro e w3 ⟨⟨r3, rfl⟩, he3⟩; have HX2 := hide he3; clear he3))
    all_goals clear y0 y1 y2 y3 y4
    all_goals obtain ⟨y0, y1, y2, y3, y4⟩ := (unhide HS) _ _ _ (unhide HX2)
    all_goals go_wp2_with (go_at_call 124; refine ((unhide HCH) _ _ _ _ _ _ (unhide HX2)).mono ?_; rintro e w4 ⟨rfl, he4⟩; have HX3 := hide he4; clear he4)
    all_goals exact ⟨rfl, _, results_none rfl _ _ _, rfl, (unhide HDR) _ _ _ (unhide HX3)⟩)
  clear hK1
  generalize ((wx.alloc (.cells #[.pointer (some ⟨P.bG, 0, none⟩)] 83)).alloc (.cells #[.int .i64 p, .int .i64 q] 159)).alloc (.cells #[.int .i64 k] 3) = W0 at *
  have kz := (unhide HS) _ _ _ ((unhide HX).more (below_newAc W0 (.cells zeroN.cells.toArray 47)))
  simp only [zeroN, NodeM.cells] at kz
  obtain ⟨z0, z1, z2, z3, z4⟩ := kz
  go_region_with (first
    | (go_at_call 14; refine ((unhide HN) _ (by first | exact unhide HX | exact (unhide HX).drew | exact (unhide HX).more (below_newAc _ _) | exact ((unhide HX).more (below_newAc _ _)).drew)).mono ?_; rintro e w1 ⟨nn, ao, m, c1, rfl, hb1⟩; obtain ⟨nk, nsp, nm, av, da, sy, pa, fi, la, pr, ne, inn, att⟩ := nn; simp only [nodeV, NodeM.cells]; (first
        | (have nx : Nx W0 w1 := (Nx.new W0).more hb1; have HNX := hide nx; obtain ⟨a0, a1, a2, a3, a4, a5, a6, a7, a8, a9, a10, a11, af⟩ := nx.cells; have f0 := af 0; have f1 := af 1; have f2 := af 2; have f3 := af 3; have f4 := af 4; have f5 := af 5; have f6 := af 6; have f7 := af 7; have f8 := af 8; have f9 := af 9; have f10 := af 10; have f11 := af 11; clear nx af)
        | (have nx : Nx W0 w1 := ((Nx.new W0).more (Below.refl _ _).drew).more hb1; have HNX := hide nx; obtain ⟨a0, a1, a2, a3, a4, a5, a6, a7, a8, a9, a10, a11, af⟩ := nx.cells; have f0 := af 0; have f1 := af 1; have f2 := af 2; have f3 := af 3; have f4 := af 4; have f5 := af 5; have f6 := af 6; have f7 := af 7; have f8 := af 8; have f9 := af 9; have f10 := af 10; have f11 := af 11; clear nx af)
        | (have bx : Below W0.heap.size W0 w1 := hb1; have HBX := hide bx; clear bx)
        | (have bx : Below W0.heap.size W0 w1 := (Below.refl _ _).drew.trans hb1; have HBX := hide bx; clear bx)); clear hb1))
  all_goals go_wp2
  all_goals (first
    | exact (unhide HL) _ _ _ _ _ _ _ _ _ _ _ _ _ _ _ _ _ _ _ _ _ _ ((unhide HX).more ((unhide HBX).alloc (unhide HBX).size _))
    | exact (unhide HL) (w1.setCells W0.heap.size 0 [.int .i64 nk, .int .i64 nsp, .string nm, .slice ao m c1, .string da, .string sy, .int .i64 pa, .int .i64 fi, .int .i64 la, .int .i64 pr, .int .i64 ne, .int .i64 inn]) _ _ _ _ _ _ _ _ _ _ _ _ _ _ _ _ _ _ _ _ _ ((unhide HX).more ((unhide HNX).bel.trans ((run_mod (F := fun k => k = W0.heap.size) W0.heap.size rfl _ 0 w1).below (unhide HNX).bel.size (fun k e => by omega)))))
end
end Go.Proofs.YtkakncngkmoegaaGreat

namespace Go.Proofs.YtkakncngkmoegaaGreat
open Go.RowKit Go.Sort

section
variable {w wx : World} {P : Pt} {s : St} {c : Ct} {rest : List (Ob w.heap.size)} {n : Nat}
theorem tok_none (hi : Inv s n) {id : Int} (hp : 0 ≤ placeE s.es id) : (tokE s.es id).attrs = [] ∧ longS (tokE s.es id).name = false := by
  obtain ⟨i, x, hpl, hx, hxn, hid⟩ := place_at hp
  rw [tokE_at hpl hx]
  rcases hi.ent x (List.mem_of_getElem? hx) with e | ⟨_, e1, e2⟩
  · exact absurd (hxn.symm.trans e) hid
  · exact ⟨e2, e1⟩
set_option maxHeartbeats 2000000 in
theorem gnew_any (h : AE w wx P s c rest) (hi : Inv s n) (id : Int) (hp : 0 ≤ placeE s.es id) : Calls Tryz.prog 158 #[.pointer (some ⟨P.bG, 0, none⟩), .int .i64 id] wx fun e w' => e = .returned (.tuple #[.int .i64 (newI s id), .int .i64 (newR s id).2.2]) ∧ AE w w' P (newP s id) c rest := by
  have HT := hide (gtoken_any h hi id hp)
  have HEL : Hid (∀ W ao ac, AE w W P s c rest → Calls Tryz.prog 18 #[.pointer (some ⟨P.bA, 0, none⟩), .int .i64 0, .string (tokE s.es id).name, .slice ao (tokE s.es id).attrs.length ac] W fun e w' => e = .returned (.tuple #[.int .i64 (newI s id), .int .i64 (newR s id).2.2]) ∧ AE w w' P (newP s id) c rest) := hide (fun W ao ac hW => ae_elem hW _ ao ac _ ⟨fun i x hx => by rw [(tok_none hi hp).1] at hx; simp at hx⟩ (by rw [(tok_none hi hp).1]; simp [maxLen]))
  have HMO := hide (fun W (hb : Below wx.heap.size wx W) => h.more hb)
  have HC := hide (fun W (hW : AE w W P s c rest) => hW.cells.1)
  generalize newI s id = ni at *
  generalize (newR s id).2.2 = ne at *
  clear h hi hp
  generalize tokE s.es id = tk at *
  obtain ⟨t0, t1, t2, t3, t4, t5, t6, t7, ta⟩ := tk
  simp only [TokM.cells] at *
  go_enter Tryz.func158, Tryz.ntmps158
  go_wp2_with (first
    | (go_at_call 123; refine (unhide HT).mono ?_; rintro e w1 ⟨ao, ac, rfl, _, hb1⟩; have HE1 := hide ((unhide HMO) _ (hb1.alloc hb1.size (.cells #[.int .i64 t0, .string t1, .string t2, .string t3, .int .i64 t4, .bool t5, .int .i32 t6, .bool t7, .slice ao ta.length ac] 52))); have g0 := (unhide HC) _ (unhide HE1); clear hb1))
  go_region_with (first
    | (go_at_call 18; refine ((unhide HEL) _ _ _ (by first | exact unhide HE1 | exact (unhide HE1).more (Below.refl _ _).drew)).mono ?_; rintro e w2 ⟨rfl, he2⟩; have HE2 := hide he2; clear he2))
  all_goals go_wp2
  all_goals go_ret2
  all_goals exact ⟨rfl, unhide HE2⟩
end
end Go.Proofs.YtkakncngkmoegaaGreat

namespace Go.Proofs.YtkakncngkmoegaaGreat
open Go.RowKit Go.Sort

theorem gatEnd_any (w : World) (id : Int) : Calls Tryz.prog 160 #[.int .i64 id] w fun e w' => e = .returned (spotV id (-1)) ∧ Below w.heap.size w w' := by
  go_enter Tryz.func160, Tryz.ntmps160
  go_wp2
  exact bodyPost_ret (spot_ret1 (p := 2) Tryz.results160 (b := w.heap.size) (Box2.new w id (-1)) _ rfl) rfl ⟨rfl, below_new w _⟩
section
variable {w wx : World} {P : Pt} {s : St} {c : Ct} {rest : List (Ob w.heap.size)} {n : Nat}
theorem gbelow_any (h : AE w wx P s c rest) (hi : Inv s n) (f : Int) : Calls Tryz.prog 130 #[.pointer (some ⟨P.bG, 0, none⟩), .int .i64 f] wx fun e w' => e = .returned (.int .i64 (belowP s.L f)) ∧ wx = w' := by
  have HF := hide (ae_sfind h hi f)
  have HA := hide (fun i => ae_sat h i)
  obtain ⟨g0, g1, _⟩ := h.cells
  have hL := h.few hi
  have hb : -1 ≤ findM s.L f ∧ findM s.L f ≤ s.L.length := by
    unfold findM
    split
    · rename_i hm
      have := List.idxOf_lt_length_iff.2 hm
      omega
    · omega
  have hw : IntKind.i64.wrap (findM s.L f - 1) = findM s.L f - 1 := wrap_small (by omega) (by omega)
  clear h hi
  unfold belowP
  generalize findM s.L f = k at *
  clear hb hL
  by_cases h0 : 0 < k
  · rw [if_pos h0]
    go_enter Tryz.func130, Tryz.ntmps130
    go_wp2_with (first | (go_at_call 89; refine (unhide HF).mono ?_; rintro e w1 ⟨rfl, rfl⟩) | (go_at_call 15; refine ((unhide HA) _).mono ?_; rintro e w1 ⟨rfl, rfl⟩))
    go_ret
    exact ⟨rfl, rfl⟩
  · rw [if_neg h0]
    go_enter Tryz.func130, Tryz.ntmps130
    go_wp2_with (first | (go_at_call 89; refine (unhide HF).mono ?_; rintro e w1 ⟨rfl, rfl⟩))
    go_ret
    exact ⟨rfl, rfl⟩
end
end Go.Proofs.YtkakncngkmoegaaGreat
