/-
  Package show's Same answers whether two nodes are alike.
-/
import Derived.Test.YtlbkoafeedlfaaaSBbd
namespace Go.Proofs.Ytlbkoafeedlfaaa
open Go.RowKit

def zeroN : NodeM := ⟨0, 0, ⟨#[]⟩, .slice none 0 0, ⟨#[]⟩, ⟨#[]⟩, 0, 0, 0, 0, 0, 0, []⟩

theorem nodeK {w : World} {base bA : Nat} {ns : List NodeM} {F : Nat → Prop} (h : ArS w base bA ns F) (k : Int) :
    ∃ (n : NodeM) (er : Int), ((er = 0 ∧ ∃ i : Nat, k = i ∧ ns[i]? = some n) ∨ (er = 6 ∧ hasM ns k = false)) ∧ n.attrs.length ≤ 1024 ∧
      ∀ W, Below w.heap.size w W → Calls Try.prog 18 #[.pointer (some ⟨bA, 0, none⟩), .int .i64 k] W fun e w' => ∃ a c, e = .returned (.tuple #[.agg #[.int .i64 n.kind, .int .i64 n.space, .string n.name, .slice a n.attrs.length c, .string n.data, .string n.system, .int .i64 n.parent, .int .i64 n.first, .int .i64 n.last, .int .i64 n.prev, .int .i64 n.next, .int .i64 n.inner], .int .i64 er]) ∧ AttrsIn w' a n.attrs ∧ Below W.heap.size W w' := by
  cases hk : hasM ns k with
  | true =>
    obtain ⟨i, rfl, hi⟩ := hasM_eq.1 hk
    refine ⟨ns[i], 0, .inl ⟨rfl, i, rfl, List.getElem?_eq_getElem hi⟩, ?_, fun W hW => nodeA h hW (List.getElem?_eq_getElem hi)⟩
    obtain ⟨bS, g, cap, har, _⟩ := h
    exact har.few i _ (List.getElem?_eq_getElem hi)
  | false =>
    refine ⟨zeroN, 6, .inr ⟨rfl, rfl⟩, by simp [zeroN], fun W hW => (node_no (h.below hW) k hk).mono fun e w' ⟨h1, h2⟩ => ⟨none, 0, h1, ⟨fun i x hi => by simp [zeroN] at hi⟩, h2⟩⟩

theorem list_last {α : Type} (l : List α) (h : l.length ≠ 0) : ∃ r a, l = r ++ [a] := by
  have hne : l ≠ [] := by intro e; subst e; exact h rfl
  exact ⟨l.dropLast, l.getLast hne, (List.dropLast_concat_getLast hne).symm⟩
theorem cellsE_last (E : List Ent) (e : Ent) : cellsE (E ++ [e]) = cellsE E ++ [.int .i64 e.x, .int .i64 e.y] := by unfold cellsE; simp

/-- A put beside two boxes. -/
theorem PutSt.boxes {F : Nat → Prop} {w w' : World} {base b B1 B2 : Nat} {E : List Ent} (h : PutSt F w w' base b E) (h1 : B1 < w.heap.size) (h2 : B2 < w.heap.size) (f1 : ¬ F B1) (f2 : ¬ F B2) :
    (∀ j, w'.cell? ⟨B1, j, none⟩ = w.cell? ⟨B1, j, none⟩) ∧ (∀ j, w'.cell? ⟨B2, j, none⟩ = w.cell? ⟨B2, j, none⟩) ∧ B1 < w'.heap.size ∧ B2 < w'.heap.size ∧ Below base w w' ∧ ∃ F', StS w' base b 125 128 2 E.length (cellsE E) F' ∧ ¬ F' B1 ∧ ¬ F' B2 := by
  obtain ⟨F', hs, hk, hF, hB⟩ := h
  refine ⟨fun j => World.cell?_of_block (hk B1 h1 f1), fun j => World.cell?_of_block (hk B2 h2 f2), Nat.lt_of_lt_of_le h1 hB.size, Nat.lt_of_lt_of_le h2 hB.size, hB, F', hs, ?_, ?_⟩
  · intro hf; rcases hF B1 hf with e | e
    · exact f1 e
    · omega
  · intro hf; rcases hF B2 hf with e | e
    · exact f2 e
    · omega

theorem pair_box {w w3 : World} {x y : Int} (hb : Below (w.alloc (.cells #[.int .i64 x, .int .i64 y] 128)).heap.size (w.alloc (.cells #[.int .i64 x, .int .i64 y] 128)) w3) : w3.cell? ⟨w.heap.size, 1, none⟩ = some (.int .i64 y) := by
  rw [hb.cell (p := ⟨w.heap.size, 1, none⟩) (by simp)]; simp
theorem below_box {v w w3 : World} {o : Obj} (h : Below v.heap.size v w) (hb : Below (w.alloc o).heap.size (w.alloc o) w3) : Below v.heap.size v w3 :=
  (h.alloc h.size o).trans (hb.mono (h.alloc h.size o).size)
theorem attrs_box {w w4 : World} {o : Obj} {a : Option Addr} {l : List AttrM} (h : AttrsIn w a l) (hb : Below (w.alloc o).heap.size (w.alloc o) w4) : AttrsIn w4 a l :=
  (h.below ((Below.refl _ w).alloc (Nat.le_refl _) o)).below hb

theorem st_new' (w : World) : StS (w.alloc (.cells #[.slice none 0 0] 125)) w.heap.size w.heap.size 125 128 2 0 [] (fun k => k = w.heap.size) :=
  ⟨.slice none 0 0, ⟨heap_alloc_new w _, World.ownsRow_nil _ _ _ _, Nat.le_refl _, by decide⟩, fun k => by simp [Value.ownBlock]⟩

set_option maxHeartbeats 8000000 in
theorem sameS_any {w : World} {base1 base2 bA bB : Nat} {ns ns' : List NodeM} {os os' : List OneM} {F1 F2 : Nat → Prop} (hA : ArS w base1 bA ns F1) (hB : ArS w base2 bB ns' F2) (sA : Sim ns os) (sB : Sim ns' os') (x y : Int) :
    Calls Try.prog 31 #[.pointer (some ⟨bA, 0, none⟩), .int .i64 x, .pointer (some ⟨bB, 0, none⟩), .int .i64 y] w fun e w' => e = .returned (.bool (SSI os os' x y)) ∧ Below w.heap.size w w' := by
  have hN : os.length ≤ 32768 := by rw [← sA.len]; obtain ⟨bS, g, cap, har, _⟩ := hA; exact har.most
  have HP := hide (push_pair (st_new' w) x y (by omega))
  have HA := hide hA
  have HB := hide hB
  have SA := hide sA
  have SB := hide sB
  have HN := hide hN
  clear hA hB sA sB hN
  go_enter Try.func31, Try.ntmps31
  set_option maxRecDepth 10000 in
  go_wp2_with (first | (go_at_call 82; refine (unhide HP).mono ?_; rintro e w1 ⟨rfl, F1', h1, hm1, hF1⟩; have H1 := hide h1; have HM1 := hide hm1; clear h1 hm1 hF1))
  have HB1 : Hid (Below w.heap.size w w1) := hide (((Below.refl _ w).alloc (Nat.le_refl _) _).trans ((unhide HM1).below (by simp) (fun k hk => Nat.le_of_eq hk.symm)))
  clear HM1
  go_loopg [11, 12, 13, 14, 15, 16] (os.length + 1) (fun g s11 _ _ _ _ _ wx => ∃ E F, StS wx w.heap.size w.heap.size 125 128 2 E.length (cellsE E) F ∧ Below w.heap.size w wx ∧ Rel ns ns' os os' x y g s11 E)
  case atStart => exact ⟨[⟨x, y, [], []⟩], F1', unhide H1, unhide HB1, .inl ⟨rfl, ⟨[], [], rfl⟩, rfl⟩⟩
  case round =>
    clear H1 HB1 HP
    obtain ⟨E, F, hst, hbw, hrel⟩ := hrel
    have HEm := hide (empty_pair hst)
    have HBW := hide hbw
    have HREL := hide hrel
    by_cases hE0 : E.length = 0
    · have hd : decide (E.length = 0) = true := decide_eq_true hE0
      rw [hd] at HEm
      have hEn : E = [] := List.length_eq_zero_iff.1 hE0
      have HR : Hid (SSI os os' x y = true) := hide (by
        rcases hrel with ⟨_, ⟨l, m, he⟩, _⟩ | ⟨_, _, hs, _, _⟩
        · rw [hEn] at he; cases he
        · rw [hs, hEn]; rfl)
      clear hst hbw hrel hd hE0 hEn
      set_option maxRecDepth 10000 in
      go_wp2_with (first | (go_at_call 83; refine (unhide HEm).mono ?_; rintro e w' ⟨rfl, rfl⟩))
      go_ret
      exact ⟨by rw [unhide HR]; rfl, unhide HBW⟩
    · have hd : decide (E.length = 0) = false := decide_eq_false hE0
      rw [hd] at HEm
      obtain ⟨E', e, rfl⟩ := list_last E hE0
      have hshort := hrel.short
      have hN := unhide HN
      rw [List.length_append, List.length_singleton] at hshort
      have hst' := hst
      rw [cellsE_last, List.length_append, List.length_singleton] at hst'
      have HQ := hide (pop_pair hst' (by omega))
      have HFG : Hid (∀ k, F k → w.heap.size ≤ k) := hide (fun k hk => (hst.lt hk).1)
      have HFL : Hid (∀ k, F k → k < wr.heap.size) := hide (fun k hk => (hst.lt hk).2)
      have HLEN : Hid (E'.length + 3 ≤ 100000) := hide (by omega)
      clear hst hst' hbw hrel hd hE0 hshort hN
      obtain ⟨n1, er1, hc1, hl1, hn1⟩ := nodeK (unhide HA) e.x
      obtain ⟨n2, er2, hc2, hl2, hn2⟩ := nodeK (unhide HB) e.y
      have HC1 := hide hc1
      have HC2 := hide hc2
      have HL1 := hide hl1
      have HN1 := hide hn1
      have HN2 := hide hn2
      clear hc1 hc2 hl1 hl2 hn1 hn2
      have HAL : Hid (∀ W a1 c1 a2 c2, AttrsIn W a1 n1.attrs → AttrsIn W a2 n2.attrs → Calls Try.prog 85 #[.agg #[.int .i64 n1.kind, .int .i64 n1.space, .string n1.name, .slice a1 n1.attrs.length c1, .string n1.data, .string n1.system, .int .i64 n1.parent, .int .i64 n1.first, .int .i64 n1.last, .int .i64 n1.prev, .int .i64 n1.next, .int .i64 n1.inner],
        .agg #[.int .i64 n2.kind, .int .i64 n2.space, .string n2.name, .slice a2 n2.attrs.length c2, .string n2.data, .string n2.system, .int .i64 n2.parent, .int .i64 n2.first, .int .i64 n2.last, .int .i64 n2.prev, .int .i64 n2.next, .int .i64 n2.inner]] W fun e w' => e = .returned (.bool (eqN n1 n2)) ∧ Below W.heap.size W w') := hide (fun W a1 c1 a2 c2 h1 h2 => alikeS_any a1 a2 c1 c2 n1.attrs n2.attrs h1 h2 (unhide HL1) _ _ _ _ _ _ _ _ _ _ _ _ _ _ _ _ _ _ _ _ _ _)
      rcases unhide HC1 with ⟨rfl, i, hxi, hni⟩ | ⟨rfl, hno⟩
      · rcases unhide HC2 with ⟨rfl, j, hyj, hmj⟩ | ⟨rfl, hno⟩
        · cases hq : eqN n1 n2 with
          | false =>
            rw [hq] at HAL
            have HR : Hid (SSI os os' x y = false) := hide ((unhide HREL).bad (unhide SA) (unhide SB) (.inr (.inr ⟨i, j, n1, n2, hxi, hni, hyj, hmj, hq⟩)))
            clear HREL hxi hni hyj hmj hq HC1 HC2
            set_option maxRecDepth 10000 in
            go_wp2_with (first
              | (go_at_call 83; refine (unhide HEm).mono ?_; rintro v w' ⟨rfl, rfl⟩)
              | (go_at_call 84; refine (unhide HQ).mono ?_; rintro v w2 ⟨rfl, F2, h2, hm2, hF2⟩; have H2 := hide h2; have HB2 := hide ((unhide HBW).trans (hm2.below (unhide HBW).size (unhide HFG))); clear h2 hm2 hF2)
              | (go_at_call 18; have _x := unhide HB3; refine ((unhide HN2) _ ((unhide HB3).alloc (unhide HB3).size _)).mono ?_; rintro v w4 ⟨a2, c2, rfl, hat2, hb4⟩; obtain ⟨z0, z1, z2, z3, z4, z5, z6, z7, z8, z9, z10, z11, hz⟩ := box12 hb4; have HAT2 := hide (hat2.below ((Below.refl _ w4).alloc (Nat.le_refl _) (.cells #[.int .i64 n2.kind, .int .i64 n2.space, .string n2.name, .slice a2 n2.attrs.length c2, .string n2.data, .string n2.system, .int .i64 n2.parent, .int .i64 n2.first, .int .i64 n2.last, .int .i64 n2.prev, .int .i64 n2.next, .int .i64 n2.inner] 37))); have HAT1' := hide ((attrs_box (unhide HAT1) hb4).below ((Below.refl _ w4).alloc (Nat.le_refl _) (.cells #[.int .i64 n2.kind, .int .i64 n2.space, .string n2.name, .slice a2 n2.attrs.length c2, .string n2.data, .string n2.system, .int .i64 n2.parent, .int .i64 n2.first, .int .i64 n2.last, .int .i64 n2.prev, .int .i64 n2.next, .int .i64 n2.inner] 37))); have HB4 := hide (below_box (unhide HB3) hb4); have HB24 := hide (below_box (unhide HB23) hb4); clear hat2 hb4)
              | (go_at_call 18; refine ((unhide HN1) _ ((unhide HB2).alloc (unhide HB2).size _)).mono ?_; rintro v w3 ⟨a1, c1, rfl, hat1, hb3⟩; have hpy := pair_box hb3; have HAT1 := hide hat1; have HB3 := hide (below_box (unhide HB2) hb3); have HB23 := hide (below_box (Below.refl _ w2) hb3); have hs3 : w2.heap.size < w3.heap.size := (by have := hb3.size; simp at this; omega); clear hat1 hb3)
              | (go_at_call 85; refine ((unhide HAL) _ _ _ _ _ (unhide HAT1') (unhide HAT2)).mono ?_; rintro v w5 ⟨rfl, hb5⟩; obtain ⟨y0, y1, y2, y3, y4, y5, y6, y7, y8, y9, y10, y11, hy⟩ := box12 hb5; have x7 := (hb5.cell (p := ⟨w3.heap.size, 7, none⟩) (by simp; omega)).trans ((World.cell?_alloc_past _ _ _ hz).trans z7); have x10 := (hb5.cell (p := ⟨w3.heap.size, 10, none⟩) (by simp; omega)).trans ((World.cell?_alloc_past _ _ _ hz).trans z10); have x11 := (hb5.cell (p := ⟨w3.heap.size, 11, none⟩) (by simp; omega)).trans ((World.cell?_alloc_past _ _ _ hz).trans z11); have HB5 := hide (below_box (unhide HB4) hb5); have HB25 := hide (below_box (unhide HB24) hb5); clear hb5))
            go_ret
            exact ⟨by rw [unhide HR]; rfl, unhide HB5⟩
          | true =>
            rw [hq] at HAL
            obtain ⟨o, ho, sm⟩ := (unhide SA).getO hni
            obtain ⟨p, hp, sm'⟩ := (unhide SB).getO hmj
            rcases unhide HREL with ⟨hs, ⟨l, m, hE⟩, hg⟩ | ⟨hs, hrest⟩
            · have hE2 : E' = [] ∧ e = ⟨x, y, l, m⟩ := by
                cases E' with
                | nil => exact ⟨rfl, by simpa using hE⟩
                | cons a r => simp at hE
              obtain ⟨rfl, he⟩ := hE2
              have hx : x = i := by rw [he] at hxi; exact hxi
              have hy : y = j := by rw [he] at hyj; exact hyj
              obtain ⟨g, hgl, hR⟩ := Rel.top (unhide SA) (unhide SB) hx hy hni hmj ho hp hq
              have HRR := hide hR
              have HGL : Hid (g < gk) := hide (by omega)
              have HL5 : Hid (([] : List Ent).length ≤ 100000) := hide (by simp)
              have HL6 : Hid (([] ++ pushE ⟨n1.first, n2.first, o.kids, p.kids⟩ : List Ent).length ≤ 100000) := hide (by have := pushE_len ⟨n1.first, n2.first, o.kids, p.kids⟩ []; simp only [List.length_nil] at this; omega)
              subst hs
              clear HREL hxi hni hyj hmj hq HC1 HC2 hE he hx hy hR hg hgl ho hp sm sm'
              set_option maxRecDepth 10000 in
              go_wp2_with (first
                | (go_at_call 83; refine (unhide HEm).mono ?_; rintro v w' ⟨rfl, rfl⟩)
                | (go_at_call 84; refine (unhide HQ).mono ?_; rintro v w2 ⟨rfl, F2, h2, hm2, hF2⟩; have H2 := hide h2; have HB2 := hide ((unhide HBW).trans (hm2.below (unhide HBW).size (unhide HFG))); clear h2 hm2 hF2)
                | (go_at_call 18; have _x := unhide HB3; refine ((unhide HN2) _ ((unhide HB3).alloc (unhide HB3).size _)).mono ?_; rintro v w4 ⟨a2, c2, rfl, hat2, hb4⟩; obtain ⟨z0, z1, z2, z3, z4, z5, z6, z7, z8, z9, z10, z11, hz⟩ := box12 hb4; have HAT2 := hide (hat2.below ((Below.refl _ w4).alloc (Nat.le_refl _) (.cells #[.int .i64 n2.kind, .int .i64 n2.space, .string n2.name, .slice a2 n2.attrs.length c2, .string n2.data, .string n2.system, .int .i64 n2.parent, .int .i64 n2.first, .int .i64 n2.last, .int .i64 n2.prev, .int .i64 n2.next, .int .i64 n2.inner] 37))); have HAT1' := hide ((attrs_box (unhide HAT1) hb4).below ((Below.refl _ w4).alloc (Nat.le_refl _) (.cells #[.int .i64 n2.kind, .int .i64 n2.space, .string n2.name, .slice a2 n2.attrs.length c2, .string n2.data, .string n2.system, .int .i64 n2.parent, .int .i64 n2.first, .int .i64 n2.last, .int .i64 n2.prev, .int .i64 n2.next, .int .i64 n2.inner] 37))); have HB4 := hide (below_box (unhide HB3) hb4); have HB24 := hide (below_box (unhide HB23) hb4); clear hat2 hb4)
                | (go_at_call 18; refine ((unhide HN1) _ ((unhide HB2).alloc (unhide HB2).size _)).mono ?_; rintro v w3 ⟨a1, c1, rfl, hat1, hb3⟩; have hpy := pair_box hb3; have HAT1 := hide hat1; have HB3 := hide (below_box (unhide HB2) hb3); have HB23 := hide (below_box (Below.refl _ w2) hb3); have hs3 : w2.heap.size < w3.heap.size := (by have := hb3.size; simp at this; omega); clear hat1 hb3)
                | (go_at_call 85; refine ((unhide HAL) _ _ _ _ _ (unhide HAT1') (unhide HAT2)).mono ?_; rintro v w5 ⟨rfl, hb5⟩; obtain ⟨y0, y1, y2, y3, y4, y5, y6, y7, y8, y9, y10, y11, hy⟩ := box12 hb5; have x7 := (hb5.cell (p := ⟨w3.heap.size, 7, none⟩) (by simp; omega)).trans ((World.cell?_alloc_past _ _ _ hz).trans z7); have x10 := (hb5.cell (p := ⟨w3.heap.size, 10, none⟩) (by simp; omega)).trans ((World.cell?_alloc_past _ _ _ hz).trans z10); have x11 := (hb5.cell (p := ⟨w3.heap.size, 11, none⟩) (by simp; omega)).trans ((World.cell?_alloc_past _ _ _ hz).trans z11); have HB5 := hide (below_box (unhide HB4) hb5); have HB25 := hide (below_box (unhide HB24) hb5); have H5 := hide ((unhide H2).below (unhide HB25)); have hx1 : w3.heap.size < w5.heap.size := Nat.lt_trans hz hy; have hx2 : w4.heap.size < w5.heap.size := hy; have hf1 : ¬ F2 w3.heap.size := (fun h => by have := ((unhide H2).lt h).2; omega); have hf2 : ¬ F2 w4.heap.size := (fun h => by have := ((unhide H2).lt h).2; omega); clear hb5)
                | (go_at_call 81; have _x := unhide H6; refine (put_any (unhide H6) (unhide HB6).size (unhide HL6) ⟨n1.inner, n2.inner, innerL o, innerL p⟩).mono ?_; rintro v w7 ⟨rfl, hp7⟩; obtain ⟨q1, q2, q3, q4, q5, F7, h7, g1, g2⟩ := hp7.boxes hx1 hx2 hf1 hf2; have H7 := hide h7; have HB7 := hide ((unhide HB6).trans q5); have x11 := (q1 11).trans x11; have y11 := (q2 11).trans y11; clear hx1 hx2 hf1 hf2; have hx1 := q3; have hx2 := q4; have hf1 := g1; have hf2 := g2; clear q1 q2 q3 q4 q5 g1 g2 hp7 h7)
                | (go_at_call 81; refine (put_any (unhide H5) (unhide HB5).size (unhide HL5) ⟨n1.first, n2.first, o.kids, p.kids⟩).mono ?_; rintro v w6 ⟨rfl, hp6⟩; obtain ⟨q1, q2, q3, q4, q5, F6, h6, g1, g2⟩ := hp6.boxes hx1 hx2 hf1 hf2; have H6 := hide h6; have HB6 := hide ((unhide HB5).trans q5); have x7 := (q1 7).trans x7; have y7 := (q2 7).trans y7; have x11 := (q1 11).trans x11; have y11 := (q2 11).trans y11; clear hx1 hx2 hf1 hf2; have hx1 := q3; have hx2 := q4; have hf1 := g1; have hf2 := g2; clear q1 q2 q3 q4 q5 g1 g2 hp6 h6))
              go_roundg g
              case measure => exact unhide HGL
              case rel => exact ⟨_, F7, unhide H7, unhide HB7, unhide HRR⟩
            · subst hs
              obtain ⟨l', m', hR, hgl⟩ := Rel.step (unhide SA) (unhide SB) (.inr ⟨rfl, hrest⟩) hxi hyj hni hmj ho hp hq
              have HRR := hide hR
              have HGL : Hid (gk - 1 < gk) := hide hgl
              have HL5 : Hid (E'.length ≤ 100000) := hide (by have := unhide HLEN; omega)
              have HL6 : Hid ((E' ++ pushE ⟨n1.next, n2.next, l', m'⟩).length ≤ 100000) := hide (by have := unhide HLEN; have := pushE_len ⟨n1.next, n2.next, l', m'⟩ E'; omega)
              have HL7 : Hid (((E' ++ pushE ⟨n1.next, n2.next, l', m'⟩) ++ pushE ⟨n1.first, n2.first, o.kids, p.kids⟩).length ≤ 100000) := hide (by have := unhide HLEN; have := pushE_len ⟨n1.next, n2.next, l', m'⟩ E'; have := pushE_len ⟨n1.first, n2.first, o.kids, p.kids⟩ (E' ++ pushE ⟨n1.next, n2.next, l', m'⟩); omega)
              clear HREL hxi hni hyj hmj hq HC1 HC2 hrest hR hgl ho hp sm sm'
              set_option maxRecDepth 10000 in
              go_wp2_with (first
                | (go_at_call 83; refine (unhide HEm).mono ?_; rintro v w' ⟨rfl, rfl⟩)
                | (go_at_call 84; refine (unhide HQ).mono ?_; rintro v w2 ⟨rfl, F2, h2, hm2, hF2⟩; have H2 := hide h2; have HB2 := hide ((unhide HBW).trans (hm2.below (unhide HBW).size (unhide HFG))); clear h2 hm2 hF2)
                | (go_at_call 18; have _x := unhide HB3; refine ((unhide HN2) _ ((unhide HB3).alloc (unhide HB3).size _)).mono ?_; rintro v w4 ⟨a2, c2, rfl, hat2, hb4⟩; obtain ⟨z0, z1, z2, z3, z4, z5, z6, z7, z8, z9, z10, z11, hz⟩ := box12 hb4; have HAT2 := hide (hat2.below ((Below.refl _ w4).alloc (Nat.le_refl _) (.cells #[.int .i64 n2.kind, .int .i64 n2.space, .string n2.name, .slice a2 n2.attrs.length c2, .string n2.data, .string n2.system, .int .i64 n2.parent, .int .i64 n2.first, .int .i64 n2.last, .int .i64 n2.prev, .int .i64 n2.next, .int .i64 n2.inner] 37))); have HAT1' := hide ((attrs_box (unhide HAT1) hb4).below ((Below.refl _ w4).alloc (Nat.le_refl _) (.cells #[.int .i64 n2.kind, .int .i64 n2.space, .string n2.name, .slice a2 n2.attrs.length c2, .string n2.data, .string n2.system, .int .i64 n2.parent, .int .i64 n2.first, .int .i64 n2.last, .int .i64 n2.prev, .int .i64 n2.next, .int .i64 n2.inner] 37))); have HB4 := hide (below_box (unhide HB3) hb4); have HB24 := hide (below_box (unhide HB23) hb4); clear hat2 hb4)
                | (go_at_call 18; refine ((unhide HN1) _ ((unhide HB2).alloc (unhide HB2).size _)).mono ?_; rintro v w3 ⟨a1, c1, rfl, hat1, hb3⟩; have hpy := pair_box hb3; have HAT1 := hide hat1; have HB3 := hide (below_box (unhide HB2) hb3); have HB23 := hide (below_box (Below.refl _ w2) hb3); have hs3 : w2.heap.size < w3.heap.size := (by have := hb3.size; simp at this; omega); clear hat1 hb3)
                | (go_at_call 85; refine ((unhide HAL) _ _ _ _ _ (unhide HAT1') (unhide HAT2)).mono ?_; rintro v w5 ⟨rfl, hb5⟩; obtain ⟨y0, y1, y2, y3, y4, y5, y6, y7, y8, y9, y10, y11, hy⟩ := box12 hb5; have x7 := (hb5.cell (p := ⟨w3.heap.size, 7, none⟩) (by simp; omega)).trans ((World.cell?_alloc_past _ _ _ hz).trans z7); have x10 := (hb5.cell (p := ⟨w3.heap.size, 10, none⟩) (by simp; omega)).trans ((World.cell?_alloc_past _ _ _ hz).trans z10); have x11 := (hb5.cell (p := ⟨w3.heap.size, 11, none⟩) (by simp; omega)).trans ((World.cell?_alloc_past _ _ _ hz).trans z11); have HB5 := hide (below_box (unhide HB4) hb5); have HB25 := hide (below_box (unhide HB24) hb5); have H5 := hide ((unhide H2).below (unhide HB25)); have hx1 : w3.heap.size < w5.heap.size := Nat.lt_trans hz hy; have hx2 : w4.heap.size < w5.heap.size := hy; have hf1 : ¬ F2 w3.heap.size := (fun h => by have := ((unhide H2).lt h).2; omega); have hf2 : ¬ F2 w4.heap.size := (fun h => by have := ((unhide H2).lt h).2; omega); clear hb5)
                | (go_at_call 81; have _x := unhide H7; refine (put_any (unhide H7) (unhide HB7).size (unhide HL7) ⟨n1.inner, n2.inner, innerL o, innerL p⟩).mono ?_; rintro v w8 ⟨rfl, hp8⟩; obtain ⟨q1, q2, q3, q4, q5, F8, h8, g1, g2⟩ := hp8.boxes hx1 hx2 hf1 hf2; have H8 := hide h8; have HB8 := hide ((unhide HB7).trans q5); clear q1 q2 q3 q4 q5 g1 g2 hp8 h8)
                | (go_at_call 81; have _x := unhide H6; refine (put_any (unhide H6) (unhide HB6).size (unhide HL6) ⟨n1.first, n2.first, o.kids, p.kids⟩).mono ?_; rintro v w7 ⟨rfl, hp7⟩; obtain ⟨q1, q2, q3, q4, q5, F7, h7, g1, g2⟩ := hp7.boxes hx1 hx2 hf1 hf2; have H7 := hide h7; have HB7 := hide ((unhide HB6).trans q5); have x11 := (q1 11).trans x11; have y11 := (q2 11).trans y11; clear hx1 hx2 hf1 hf2; have hx1 := q3; have hx2 := q4; have hf1 := g1; have hf2 := g2; clear q1 q2 q3 q4 q5 g1 g2 hp7 h7)
                | (go_at_call 81; refine (put_any (unhide H5) (unhide HB5).size (unhide HL5) ⟨n1.next, n2.next, l', m'⟩).mono ?_; rintro v w6 ⟨rfl, hp6⟩; obtain ⟨q1, q2, q3, q4, q5, F6, h6, g1, g2⟩ := hp6.boxes hx1 hx2 hf1 hf2; have H6 := hide h6; have HB6 := hide ((unhide HB5).trans q5); have x7 := (q1 7).trans x7; have y7 := (q2 7).trans y7; have x11 := (q1 11).trans x11; have y11 := (q2 11).trans y11; clear hx1 hx2 hf1 hf2; have hx1 := q3; have hx2 := q4; have hf1 := g1; have hf2 := g2; clear q1 q2 q3 q4 q5 g1 g2 hp6 h6))
              go_roundg (gk - 1)
              case measure => exact unhide HGL
              case rel => exact ⟨_, F8, unhide H8, unhide HB8, unhide HRR⟩
        · have HNO := hide hno
          have HR : Hid (SSI os os' x y = false) := hide ((unhide HREL).bad (unhide SA) (unhide SB) (.inr (.inl (unhide HNO))))
          clear HREL hno hxi hni HC1 HC2
          set_option maxRecDepth 10000 in
          go_wp2_with (first
            | (go_at_call 83; refine (unhide HEm).mono ?_; rintro v w' ⟨rfl, rfl⟩)
            | (go_at_call 84; refine (unhide HQ).mono ?_; rintro v w2 ⟨rfl, F2, h2, hm2, hF2⟩; have H2 := hide h2; have HB2 := hide ((unhide HBW).trans (hm2.below (unhide HBW).size (unhide HFG))); clear h2 hm2 hF2)
            | (go_at_call 18; have _x := unhide HB3; refine ((unhide HN2) _ ((unhide HB3).alloc (unhide HB3).size _)).mono ?_; rintro v w4 ⟨a2, c2, rfl, hat2, hb4⟩; obtain ⟨z0, z1, z2, z3, z4, z5, z6, z7, z8, z9, z10, z11, hz⟩ := box12 hb4; have HAT2 := hide (hat2.below ((Below.refl _ w4).alloc (Nat.le_refl _) (.cells #[.int .i64 n2.kind, .int .i64 n2.space, .string n2.name, .slice a2 n2.attrs.length c2, .string n2.data, .string n2.system, .int .i64 n2.parent, .int .i64 n2.first, .int .i64 n2.last, .int .i64 n2.prev, .int .i64 n2.next, .int .i64 n2.inner] 37))); have HAT1' := hide ((attrs_box (unhide HAT1) hb4).below ((Below.refl _ w4).alloc (Nat.le_refl _) (.cells #[.int .i64 n2.kind, .int .i64 n2.space, .string n2.name, .slice a2 n2.attrs.length c2, .string n2.data, .string n2.system, .int .i64 n2.parent, .int .i64 n2.first, .int .i64 n2.last, .int .i64 n2.prev, .int .i64 n2.next, .int .i64 n2.inner] 37))); have HB4 := hide (below_box (unhide HB3) hb4); have HB24 := hide (below_box (unhide HB23) hb4); clear hat2 hb4)
            | (go_at_call 18; refine ((unhide HN1) _ ((unhide HB2).alloc (unhide HB2).size _)).mono ?_; rintro v w3 ⟨a1, c1, rfl, hat1, hb3⟩; have hpy := pair_box hb3; have HAT1 := hide hat1; have HB3 := hide (below_box (unhide HB2) hb3); have HB23 := hide (below_box (Below.refl _ w2) hb3); have hs3 : w2.heap.size < w3.heap.size := (by have := hb3.size; simp at this; omega); clear hat1 hb3)
            | (go_at_call 85; refine ((unhide HAL) _ _ _ _ _ (unhide HAT1') (unhide HAT2)).mono ?_; rintro v w5 ⟨rfl, hb5⟩; obtain ⟨y0, y1, y2, y3, y4, y5, y6, y7, y8, y9, y10, y11, hy⟩ := box12 hb5; have x7 := (hb5.cell (p := ⟨w3.heap.size, 7, none⟩) (by simp; omega)).trans ((World.cell?_alloc_past _ _ _ hz).trans z7); have x10 := (hb5.cell (p := ⟨w3.heap.size, 10, none⟩) (by simp; omega)).trans ((World.cell?_alloc_past _ _ _ hz).trans z10); have x11 := (hb5.cell (p := ⟨w3.heap.size, 11, none⟩) (by simp; omega)).trans ((World.cell?_alloc_past _ _ _ hz).trans z11); have HB5 := hide (below_box (unhide HB4) hb5); have HB25 := hide (below_box (unhide HB24) hb5); clear hb5))
          go_ret
          exact ⟨by rw [unhide HR]; rfl, (unhide HB4).alloc (unhide HB4).size _⟩
      · have HNO := hide hno
        clear hno
        rcases unhide HC2 with ⟨rfl, j, hyj, hmj⟩ | ⟨rfl, hno2⟩
        · clear hyj hmj
          have HR : Hid (SSI os os' x y = false) := hide ((unhide HREL).bad (unhide SA) (unhide SB) (.inl (unhide HNO)))
          clear HREL HC1 HC2
          set_option maxRecDepth 10000 in
          go_wp2_with (first
            | (go_at_call 83; refine (unhide HEm).mono ?_; rintro v w' ⟨rfl, rfl⟩)
            | (go_at_call 84; refine (unhide HQ).mono ?_; rintro v w2 ⟨rfl, F2, h2, hm2, hF2⟩; have H2 := hide h2; have HB2 := hide ((unhide HBW).trans (hm2.below (unhide HBW).size (unhide HFG))); clear h2 hm2 hF2)
            | (go_at_call 18; have _x := unhide HB3; refine ((unhide HN2) _ ((unhide HB3).alloc (unhide HB3).size _)).mono ?_; rintro v w4 ⟨a2, c2, rfl, hat2, hb4⟩; obtain ⟨z0, z1, z2, z3, z4, z5, z6, z7, z8, z9, z10, z11, hz⟩ := box12 hb4; have HAT2 := hide (hat2.below ((Below.refl _ w4).alloc (Nat.le_refl _) (.cells #[.int .i64 n2.kind, .int .i64 n2.space, .string n2.name, .slice a2 n2.attrs.length c2, .string n2.data, .string n2.system, .int .i64 n2.parent, .int .i64 n2.first, .int .i64 n2.last, .int .i64 n2.prev, .int .i64 n2.next, .int .i64 n2.inner] 37))); have HAT1' := hide ((attrs_box (unhide HAT1) hb4).below ((Below.refl _ w4).alloc (Nat.le_refl _) (.cells #[.int .i64 n2.kind, .int .i64 n2.space, .string n2.name, .slice a2 n2.attrs.length c2, .string n2.data, .string n2.system, .int .i64 n2.parent, .int .i64 n2.first, .int .i64 n2.last, .int .i64 n2.prev, .int .i64 n2.next, .int .i64 n2.inner] 37))); have HB4 := hide (below_box (unhide HB3) hb4); have HB24 := hide (below_box (unhide HB23) hb4); clear hat2 hb4)
            | (go_at_call 18; refine ((unhide HN1) _ ((unhide HB2).alloc (unhide HB2).size _)).mono ?_; rintro v w3 ⟨a1, c1, rfl, hat1, hb3⟩; have hpy := pair_box hb3; have HAT1 := hide hat1; have HB3 := hide (below_box (unhide HB2) hb3); have HB23 := hide (below_box (Below.refl _ w2) hb3); have hs3 : w2.heap.size < w3.heap.size := (by have := hb3.size; simp at this; omega); clear hat1 hb3)
            | (go_at_call 85; refine ((unhide HAL) _ _ _ _ _ (unhide HAT1') (unhide HAT2)).mono ?_; rintro v w5 ⟨rfl, hb5⟩; obtain ⟨y0, y1, y2, y3, y4, y5, y6, y7, y8, y9, y10, y11, hy⟩ := box12 hb5; have x7 := (hb5.cell (p := ⟨w3.heap.size, 7, none⟩) (by simp; omega)).trans ((World.cell?_alloc_past _ _ _ hz).trans z7); have x10 := (hb5.cell (p := ⟨w3.heap.size, 10, none⟩) (by simp; omega)).trans ((World.cell?_alloc_past _ _ _ hz).trans z10); have x11 := (hb5.cell (p := ⟨w3.heap.size, 11, none⟩) (by simp; omega)).trans ((World.cell?_alloc_past _ _ _ hz).trans z11); have HB5 := hide (below_box (unhide HB4) hb5); have HB25 := hide (below_box (unhide HB24) hb5); clear hb5))
          go_ret
          exact ⟨by rw [unhide HR]; rfl, (unhide HB4).alloc (unhide HB4).size _⟩
        · clear hno2
          have HR : Hid (SSI os os' x y = false) := hide ((unhide HREL).bad (unhide SA) (unhide SB) (.inl (unhide HNO)))
          clear HREL HC1 HC2
          set_option maxRecDepth 10000 in
          go_wp2_with (first
            | (go_at_call 83; refine (unhide HEm).mono ?_; rintro v w' ⟨rfl, rfl⟩)
            | (go_at_call 84; refine (unhide HQ).mono ?_; rintro v w2 ⟨rfl, F2, h2, hm2, hF2⟩; have H2 := hide h2; have HB2 := hide ((unhide HBW).trans (hm2.below (unhide HBW).size (unhide HFG))); clear h2 hm2 hF2)
            | (go_at_call 18; have _x := unhide HB3; refine ((unhide HN2) _ ((unhide HB3).alloc (unhide HB3).size _)).mono ?_; rintro v w4 ⟨a2, c2, rfl, hat2, hb4⟩; obtain ⟨z0, z1, z2, z3, z4, z5, z6, z7, z8, z9, z10, z11, hz⟩ := box12 hb4; have HAT2 := hide (hat2.below ((Below.refl _ w4).alloc (Nat.le_refl _) (.cells #[.int .i64 n2.kind, .int .i64 n2.space, .string n2.name, .slice a2 n2.attrs.length c2, .string n2.data, .string n2.system, .int .i64 n2.parent, .int .i64 n2.first, .int .i64 n2.last, .int .i64 n2.prev, .int .i64 n2.next, .int .i64 n2.inner] 37))); have HAT1' := hide ((attrs_box (unhide HAT1) hb4).below ((Below.refl _ w4).alloc (Nat.le_refl _) (.cells #[.int .i64 n2.kind, .int .i64 n2.space, .string n2.name, .slice a2 n2.attrs.length c2, .string n2.data, .string n2.system, .int .i64 n2.parent, .int .i64 n2.first, .int .i64 n2.last, .int .i64 n2.prev, .int .i64 n2.next, .int .i64 n2.inner] 37))); have HB4 := hide (below_box (unhide HB3) hb4); have HB24 := hide (below_box (unhide HB23) hb4); clear hat2 hb4)
            | (go_at_call 18; refine ((unhide HN1) _ ((unhide HB2).alloc (unhide HB2).size _)).mono ?_; rintro v w3 ⟨a1, c1, rfl, hat1, hb3⟩; have hpy := pair_box hb3; have HAT1 := hide hat1; have HB3 := hide (below_box (unhide HB2) hb3); have HB23 := hide (below_box (Below.refl _ w2) hb3); have hs3 : w2.heap.size < w3.heap.size := (by have := hb3.size; simp at this; omega); clear hat1 hb3)
            | (go_at_call 85; refine ((unhide HAL) _ _ _ _ _ (unhide HAT1') (unhide HAT2)).mono ?_; rintro v w5 ⟨rfl, hb5⟩; obtain ⟨y0, y1, y2, y3, y4, y5, y6, y7, y8, y9, y10, y11, hy⟩ := box12 hb5; have x7 := (hb5.cell (p := ⟨w3.heap.size, 7, none⟩) (by simp; omega)).trans ((World.cell?_alloc_past _ _ _ hz).trans z7); have x10 := (hb5.cell (p := ⟨w3.heap.size, 10, none⟩) (by simp; omega)).trans ((World.cell?_alloc_past _ _ _ hz).trans z10); have x11 := (hb5.cell (p := ⟨w3.heap.size, 11, none⟩) (by simp; omega)).trans ((World.cell?_alloc_past _ _ _ hz).trans z11); have HB5 := hide (below_box (unhide HB4) hb5); have HB25 := hide (below_box (unhide HB24) hb5); clear hb5))
          go_ret
          exact ⟨by rw [unhide HR]; rfl, (unhide HB4).alloc (unhide HB4).size _⟩
end Go.Proofs.Ytlbkoafeedlfaaa
