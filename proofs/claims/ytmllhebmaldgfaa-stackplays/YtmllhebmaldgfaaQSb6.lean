/-
  An element that is not kept yet: it is kept, and told.
-/
import Derived.Test.YtmllhebmaldgfaaQSb4
namespace Go.Proofs.Ytmllhebmaldgfaa
open Go.RowKit

section
variable {w : World} {base bK bA : Nat} {ks : List Key} {L : List Int} {F FA : Nat → Prop}

set_option maxHeartbeats 8000000 in
theorem look_new2 (ha : ArK w base bA ks FA) {bP bM : Nat} {p : PartM} {v : Value} {ms : List (Option Cal)} (h : StkAt w base bK bP bM bA p v ms) (hc : Coh (elOf ks) ms) (hF : ∀ k, F k ↔ footS bK bP bM p v k) {i : Nat} (hi : ms[i]? = some none) {q : Key} (hk : keyAt ks (i : Int) = some q) (hq1 : q.kind = 1) (hm1 : i < 32768) : Calls Try.prog 68 #[.pointer (some ⟨bK, 0, none⟩), .int .i64 (i : Int)] w fun e w' =>
    e = .returned (.tuple #[kV ⟨q.space, q.name⟩, .bool true]) ∧ UpdS F w w' base bK bA (elOf ks) p.xs := by
  have hb0 := below_new w (.cells zRow 103)
  have h' := h.below hb0
  have HM := hide (made_s h')
  obtain ⟨s0, s1, s2⟩ := h'.cells
  obtain ⟨m0, _⟩ := h'.memo.cells
  have HKB := hide (look_kb w)
  have HAT := hide h'
  have HCO := hide hc
  have HFF := hide hF
  have HLTF : Hid (∀ k, F k → k < w.heap.size) := hide (fun k hk => (h.foot_lt ((hF k).1 hk)).2)
  have hi0 : (0 : Int) ≤ (i : Int) := by omega
  have hin0 : ¬ (i : Int) < 0 := by omega
  have HEL : Hid (elOf ks (i : Int) = some ⟨q.space, q.name⟩) := hide (by rw [elOf_key hk, if_pos hq1])
  obtain ⟨g, cap, rfl, hat⟩ := h'.memo.at hi
  have hlt : (i : Int) < (ms.length : Int) := by have := (List.getElem?_eq_some_iff.1 hi).1; omega
  have a7 := hat 7 (by omega)
  simp only [eCells, zRow, List.getElem?_cons_zero, List.getElem?_cons_succ] at a7
  have HN := hide (node_k (ha.below hb0) hk)
  obtain ⟨qk, qs, qn⟩ := q
  simp only at hq1 HEL ⊢
  subst hq1
  have HI := hide hm1
  have hlb : ∃ len, ms.length = len := ⟨_, rfl⟩
  obtain ⟨len, hlen⟩ := hlb
  have HLEN := hide hlen
  rw [hlen] at HAT HFF m0 hlt
  clear h h' ha hi hk hb0 hc hF hm1 hlen hat
  unfold zRow at HM HN HAT HKB s0 s1 s2 m0
  go_enter Try.func68, Try.ntmps68
  go_wp2_with (first | (go_at_call 55; refine (unhide HM).mono ?_; rintro e w1 ⟨rfl, rfl⟩) | (go_at_call 18; refine (unhide HN).mono ?_; rintro e w4 ⟨n, ao, mm, cc, rfl, hq, hb4⟩; obtain ⟨nk, nsp, nnm, nav, nda, nsy, npa, nfi, nla, npr, nne, nin, nat⟩ := n; simp only [nodeV, NodeM.cells]; simp only [keyN, Key.mk.injEq] at hq; obtain ⟨rfl, rfl, rfl⟩ := hq; obtain ⟨kb1, kb2, kb3⟩ := (unhide HKB) w4 hb4; have hx := heap_alloc_new w4 (.cells #[.int .i64 1, .int .i64 nsp, .string nnm, .slice ao mm cc, .string nda, .string nsy, .int .i64 npa, .int .i64 nfi, .int .i64 nla, .int .i64 npr, .int .i64 nne, .int .i64 nin] 44); have HLK := hide (LkS.start (((unhide HAT).below hb4).below (below_new w4 (.cells #[.int .i64 1, .int .i64 nsp, .string nnm, .slice ao mm cc, .string nda, .string nsy, .int .i64 npa, .int .i64 nfi, .int .i64 nla, .int .i64 npr, .int .i64 nne, .int .i64 nin] 44))) (unhide HCO) (unhide HFF)); have HK1 := hide ((Below.heap_alloc w4 (.cells #[.int .i64 1, .int .i64 nsp, .string nnm, .slice ao mm cc, .string nda, .string nsy, .int .i64 npa, .int .i64 nfi, .int .i64 nla, .int .i64 npr, .int .i64 nne, .int .i64 nin] 44) _ kb2).trans kb1); have HK3 := hide (kb3.trans ((below_new w4 (.cells #[.int .i64 1, .int .i64 nsp, .string nnm, .slice ao mm cc, .string nda, .string nsy, .int .i64 npa, .int .i64 nfi, .int .i64 nla, .int .i64 npr, .int .i64 nne, .int .i64 nin] 44)).mono kb3.size)); have HK2 := hide kb2; have HX := hide hx; clear hb4 kb1 kb2 kb3 hx s0 s1 s2 m0))
  go_loopg [63, 64, 65, 66, 67, 68, 69, 70, 71, 72, 73, 74, 75, 76, 77, 78, 79, 80, 81, 82, 83, 84, 85] ((i + 1) - len) (fun g _ _ _ _ _ _ _ _ _ _ _ _ _ _ _ _ _ _ _ _ _ _ _ wr => ∃ (v' : Value) (ms' : List (Option Cal)), ms'.length + g = max (i + 1) len ∧ LkS (w4.alloc (.cells #[.int .i64 1, .int .i64 nsp, .string nnm, .slice ao mm cc, .string nda, .string nsy, .int .i64 npa, .int .i64 nfi, .int .i64 nla, .int .i64 npr, .int .i64 nne, .int .i64 nin] 44)) wr base bK bP bM bA p (elOf ks) F v' ms')
  case atStart => exact ⟨_, ms, by have := unhide HLEN; omega, unhide HLK⟩
  case round =>
    obtain ⟨v', ms', hgl, hk⟩ := hrel
    have HK := hide hk
    have HG := hide hgl
    have hb0' := (hk.mod.block w.heap.size (by rw [World.size_alloc]; have := unhide HK2; omega) (fun e => by have := (unhide HLTF) _ e; omega)).trans (unhide HK1)
    have hbx := (hk.mod.block w4.heap.size (by rw [World.size_alloc]; omega) (fun e => by have := (unhide HLTF) _ e; have := unhide HK2; omega)).trans (unhide HX)
    obtain ⟨s0, s1, s2⟩ := hk.stk.cells
    obtain ⟨m0, mf⟩ := hk.stk.memo.cells
    by_cases hlt2 : (ms'.length : Int) ≤ (i : Int)
    · obtain ⟨a2, cap2, rfl⟩ := hk.stk.memo.len
      have HBX := hide hbx
      obtain ⟨i0, hi0', hz0, hz1, hz2⟩ := info_parts Try.info103
      have HOW := hide (fun (o : Obj) => hk.stk.memo.own.alloc o)
      have HB := hide (Nat.le_trans hk.stk.memo.lo (Nat.le_of_lt (lt_of_block hk.stk.memo.box)))
      have HNW : Hid (∀ (j : Nat) (u : Value), [.int .i64 0, .string ⟨#[]⟩, .bool false, .bool false, .bool false, .bool false, .bool false, .bool false][j]? = some u → (wr.alloc (.cells [.int .i64 0, .string ⟨#[]⟩, .bool false, .bool false, .bool false, .bool false, .bool false, .bool false].toArray 103)).cell? ((⟨wr.heap.size, 0, none⟩ : Addr).add j) = some u) := hide (World.news_of_block (w := wr.alloc (.cells [.int .i64 0, .string ⟨#[]⟩, .bool false, .bool false, .bool false, .bool false, .bool false, .bool false].toArray 103)) (B := wr.heap.size) (t := 103) (fr := (0, 0)) (heap_alloc_new wr _))
      have HL2 : Hid (ms'.length < 32768) := hide (by have := unhide HI; omega)
      have hlb2 : ∃ l2, ms'.length = l2 := ⟨_, rfl⟩
      obtain ⟨l2, hl2⟩ := hlb2
      have HLE2 := hide hl2
      rw [hl2] at HK HOW HL2 m0 hlt2
      clear hk hb0' hbx hgl hl2
      have k2 := cell_kept (below_new wr (.cells #[.int .i64 0, .string ⟨#[]⟩, .bool false, .bool false, .bool false, .bool false, .bool false, .bool false] 103)) s2
      have km := cell_kept (below_new wr (.cells #[.int .i64 0, .string ⟨#[]⟩, .bool false, .bool false, .bool false, .bool false, .bool false, .bool false] 103)) m0
      go_wp2
      go_region_law ((refine step_append_lies _ (by rfl) _ _ 81 (by rfl) base 103 i0 _ 8 32 (by kernel_rfl) hi0' hz0 hz1 hz2 rfl (by omega) (.slice a2 l2 cap2) l2 (mRow ms') (by rfl) (by first | exact own_drew ((unhide HOW) _) | exact (unhide HOW) _) ⟨wr.heap.size, 0, none⟩ 1 1 [.int .i64 0, .string ⟨#[]⟩, .bool false, .bool false, .bool false, .bool false, .bool false, .bool false] (by rfl) (by rfl) (by first | exact (fun j u hj => cell_drew ((unhide HNW) j u hj)) | exact unhide HNW) (by simp [Value.oneCell']) (by omega) (by have := unhide HL2; unfold maxLen; omega) (by have := unhide HL2; omega) (by have := unhide HB; simp; omega) (wr.heap.size + 1) (by simp) ?_; intro g' cap' w5 hown5 hgrow5 hat5 hltg5; obtain ⟨hu, d1, d2, d3, d4⟩ := (unhide HK).grow (by first | exact (below_new _ _).drew | exact below_new _ _) (by simp) (by rw [unhide HLE2]; exact hown5) hgrow5 (fun k e => by simp only [Value.ownBlock, Option.some.injEq] at e; subst e; exact hat5.imp id (fun e => by omega)); have HU := hide hu; clear hown5 hgrow5 hat5 hltg5 hu))
      all_goals go_wp2
      all_goals go_roundg (gk - 1)
      all_goals first
        | exact ⟨_, _, by have := unhide HG; have := unhide HLE2; rw [List.length_append]; simp; omega, unhide HU⟩
        | (have := unhide HG; have := unhide HLE2; omega)
    · obtain ⟨x, hx⟩ : ∃ x, ms'[i]? = some x := ⟨_, List.getElem?_eq_getElem (by omega)⟩
      obtain ⟨g2, cap2, rfl, _⟩ := hk.stk.memo.at hx
      have hlt4 : (i : Int) < (ms'.length : Int) := by omega
      have x1 := cell_row _ _ 1 _ _ _ hbx
      have x2 := cell_row _ _ 2 _ _ _ hbx
      simp only [List.getElem?_toArray, List.getElem?_cons_zero, List.getElem?_cons_succ] at x1 x2
      have HNK := hide (fun W => newKnown_any ⟨nsp, nnm⟩ W)
      simp only [Cal.agg] at HNK
      have hkv : kV ⟨nsp, nnm⟩ = .agg #[.int .i64 nsp, .string nnm, .bool (bAt ⟨nsp, nnm⟩ 5 0), .bool (bAt ⟨nsp, nnm⟩ 5 1), .bool (bAt ⟨nsp, nnm⟩ 5 2), .bool (bAt ⟨nsp, nnm⟩ 5 3), .bool (bAt ⟨nsp, nnm⟩ 5 4), .bool true] := rfl
      rw [hkv] at HNK
      have HKV := hide hkv
      clear hkv
      have HPK : Hid (∀ w6 : World, Below wr.heap.size wr w6 → LkS (w4.alloc (.cells #[.int .i64 1, .int .i64 nsp, .string nnm, .slice ao mm cc, .string nda, .string nsy, .int .i64 npa, .int .i64 nfi, .int .i64 nla, .int .i64 npr, .int .i64 nne, .int .i64 nin] 44)) ((((((((w6.setCell ⟨g2, i * 8, none⟩ (.int .i64 nsp)).setCell ⟨g2, i * 8 + 1, none⟩ (.string nnm)).setCell ⟨g2, i * 8 + 2, none⟩ (.bool (bAt ⟨nsp, nnm⟩ 5 0))).setCell ⟨g2, i * 8 + 3, none⟩ (.bool (bAt ⟨nsp, nnm⟩ 5 1))).setCell ⟨g2, i * 8 + 4, none⟩ (.bool (bAt ⟨nsp, nnm⟩ 5 2))).setCell ⟨g2, i * 8 + 5, none⟩ (.bool (bAt ⟨nsp, nnm⟩ 5 3))).setCell ⟨g2, i * 8 + 6, none⟩ (.bool (bAt ⟨nsp, nnm⟩ 5 4))).setCell ⟨g2, i * 8 + 7, none⟩ (.bool true)) base bK bP bM bA p (elOf ks) F (.slice (some ⟨g2, 0, none⟩) ms'.length cap2) (ms'.set i (some ⟨nsp, nnm⟩))) := hide (fun w6 hb6 => (hk.then hb6).poke (g := g2) (cap := cap2) (i := i) (c := ⟨nsp, nnm⟩) (by omega) (unhide HEL))
      have HEI : Hid (∀ w6 : World, Below wr.heap.size wr w6 → ∃ e0 e1 e2 e3 e4 e5 e6 e7 : Value, w6.cell? ⟨g2, i * 8, none⟩ = some e0 ∧ w6.cell? ⟨g2, i * 8 + 1, none⟩ = some e1 ∧ w6.cell? ⟨g2, i * 8 + 2, none⟩ = some e2 ∧ w6.cell? ⟨g2, i * 8 + 3, none⟩ = some e3 ∧ w6.cell? ⟨g2, i * 8 + 4, none⟩ = some e4 ∧ w6.cell? ⟨g2, i * 8 + 5, none⟩ = some e5 ∧ w6.cell? ⟨g2, i * 8 + 6, none⟩ = some e6 ∧ w6.cell? ⟨g2, i * 8 + 7, none⟩ = some e7 ∧ ∀ k : Nat, w6.frozen? ⟨g2, k, none⟩ = false) := hide (fun w6 hb6 => (hk.then hb6).stk.memo.eight (by omega))
      have HTO : Hid (∀ w6 : World, LkS (w4.alloc (.cells #[.int .i64 1, .int .i64 nsp, .string nnm, .slice ao mm cc, .string nda, .string nsy, .int .i64 npa, .int .i64 nfi, .int .i64 nla, .int .i64 npr, .int .i64 nne, .int .i64 nin] 44)) w6 base bK bP bM bA p (elOf ks) F (.slice (some ⟨g2, 0, none⟩) ms'.length cap2) (ms'.set i (some ⟨nsp, nnm⟩)) → w6.cell? ⟨g2, i * 8, none⟩ = some (.int .i64 nsp) ∧ w6.cell? ⟨g2, i * 8 + 1, none⟩ = some (.string nnm) ∧ w6.cell? ⟨g2, i * 8 + 2, none⟩ = some (.bool (bAt ⟨nsp, nnm⟩ 5 0)) ∧ w6.cell? ⟨g2, i * 8 + 3, none⟩ = some (.bool (bAt ⟨nsp, nnm⟩ 5 1)) ∧ w6.cell? ⟨g2, i * 8 + 4, none⟩ = some (.bool (bAt ⟨nsp, nnm⟩ 5 2)) ∧ w6.cell? ⟨g2, i * 8 + 5, none⟩ = some (.bool (bAt ⟨nsp, nnm⟩ 5 3)) ∧ w6.cell? ⟨g2, i * 8 + 6, none⟩ = some (.bool (bAt ⟨nsp, nnm⟩ 5 4)) ∧ w6.cell? ⟨g2, i * 8 + 7, none⟩ = some (.bool true)) := hide (fun w6 h6 => by
        have h7 := h6.stk.memo
        have hl7 : (ms'.set i (some ⟨nsp, nnm⟩)).length = ms'.length := List.length_set
        rw [← hl7] at h7
        exact KnM.told (g := g2) (cap := cap2) (i := i) (c := ⟨nsp, nnm⟩) h7 (by rw [List.getElem?_set_self (by omega)]))
      have HB0 : Hid (∀ w6 : World, LkS (w4.alloc (.cells #[.int .i64 1, .int .i64 nsp, .string nnm, .slice ao mm cc, .string nda, .string nsy, .int .i64 npa, .int .i64 nfi, .int .i64 nla, .int .i64 npr, .int .i64 nne, .int .i64 nin] 44)) w6 base bK bP bM bA p (elOf ks) F (.slice (some ⟨g2, 0, none⟩) ms'.length cap2) (ms'.set i (some ⟨nsp, nnm⟩)) → w6.heap[w.heap.size]? = some (.cells zRow 103 (0, 0))) := hide (fun w6 h6 => (h6.mod.block w.heap.size (by rw [World.size_alloc]; have := unhide HK2; omega) (fun e => by have := (unhide HLTF) _ e; omega)).trans (unhide HK1))
      have hlb2 : ∃ l2, ms'.length = l2 := ⟨_, rfl⟩
      obtain ⟨l2, hl2⟩ := hlb2
      have HLE2 := hide hl2
      rw [hl2] at HPK HTO HB0 m0 hlt4
      generalize bAt ⟨nsp, nnm⟩ 5 0 = e0 at *
      generalize bAt ⟨nsp, nnm⟩ 5 1 = e1 at *
      generalize bAt ⟨nsp, nnm⟩ 5 2 = e2 at *
      generalize bAt ⟨nsp, nnm⟩ 5 3 = e3 at *
      generalize bAt ⟨nsp, nnm⟩ 5 4 = e4 at *
      clear hk hb0' hbx hgl hl2 hx hlt2
      go_wp2
      have HS : Hid (∀ W' : World, Below wr.heap.size wr W' → W'.cell? ⟨bK, 2, none⟩ = some (.pointer (some ⟨bM, 0, none⟩)) ∧ W'.cell? ⟨bM, 0, none⟩ = some (.slice (some ⟨g2, 0, none⟩) l2 cap2) ∧ W'.cell? ⟨w4.heap.size, 1, none⟩ = some (.int .i64 nsp) ∧ W'.cell? ⟨w4.heap.size, 2, none⟩ = some (.string nnm)) := hide (fun W' hb => ⟨cell_kept hb s2, cell_kept hb m0, cell_kept hb x1, cell_kept hb x2⟩)
      have HSP : Hid (∀ w6 : World, Below wr.heap.size wr w6 → ((((((((w6.setCell ⟨g2, i * 8, none⟩ (.int .i64 nsp)).setCell ⟨g2, i * 8 + 1, none⟩ (.string nnm)).setCell ⟨g2, i * 8 + 2, none⟩ (.bool e0)).setCell ⟨g2, i * 8 + 3, none⟩ (.bool e1)).setCell ⟨g2, i * 8 + 4, none⟩ (.bool e2)).setCell ⟨g2, i * 8 + 5, none⟩ (.bool e3)).setCell ⟨g2, i * 8 + 6, none⟩ (.bool e4)).setCell ⟨g2, i * 8 + 7, none⟩ (.bool true)).cell? ⟨bK, 2, none⟩ = some (.pointer (some ⟨bM, 0, none⟩)) ∧ ((((((((w6.setCell ⟨g2, i * 8, none⟩ (.int .i64 nsp)).setCell ⟨g2, i * 8 + 1, none⟩ (.string nnm)).setCell ⟨g2, i * 8 + 2, none⟩ (.bool e0)).setCell ⟨g2, i * 8 + 3, none⟩ (.bool e1)).setCell ⟨g2, i * 8 + 4, none⟩ (.bool e2)).setCell ⟨g2, i * 8 + 5, none⟩ (.bool e3)).setCell ⟨g2, i * 8 + 6, none⟩ (.bool e4)).setCell ⟨g2, i * 8 + 7, none⟩ (.bool true)).cell? ⟨bM, 0, none⟩ = some (.slice (some ⟨g2, 0, none⟩) l2 cap2) ∧ ((((((((w6.setCell ⟨g2, i * 8, none⟩ (.int .i64 nsp)).setCell ⟨g2, i * 8 + 1, none⟩ (.string nnm)).setCell ⟨g2, i * 8 + 2, none⟩ (.bool e0)).setCell ⟨g2, i * 8 + 3, none⟩ (.bool e1)).setCell ⟨g2, i * 8 + 4, none⟩ (.bool e2)).setCell ⟨g2, i * 8 + 5, none⟩ (.bool e3)).setCell ⟨g2, i * 8 + 6, none⟩ (.bool e4)).setCell ⟨g2, i * 8 + 7, none⟩ (.bool true)).cell? ⟨w4.heap.size, 1, none⟩ = some (.int .i64 nsp) ∧ ((((((((w6.setCell ⟨g2, i * 8, none⟩ (.int .i64 nsp)).setCell ⟨g2, i * 8 + 1, none⟩ (.string nnm)).setCell ⟨g2, i * 8 + 2, none⟩ (.bool e0)).setCell ⟨g2, i * 8 + 3, none⟩ (.bool e1)).setCell ⟨g2, i * 8 + 4, none⟩ (.bool e2)).setCell ⟨g2, i * 8 + 5, none⟩ (.bool e3)).setCell ⟨g2, i * 8 + 6, none⟩ (.bool e4)).setCell ⟨g2, i * 8 + 7, none⟩ (.bool true)).cell? ⟨w4.heap.size, 2, none⟩ = some (.string nnm)) := hide (fun w6 hb6 => by
        have h7 := (unhide HPK) w6 hb6
        have hbx := (h7.mod.block w4.heap.size (by rw [World.size_alloc]; omega) (fun e => by have := (unhide HLTF) _ e; have := unhide HK2; omega)).trans (unhide HX)
        exact ⟨h7.stk.cells.2.2, h7.stk.memo.cells.1, cell_row _ _ 1 _ _ _ hbx, cell_row _ _ 2 _ _ _ hbx⟩)
      have HB0' := hide (Below.refl wr.heap.size wr)
      have HLE0 := hide (Nat.le_refl wr.heap.size)
      go_region_held3 (fun W' => W'.cell? ⟨bK, 2, none⟩ = some (.pointer (some ⟨bM, 0, none⟩)) ∧ W'.cell? ⟨bM, 0, none⟩ = some (.slice (some ⟨g2, 0, none⟩) l2 cap2) ∧ W'.cell? ⟨w4.heap.size, 1, none⟩ = some (.int .i64 nsp) ∧ W'.cell? ⟨w4.heap.size, 2, none⟩ = some (.string nnm)) (((first | with_reducible refine (unhide HSP) _ ?_ | refine (unhide HS) _ ?_); repeat' (with_reducible (first | exact unhide HB0' | exact unhide HBX6 | exact unhide HLE0 | apply balloc | apply bdrew | apply bput)))) (first
        | (go_at_call 114; refine ((unhide HNK) _).mono ?_; rintro e w6 ⟨rfl, hb6⟩; have hbx6 : Below wr.heap.size wr w6 := (by first | exact hb6 | exact ((Below.refl _ wr).drew).trans hb6); obtain ⟨d0, d1, d2, d3, d4, d5, d6, d7, c0, c1, c2, c3, c4, c5, c6, c7, cf⟩ := (unhide HEI) _ hbx6; have cf0 := cf (i * 8); have cf1 := cf (i * 8 + 1); have cf2 := cf (i * 8 + 2); have cf3 := cf (i * 8 + 3); have cf4 := cf (i * 8 + 4); have cf5 := cf (i * 8 + 5); have cf6 := cf (i * 8 + 6); have cf7 := cf (i * 8 + 7); have HPW := hide ((unhide HPK) _ hbx6); have HBX6 := hide hbx6; clear hb6 hbx6 cf))
      have hpw := unhide HPW
      clear HPW c0 c1 c2 c3 c4 c5 c6 c7 cf0 cf1 cf2 cf3 cf4 cf5 cf6 cf7 x1 x2 s0 s1 s2 m0 mf HS HSP
      generalize ((((((((w6.setCell ⟨g2, i * 8, none⟩ (.int .i64 nsp)).setCell ⟨g2, i * 8 + 1, none⟩ (.string nnm)).setCell ⟨g2, i * 8 + 2, none⟩ (.bool e0)).setCell ⟨g2, i * 8 + 3, none⟩ (.bool e1)).setCell ⟨g2, i * 8 + 4, none⟩ (.bool e2)).setCell ⟨g2, i * 8 + 5, none⟩ (.bool e3)).setCell ⟨g2, i * 8 + 6, none⟩ (.bool e4)).setCell ⟨g2, i * 8 + 7, none⟩ (.bool true)) = w7 at hpw ⊢
      obtain ⟨q0, q1, q2⟩ := hpw.stk.cells
      have qm := hpw.stk.memo.cells.1
      obtain ⟨t0, t1, t2, t3, t4, t5, t6, t7⟩ := (unhide HTO) _ hpw
      have hb7 := (unhide HB0) _ hpw
      have HPW := hide hpw
      have y0 := (cell_row _ _ 0 _ _ _ hb7).trans (List.getElem?_toArray ..)
      have y1 := (cell_row _ _ 1 _ _ _ hb7).trans (List.getElem?_toArray ..)
      have y2 := (cell_row _ _ 2 _ _ _ hb7).trans (List.getElem?_toArray ..)
      have y3 := (cell_row _ _ 3 _ _ _ hb7).trans (List.getElem?_toArray ..)
      have y4 := (cell_row _ _ 4 _ _ _ hb7).trans (List.getElem?_toArray ..)
      have y5 := (cell_row _ _ 5 _ _ _ hb7).trans (List.getElem?_toArray ..)
      have y6 := (cell_row _ _ 6 _ _ _ hb7).trans (List.getElem?_toArray ..)
      have y7 := (cell_row _ _ 7 _ _ _ hb7).trans (List.getElem?_toArray ..)
      simp only [List.getElem?_cons_zero, List.getElem?_cons_succ] at y0 y1 y2 y3 y4 y5 y6 y7
      have yf := look_unfrozen hb7
      have yf0 := yf 0
      have yf1 := yf 1
      have yf2 := yf 2
      have yf3 := yf 3
      have yf4 := yf 4
      have yf5 := yf 5
      have yf6 := yf 6
      have yf7 := yf 7
      have HB7 := hide hb7
      clear hpw hb7 yf
      go_wp2
      obtain ⟨E1, E2⟩ := eight_block w7 w.heap.size (.int .i64 nsp) (.string nnm) (.bool e0) (.bool e1) (.bool e2) (.bool e3) (.bool e4) (.bool true) _ _ _ _ _ _ _ _ _ (by have := unhide HB7; unfold zRow at this; exact this)
      have hkv := unhide HKV
      rw [hkv]
      exact bodyPost_ret (v := .tuple #[.agg #[.int .i64 nsp, .string nnm, .bool e0, .bool e1, .bool e2, .bool e3, .bool e4, .bool true], .bool true]) (known_ret _ w.heap.size _ rfl E1 _ _ rfl rfl) rfl ⟨rfl, (unhide HPW).upd.behind (unhide HK3) (by rw [World.size_alloc]; have := unhide HK2; omega) (unhide HLTF) E2⟩
end
end Go.Proofs.Ytmllhebmaldgfaa
