import Derived.Test.YtmllhebmaldgfaaQYj
/-
  PlaceEnds, walked.
-/
namespace Go.Proofs.Ytmllhebmaldgfaa
open Go.RowKit

def byteX (x : Int) : ByteArray := strOfNums [x]
theorem byteX_short (x : Int) : longS (byteX x) = false := by
  have h : (byteX x).size = 1 := rfl
  simp [longS, h]
theorem byteConv2 (W : World) (o : Obj) (x : Int) : (convert 67 9 (.slice (some ⟨W.heap.size + 1, 0, none⟩) 1 1)).run Try.prog ((W.alloc o).alloc (.cells #[.int .u8 x] 5)) = .ok (.string (byteX x)) ((W.alloc o).alloc (.cells #[.int .u8 x] 5)) :=
  run_convert_bytes_arg _ 67 5 Try.underlying67 Try.underlying5 _ 0 1 1 [x] rfl (fun j hj => by
    obtain rfl : j = 0 := by omega
    have h : ((W.alloc o).alloc (.cells #[.int .u8 x] 5)).heap[W.heap.size + 1]? = some (.cells #[.int .u8 x] 5 (0, 0)) := by
      have := heap_alloc_new (W.alloc o) (.cells #[.int .u8 x] 5)
      simpa using this
    rw [cell_row _ _ _ _ _ _ h]
    rfl) 9 Try.underlying9
attribute [local go_sem] byteConv2

theorem put_cmt {w W : World} {obs : List (Ob w.heap.size)} {i bA : Nat} {os : List OneM} {s : ByteArray} (h : Env w W obs) (hi : obs[i]? = some (aO _ bA (os ++ [cmt s]))) {q : Nat} {oq : OneM} (hq : os[q]? = some oq) (hk : oq.kind = 0 ∨ oq.kind = 1 ∨ oq.kind = 5) :
    Calls Try.prog 34 #[.pointer (some ⟨bA, 0, none⟩), .agg #[.int .i64 q, .int .i64 (-1)], .int .i64 os.length] W fun e w' => e = .returned (.int .i64 0) ∧ ∃ os2 o2, Env w w' (obs.set i (aO _ bA os2)) ∧ os2[q]? = some o2 ∧ lastK o2.kids = (os.length : Int) := by
  obtain ⟨ns, hs⟩ := h.sim hi
  obtain ⟨h1, h2⟩ := link_new hs hq hk
  obtain ⟨o2, h3, h4⟩ := last_new hq h2
  have hp := put_end h hi (q : Int) (os.length : Int) (hasO_of (o := oq) (by rw [List.getElem?_append_left (List.getElem?_eq_some_iff.1 hq).1]; exact hq)) (hasO_of (o := cmt s) (by simp))
  unfold spotV endE at hp
  rw [h1, h2, if_pos rfl] at hp
  exact hp.mono fun e w' ⟨a, b⟩ => ⟨a, _, o2, b, h3, h4⟩

def InI (os : List OneM) : Prop := ∀ (i : Nat) (o : OneM), os[i]? = some o → o.inner = -1 ∨ (o.inner = (i : Int) + 1 ∧ i + 1 < os.length)
theorem InI.elem {os : List OneM} (h : InI os) (nm : ByteArray) : InI (elemO os 0 nm []).1 := by
  have old : ∀ (ms : List OneM) (i : Nat) (o : OneM), i < os.length → (os ++ ms)[i]? = some o → o.inner = -1 ∨ (o.inner = (i : Int) + 1 ∧ i + 1 < (os ++ ms).length) := by
    intro ms i o hi ho
    rw [List.getElem?_append_left hi] at ho
    rcases h i o ho with e | ⟨e1, e2⟩
    · exact .inl e
    · exact .inr ⟨e1, by rw [List.length_append]; omega⟩
  unfold elemO
  rw [if_neg (by omega)]
  split
  · exact h
  · split
    · split
      · intro i o ho
        by_cases hi : i < os.length
        · exact old _ i o hi ho
        · rw [List.getElem?_append_right (by omega)] at ho
          by_cases e : i = os.length
          · subst e
            simp at ho
            subst ho
            exact .inr ⟨rfl, by simp⟩
          · by_cases e2 : i = os.length + 1
            · subst e2
              simp at ho
              subst ho
              exact .inl rfl
            · rw [List.getElem?_eq_none (by simp; omega)] at ho
              cases ho
      · exact h
    · unfold addO
      split
      · intro i o ho
        by_cases hi : i < os.length
        · exact old _ i o hi ho
        · rw [List.getElem?_append_right (by omega)] at ho
          by_cases e : i = os.length
          · subst e
            simp at ho
            subst ho
            exact .inl rfl
          · rw [List.getElem?_eq_none (by simp; omega)] at ho
            cases ho
      · exact h
theorem InI.link {os : List OneM} (h : InI os) (p c b : Int) : InI (linkR os p c b) := by
  intro i o ho
  rw [linkR_len]
  unfold linkR at ho
  split at ho
  · rw [linkO_get] at ho
    cases h0 : os[i]? with
    | none => rw [h0] at ho; cases ho
    | some o0 =>
      rw [h0] at ho
      cases ho
      exact h i o0 h0
  · exact h i o ho
theorem InI.step {s : List OneM × List Int} (h : InI s.1) (c : ActM) : InI (stepW s c).1 := by
  unfold stepW
  split
  · exact (h.elem c.text).link _ _ _
  · exact h.elem c.text
theorem InI.all (l : List ActM) : ∀ n, InI (worldW (l.take n)).1 := by
  intro n
  induction n with
  | zero =>
    rw [List.take_zero]
    intro i o ho
    by_cases e : i = 0
    · subst e
      simp [worldW] at ho
      subst ho
      exact .inl rfl
    · rw [List.getElem?_eq_none (by simp [worldW]; omega)] at ho
      cases ho
  | succ n ih =>
    cases hc : l[n]? with
    | none =>
      have hn := List.getElem?_eq_none_iff.1 hc
      rw [List.take_of_length_le (by omega)]
      rw [List.take_of_length_le hn] at ih
      exact ih
    | some c =>
      rw [worldW_next hc]
      exact ih.step c

set_option maxHeartbeats 4000000 in
set_option maxRecDepth 100000 in
theorem ends_walk (l : List ActM) (a : Option Addr) (cap : Nat) (t : Int) (nm : Int) (h0 : 0 ≤ nm ∧ nm ≤ 255) (w : World) (hin : ActsIn w a l) (hl : l.length ≤ 140737488351232) :
    Calls Try.prog 8 #[.slice a l.length cap, .int .i64 t, .int .u8 nm] w fun e w' => e = .returned (.bool true) ∧ Below w.heap.size w w' := by
  have HW := hide (world_any w a l cap hin hl)
  have hwi : WI (worldW (l.take 200)) 200 := by
    by_cases h : 200 ≤ l.length
    · exact WI.all l 200 h
    · have := WI.all l l.length (Nat.le_refl _)
      rw [List.take_of_length_le (Nat.le_refl _)] at this
      rw [List.take_of_length_le (by omega)]
      exact ⟨this.good, by have := this.few; omega, this.one⟩
  have hix : InI (worldW (l.take 200)).1 := InI.all l 200
  generalize worldW (l.take 200) = s at *
  obtain ⟨os, L⟩ := s
  unfold wObs at HW
  simp only at HW
  have hfew : os.length ≤ 401 := hwi.few
  have hgood : Good (keysO os) L := hwi.good
  have hone : ∀ o ∈ os, OneI o := hwi.one
  clear hin hwi
  have hixx : ∀ (i : Nat) (o : OneM), os[i]? = some o → o.inner = -1 ∨ (o.inner = (i : Int) + 1 ∧ i + 1 < os.length) := hix
  have HAW := hide (fun (W : World) => pawake_any W)
  cases ht : hasO os t with
  | false =>
    have HS := hide (fun (bA bR bK bW : Nat) (W : World) (hW : Env w W [aO _ bA os, rO _ bR os, stOb _ bK bA (keysO os) L, rsO _ bW bR L]) => spot_none hW (i := 0) (j := 2) (bA := bA) (bK := bK) rfl rfl (by decide) hgood ht false)
    have HN := hide (fun (bA bR bK bW : Nat) (W : World) (hW : Env w W [aO _ bA os, rO _ bR os, stOb _ bK bA (keysO os) L, rsO _ bW bR L]) => anode_no hW (i := 0) (bA := bA) rfl ht)
    unfold spotV at HS
    unfold nodeZ at HN
    clear ht hgood hone hfew hl
    go_enter Try.func8, Try.ntmps8
    go_wp2_with (first
      | (go_at_call 29; refine (unhide HW).mono ?_; rintro e w1 ⟨bA, bR, bK, bW, rfl, hv⟩; have H1 := hide hv; clear hv)
      | (go_at_call 30; refine ((unhide HS) bA bR bK bW _ (unhide H1)).mono ?_; rintro e w2 ⟨rfl, hv⟩; have H2 := hide hv; clear hv)
      | (go_at_call 18; refine ((unhide HN) bA bR bK bW _ ((unhide H2).more (below_new _ _))).mono ?_; rintro e w3 ⟨rfl, hb⟩; have H3 := hide (((unhide H2).more (below_new _ _)).more hb); clear hb)
      | (go_at_call 32; refine ((unhide HAW) _).mono ?_; rintro e w4 ⟨rfl, hb⟩; have H4 := hide (((unhide H3).more (below_new _ _)).more hb); clear hb))
    go_ret
    exact ⟨rfl, (unhide H4).bel⟩
  | true =>
    obtain ⟨k, o, rfl, ho⟩ := hasO_yes ht
    have hok := hone o (List.mem_of_getElem? ho)
    obtain ⟨q, oq, hq, hsp, hinn⟩ : ∃ (q : Nat) (oq : OneM), os[q]? = some oq ∧ (if isOfO o [tmplB] then spotV o.inner (-1) else spotV k (-1)) = spotV q (-1) ∧ ((o.inner = -1 ∧ q = k) ∨ (o.inner = (q : Int) ∧ ¬ (q : Int) = -1)) := by
      cases hc : isOfO o [tmplB] with
      | true =>
        rcases hixx k o ho with e | ⟨e1, e2⟩
        · exact absurd e (hok.inner.2 hc)
        · refine ⟨k + 1, _, List.getElem?_eq_getElem e2, ?_, .inr ⟨?_, by omega⟩⟩
          · rw [if_pos rfl, e1]; rfl
          · rw [e1]; rfl
      | false =>
        refine ⟨k, o, ho, rfl, .inl ⟨?_, rfl⟩⟩
        cases Classical.em (o.inner = -1) with
        | inl h => exact h
        | inr h => rw [hok.inner.1 h] at hc; cases hc
    have hqk := (hone oq (List.mem_of_getElem? hq)).kind
    have HS := hide (fun (bA bR bK bW : Nat) (W : World) (hW : Env w W [aO _ bA os, rO _ bR os, stOb _ bK bA (keysO os) L, rsO _ bW bR L]) => spot_plain hW (i := 0) (j := 2) (bA := bA) (bK := bK) rfl rfl (by decide) hgood ho)
    rw [hsp] at HS
    have HN := hide (fun (bA bR bK bW b : Nat) (cs : Array Value) (tt : TypeId) (W : World) (hW : Env w W ([aO _ bA os, rO _ bR os, stOb _ bK bA (keysO os) L, rsO _ bW bR L] ++ [blkOb _ b cs tt])) => anode_in hW (i := 0) (bA := bA) rfl ho)
    unfold spotV at HS
    clear hone hgood ht hl hsp hok hixx
    have HQ := hide hq
    have HQK := hide hqk
    have HFEW := hide (show os.length ≤ 1000 by omega)
    clear ho hq hqk hfew
    rcases hinn with ⟨hi1, rfl⟩ | ⟨hi1, hi2⟩
    · go_enter Try.func8, Try.ntmps8
      go_wp2_with (first
        | (go_at_call 29; refine (unhide HW).mono ?_; rintro e w1 ⟨bA, bR, bK, bW, rfl, hv⟩; have H1 := hide hv; clear hv)
        | (go_at_call 30; refine ((unhide HS) bA bR bK bW _ (unhide H1)).mono ?_; rintro e w2 ⟨rfl, hv⟩; have H2 := hide (hv.boxed #[.int .i64 q, .int .i64 (-1)] 60); clear hv)
        | (go_at_call 18; have _x := unhide H5; refine (anode_in (unhide H5) (i := 0) (bA := bA) rfl (unhide HO2)).mono ?_; rintro e w6 ⟨n, ao', m', c', rfl, hn, hb⟩; have HB6 := hide ((unhide H5).more hb).bel; obtain ⟨nk', nsp', na', av', da', sy', pa', fi', la', pr', ne', inn', att'⟩ := n; have ela : la' = (os.length : Int) := hn.last.trans (unhide HLA); subst ela; clear hb hn; simp only [nodeV, NodeM.cells])
        | (go_at_call 18; refine ((unhide HN) bA bR bK bW _ _ _ _ (unhide H2)).mono ?_; rintro e w3 ⟨n, ao, m, c, rfl, hn, hb⟩; have H3 := hide ((unhide H2).more hb); obtain ⟨nk, nsp, na, av, da, sy, pa, fi, la, pr, ne, inn, att⟩ := n; have ein : inn = -1 := hn.same.inner.trans hi1; subst ein; clear hb hn; have hbx := Box2.cells ((unhide H3).block (i := 4) rfl); obtain ⟨k0, k1, f0, f1⟩ := hbx; obtain ⟨z0, z1, z2, z3⟩ := Box2.cells (Box2.alloc (show Box2 w3 w2.heap.size q (-1) from (unhide H3).block (i := 4) rfl) (.cells #[.int .i64 nk, .int .i64 nsp, .string na, .slice ao m c, .string da, .string sy, .int .i64 pa, .int .i64 fi, .int .i64 la, .int .i64 pr, .int .i64 ne, .int .i64 (-1)] 44)); simp only [nodeV, NodeM.cells])
        | (go_at_call 33; refine (acomment_any (((unhide H3).more (below_new _ _)).more (below_new _ _)) (i := 0) (bA := bA) rfl _).mono ?_; rintro e w4 ⟨rfl, hv⟩; rw [comment_new (unhide HFEW) _ (byteX_short _)] at hv; rw [comment_new (unhide HFEW) _ (byteX_short _)]; clear z0 z1 z2 z3 k0 k1 f0 f1; have H4 := hide hv; have hbx := Box2.cells (hv.block (i := 4) rfl); obtain ⟨k0, k1, f0, f1⟩ := hbx; have HPUT := hide (put_cmt hv (i := 0) (bA := bA) rfl (unhide HQ) (unhide HQK)); clear hv)
        | (go_at_call 34; refine (unhide HPUT).mono ?_; rintro e w5 ⟨rfl, os2, o2, hv, ho2, hla2⟩; have H5 := hide hv; have HO2 := hide ho2; have HLA := hide hla2; clear hv ho2 hla2))
      go_ret
      exact ⟨rfl, (unhide HB6).alloc (unhide HB6).size _⟩
    · have hi3 : ((q : Int) != -1) = true := by simp
      go_enter Try.func8, Try.ntmps8
      go_wp2_with (first
        | (go_at_call 29; refine (unhide HW).mono ?_; rintro e w1 ⟨bA, bR, bK, bW, rfl, hv⟩; have H1 := hide hv; clear hv)
        | (go_at_call 30; refine ((unhide HS) bA bR bK bW _ (unhide H1)).mono ?_; rintro e w2 ⟨rfl, hv⟩; have H2 := hide (hv.boxed #[.int .i64 q, .int .i64 (-1)] 60); clear hv)
        | (go_at_call 18; have _x := unhide H5; refine (anode_in (unhide H5) (i := 0) (bA := bA) rfl (unhide HO2)).mono ?_; rintro e w6 ⟨n, ao', m', c', rfl, hn, hb⟩; have HB6 := hide ((unhide H5).more hb).bel; obtain ⟨nk', nsp', na', av', da', sy', pa', fi', la', pr', ne', inn', att'⟩ := n; have ela : la' = (os.length : Int) := hn.last.trans (unhide HLA); subst ela; clear hb hn; simp only [nodeV, NodeM.cells])
        | (go_at_call 18; refine ((unhide HN) bA bR bK bW _ _ _ _ (unhide H2)).mono ?_; rintro e w3 ⟨n, ao, m, c, rfl, hn, hb⟩; have H3 := hide ((unhide H2).more hb); obtain ⟨nk, nsp, na, av, da, sy, pa, fi, la, pr, ne, inn, att⟩ := n; have ein : inn = (q : Int) := hn.same.inner.trans hi1; subst ein; clear hb hn; have hbx := Box2.cells ((unhide H3).block (i := 4) rfl); obtain ⟨k0, k1, f0, f1⟩ := hbx; obtain ⟨z0, z1, z2, z3⟩ := Box2.cells (Box2.alloc (show Box2 w3 w2.heap.size q (-1) from (unhide H3).block (i := 4) rfl) (.cells #[.int .i64 nk, .int .i64 nsp, .string na, .slice ao m c, .string da, .string sy, .int .i64 pa, .int .i64 fi, .int .i64 la, .int .i64 pr, .int .i64 ne, .int .i64 q] 44)); simp only [nodeV, NodeM.cells])
        | (go_at_call 33; refine (acomment_any (((unhide H3).more (below_new _ _)).more (below_new _ _)) (i := 0) (bA := bA) rfl _).mono ?_; rintro e w4 ⟨rfl, hv⟩; rw [comment_new (unhide HFEW) _ (byteX_short _)] at hv; rw [comment_new (unhide HFEW) _ (byteX_short _)]; clear z0 z1 z2 z3 k0 k1 f0 f1; have H4 := hide hv; have hbx := Box2.cells (hv.block (i := 4) rfl); obtain ⟨k0, k1, f0, f1⟩ := hbx; have HPUT := hide (put_cmt hv (i := 0) (bA := bA) rfl (unhide HQ) (unhide HQK)); clear hv)
        | (go_at_call 34; refine (unhide HPUT).mono ?_; rintro e w5 ⟨rfl, os2, o2, hv, ho2, hla2⟩; have H5 := hide hv; have HO2 := hide ho2; have HLA := hide hla2; clear hv ho2 hla2))
      go_ret
      exact ⟨rfl, (unhide HB6).alloc (unhide HB6).size _⟩
end Go.Proofs.Ytmllhebmaldgfaa
