/-
  ActiveArk's walk.
-/
import Derived.Test.YtdabgeippkmgaaaMa
namespace Go.Proofs.Ytdabgeippkmgaaa
open Go.RowKit Go.Sort

set_option maxHeartbeats 2000000 in
theorem lawake_any (w : World) : Calls Try.prog 28 #[] w fun e w' => e = .returned (.bool true) ∧ Below w.heap.size w w' := by
  have H0 := hide (Env.start w)
  go_enter Try.func28, Try.ntmps28
  go_wp2_with (first
    | (go_at_call 38; refine (env_new (unhide H0)).mono ?_; rintro e w1 ⟨bA, rfl, hv⟩; have H1 := hide hv; clear hv)
    | (go_at_call 19; refine (env_lnew (unhide H1) (i := 0) (bA := bA) rfl).mono ?_; rintro e w2 ⟨bL, rfl, hv⟩; have H2 := hide hv; clear hv)
    | (go_at_call 31; refine (env_lmark (unhide H2) (j := 1) (bL := bL) (bA := bA) (es := []) rfl (by simp)).mono ?_; rintro e w3 ⟨rfl, hv⟩; have H3 := hide hv; clear hv)
    | (go_at_call 22; refine (env_llen (unhide H3) (j := 1) (bL := bL) (bA := bA) (es := [mark0]) rfl).mono ?_; rintro e w4 ⟨rfl, rfl⟩))
  go_ret
  exact ⟨rfl, (unhide H3).bel⟩

theorem cell_old (W : World) (o : Obj) {p : Addr} {v : Value} (h : W.cell? p = some v) : (W.alloc o).cell? p = some v := by
  have hlt : p.block < W.heap.size := World.block_lt_of_cell? W _ h
  exact ((below_new W o).cell (p := p) hlt).trans h
/-- Some blocks of one's own, side by side. -/
def fixOb (base K m : Nat) (cs : Nat → Obj) : Ob base := ⟨fun w F => base ≤ K ∧ (∀ j, j < m → w.heap[K + j]? = some (cs j)) ∧ ∀ k, F k ↔ (K ≤ k ∧ k < K + m), fun w F k h hk => by
    have := (h.2.2 k).1 hk
    obtain ⟨j, rfl⟩ : ∃ j, k = K + j := ⟨k - K, by omega⟩
    exact ⟨by have := h.1; omega, (Array.getElem?_eq_some_iff.1 (h.2.1 j (by omega))).1⟩, fun w w' F G h hm hG => ⟨h.1, fun j hj => (hm.block (K + j) (Array.getElem?_eq_some_iff.1 (h.2.1 j hj)).1 (hG _ ((h.2.2 _).2 ⟨by omega, by omega⟩))).trans (h.2.1 j hj), h.2.2⟩⟩
theorem env_fix {w wx W : World} {obs : List (Ob w.heap.size)} (h : Env w wx obs) (hb : Below wx.heap.size wx W) (m : Nat) (cs : Nat → Obj) (hc : ∀ j, j < m → W.heap[wx.heap.size + j]? = some (cs j)) : Env w W (obs ++ [fixOb _ wx.heap.size m cs]) :=
  h.add (o := fixOb _ wx.heap.size m cs) (F := fun k => wx.heap.size ≤ k ∧ k < wx.heap.size + m) hb ⟨h.bel.size, hc, fun _ => Iff.rfl⟩ (fun _ hk => hk.1)
theorem two_fix (W : World) (A B : Obj) : ∀ j, j < 2 → ((W.alloc A).alloc B).heap[W.heap.size + j]? = some (if j = 0 then A else B) := by
  intro j hj
  rcases (show j = 0 ∨ j = 1 by omega) with rfl | rfl
  · exact heap_alloc2_old _ _ _
  · exact heap_alloc2_new _ _ _
theorem three_fix (W : World) (A B O : Obj) : ∀ j, j < 3 → (((W.alloc A).alloc B).alloc O).heap[W.heap.size + j]? = some (if j = 0 then A else if j = 1 then B else O) := by
  intro j hj
  rcases (show j = 0 ∨ j = 1 ∨ j = 2 by omega) with rfl | rfl | rfl
  · rw [Below.heap_alloc _ _ _ (by simp; omega)]
    exact heap_alloc2_old _ _ _
  · rw [Below.heap_alloc _ _ _ (by simp)]
    exact heap_alloc2_new _ _ _
  · have e : W.heap.size + 2 = ((W.alloc A).alloc B).heap.size := by simp
    rw [e]
    exact heap_alloc_new _ _
theorem three_below (W : World) (A B O : Obj) : Below W.heap.size W (((W.alloc A).alloc B).alloc O) := (below_two W A B).alloc (by simp; omega) O
theorem attr_in (W : World) (b : Nat) (h : W.heap[b]? = some (.cells #[.int .i64 0, .string ⟨#[]⟩, .string ⟨#[120]⟩, .string ⟨#[49]⟩] 73)) : AttrsIn W (some ⟨b, 0, none⟩) [attX] := by
  refine ⟨fun j x hj => ?_⟩
  cases j with
  | zero =>
    simp at hj
    subst hj
    exact ⟨_, 0, rfl, cell_of_row _ _ 0 _ _ _ h, cell_of_row _ _ 1 _ _ _ h, cell_of_row _ _ 2 _ _ _ h, cell_of_row _ _ 3 _ _ _ h⟩
  | succ j => simp at hj
theorem Env.fixed {w wx : World} {obs : List (Ob w.heap.size)} (h : Env w wx obs) {i K m : Nat} {cs : Nat → Obj} (hi : obs[i]? = some (fixOb _ K m cs)) {j : Nat} (hj : j < m) : wx.heap[K + j]? = some (cs j) := by
  obtain ⟨F, ho, _⟩ := h.upd hi
  exact ho.2.1 j hj

set_option maxRecDepth 100000 in
set_option maxHeartbeats 40000000 in
theorem lark_walk (l : List ByteArray) (a : Option Addr) (cap : Nat) (lm : List Int) (am : Option Addr) (capm : Nat) (lt : List Int) (at' : Option Addr) (capt : Nat) (w : World) (hin : TxtIn w a l) (hl : l.length ≤ 140737488351232) (him : BytIn w am lm) (_hlm : lm.length ≤ 140737488351232) (hit : BytIn w at' lt) (_hlt : lt.length ≤ 140737488351232) :
    Calls Try.prog 5 #[.slice a l.length cap, .slice am lm.length capm, .slice at' lt.length capt] w fun e w' => e = .returned (.bool true) ∧ Below w.heap.size w w' := by
  have HAR := hide (arenas_any w a l cap hin hl)
  have HSP := hide (ksT_sp l)
  have HIM := hide him
  have HIT := hide hit
  generalize ksT l = ks at *
  clear hin hl him _hlm hit _hlt
  go_enter Try.func5, Try.ntmps5
  go_wp2_with (first
    | (go_at_call 18; refine (unhide HAR).mono ?_; rintro e w1 ⟨bA, bR, rfl, hv⟩; have H1 := hide (hv.take 1); clear hv)
    | (go_at_call 19; refine (env_lnew (unhide H1) (i := 0) (bA := bA) rfl).mono ?_; rintro e w2 ⟨bL, rfl, hv⟩; have H2 := hide hv; clear hv))
  have HM : Hid (ks.length ≤ 32768) := hide ((unhide H1).most (i := 0) (bA := bA) rfl).1
  have HLN : Hid (∀ wx es, Env w wx [arOb _ bA ks, liOb _ bL bA es] → Calls Try.prog 29 #[.pointer (some ⟨bA, 0, none⟩)] wx fun e w' => e = .returned (.int .i64 ks.length) ∧ wx = w') := hide (fun wx es hv => env_alen hv (i := 0) (bA := bA) rfl)
  have hmz : (ks.length : Int) ≤ 32768 := by have := unhide HM; omega
  clear HAR H1
  go_loopg [11, 12, 13, 14, 15, 16, 17, 18, 19, 20] 99 (fun g s11 _ _ _ _ _ _ _ _ _ wr => ∃ (i : Nat) (es : List EntM), s11 = .int .i64 (i : Int) ∧ i + g = 100 ∧ 1 ≤ i ∧ Ark ks i (2 * i) es ∧ Env w wr [arOb _ bA ks, liOb _ bL bA es])
  case atStart => exact ⟨1, [], rfl, by omega, by omega, (Ark.start ks).up (by omega) (by omega), unhide H2⟩
  case round =>
    obtain ⟨i, es, rfl, hig, hi1, hark, hv⟩ := hrel
    have HV := hide hv
    have HG := hide hig
    have HK := hide hark
    clear hv hark
    have hi0 : (1 : Int) ≤ (i : Int) := by omega
    have hi100 : (i : Int) ≤ 100 := by omega
    have HLN := hide (fun wx hv => (unhide HLN) wx es hv)
    by_cases hi : i < ks.length
    · have hiz : (i : Int) < (ks.length : Int) := by omega
      by_cases h100 : i < 100
      · have h100z : (i : Int) < 100 := by omega
        obtain ⟨q, hq⟩ : ∃ q, ks[i]? = some q := ⟨_, List.getElem?_eq_getElem hi⟩
        have hkey : keyAt ks (i : Int) = some q := by unfold keyAt; rw [if_pos (by omega), Int.toNat_natCast, hq]
        have hsp := (unhide HSP) q (List.mem_of_getElem? hq)
        have HN : Hid (∀ wx, Env w wx [arOb _ bA ks, liOb _ bL bA es] → Calls Try.prog 30 #[.pointer (some ⟨bA, 0, none⟩), .int .i64 (i : Int)] wx fun e w' => ∃ (n : NodeM) (ao : Option Addr) (m c : Nat), e = .returned (.tuple #[nodeV n (.slice ao m c), .int .i64 0]) ∧ keyN n = q ∧ Env w w' [arOb _ bA ks, liOb _ bL bA es]) := hide (fun wx hv => env_node hv (i := 0) (bA := bA) rfl hkey)
        obtain ⟨qk, qs, qn⟩ := q
        simp only at hsp
        subst hsp
        by_cases hk : qk = 1
        · subst hk
          have HKEY := hide hkey
          have HI := hide (And.intro hig (And.intro hi1 h100))
          generalize hle : ks.length = N at *
          clear hq hkey hig hi hi1 h100 hle
          by_cases hlt : i < lt.length
          · have hltz : (i : Int) < (lt.length : Int) := by omega
            obtain ⟨zt, hzt⟩ : ∃ z, lt[i]? = some z := ⟨_, List.getElem?_eq_getElem hlt⟩
            obtain ⟨bt, ot, rfl, _⟩ := (unhide HIT).cells i zt hzt
            have HZT : Hid (∀ wx, Below w.heap.size w wx → wx.cell? ⟨bt, ot + i, none⟩ = some (.int .u8 zt)) := hide (fun wx hb => by
              obtain ⟨b2, o2, e, c0⟩ := ((unhide HIT).below hb).cells i zt hzt
              cases e
              exact c0)
            generalize lt.length = LT at *
            by_cases hz2 : zt.tmod 2 = 1
            · clear hzt hlt
              by_cases hlm : i < lm.length
              · have hlmz : (i : Int) < (lm.length : Int) := by omega
                obtain ⟨zm, hzm⟩ : ∃ z, lm[i]? = some z := ⟨_, List.getElem?_eq_getElem hlm⟩
                obtain ⟨bm, om, rfl, _⟩ := (unhide HIM).cells i zm hzm
                have HZM : Hid (∀ wx, Below w.heap.size w wx → wx.cell? ⟨bm, om + i, none⟩ = some (.int .u8 zm)) := hide (fun wx hb => by
                  obtain ⟨b2, o2, e, c0⟩ := ((unhide HIM).below hb).cells i zm hzm
                  cases e
                  exact c0)
                generalize lm.length = LM at *
                by_cases hz5 : zm.tmod 5 = 0
                · clear hzm hlm
                  as_aux_lemma =>
                    obtain ⟨he0, C, hpu, hark2, hpl, hla, hsc⟩ := ark_push (unhide HK).mark (unhide HI).2.1 (unhide HKEY) (l := [attX]) (.inr rfl)
                    have HC0 := hide (And.intro hark2 hsc)
                    have HMK : Hid (∀ wx o, Env w wx [arOb _ bA ks, liOb _ bL bA es, o] → Calls Try.prog 31 #[.pointer (some ⟨bL, 0, none⟩)] wx fun e w' => e = .returned (.int .i64 0) ∧ Env w w' [arOb _ bA ks, liOb _ bL bA (es ++ [mark0]), o]) := hide (fun wx o hv => env_lmark hv (j := 1) (bA := bA) (bL := bL) (es := es) rfl (by have := (unhide HK).len; omega))
                    have HP : Hid (∀ wx o at0 cp0, Env w wx [arOb _ bA ks, liOb _ bL bA (es ++ [mark0]), o] → AttrsIn wx at0 [attX] → Calls Try.prog 32 #[.pointer (some ⟨bL, 0, none⟩), .int .i64 (i : Int), .agg #[.int .i64 1, .string qn, .string ⟨#[]⟩, .string ⟨#[]⟩, .int .i64 0, .bool false, .int .i32 0, .bool false, .slice at0 1 cp0]] wx fun e w' => e = .returned (.int .i64 0) ∧ Env w w' [arOb _ bA ks, liOb _ bL bA (C ++ [entA i qn [attX]]), o]) := hide (fun wx o at0 cp0 hv hat => by
                      have h := env_lpush hv (i := 0) (j := 1) (bA := bA) (bL := bL) (es := (es ++ [mark0])) rfl rfl (by have := ((unhide HK).mark).len; omega) (i : Int) (tokA qn [attX]) at0 cp0 hat (by simp [tokA])
                      rw [he0, hpu] at h
                      exact h)
                    have HF : Hid (∀ wx o, Env w wx [arOb _ bA ks, liOb _ bL bA (C ++ [entA i qn [attX]]), o] → Calls Try.prog 23 #[.pointer (some ⟨bL, 0, none⟩), .int .i64 (i : Int)] wx fun e w' => e = .returned (.int .i64 C.length) ∧ Env w w' [arOb _ bA ks, liOb _ bL bA (C ++ [entA i qn [attX]]), o]) := hide (fun wx o hv => by
                      have h := env_lfind hv (j := 1) (bA := bA) (bL := bL) (es := (C ++ [entA i qn [attX]])) rfl (by have := (unhide HC0).1.len; omega) (i : Int)
                      rw [hpl] at h
                      exact h)
                    have HLE : Hid (∀ wx o, Env w wx [arOb _ bA ks, liOb _ bL bA (C ++ [entA i qn [attX]]), o] → Calls Try.prog 22 #[.pointer (some ⟨bL, 0, none⟩)] wx fun e w' => e = .returned (.int .i64 ((C.length : Int) + 1)) ∧ wx = w') := hide (fun wx o hv => by
                      have h := env_llen hv (j := 1) (bA := bA) (bL := bL) (es := (C ++ [entA i qn [attX]])) rfl
                      rw [List.length_append] at h
                      exact h)
                    have HLA : Hid (∀ wx o, Env w wx [arOb _ bA ks, liOb _ bL bA (C ++ [entA i qn [attX]]), o] → Calls Try.prog 33 #[.pointer (some ⟨bL, 0, none⟩), .string qn] wx fun e w' => e = .returned (.int .i64 i) ∧ Env w w' [arOb _ bA ks, liOb _ bL bA (C ++ [entA i qn [attX]]), o]) := hide (fun wx o hv => by
                      have h := env_llast hv (j := 1) (bA := bA) (bL := bL) (es := (C ++ [entA i qn [attX]])) rfl (by have := (unhide HC0).1.len; omega) qn
                      rw [List.length_append] at h
                      rw [show (C.length + [entA i qn [attX]].length) = C.length + 1 from rfl, hla] at h
                      exact h)
                    have hcl : (C.length : Int) ≤ 300 := by have h1 := (unhide HC0).1.len; have h2 := (unhide HI).2.2; rw [List.length_append] at h1; simp at h1; omega
                    have hcl0 : (0 : Int) ≤ (C.length : Int) := by omega
                    clear he0 hpu hark2 hpl hla hsc
                    go_wp2_with (first | (go_at_call 29; refine ((unhide HLN) _ (unhide HV)).mono ?_; rintro e w3 ⟨rfl, rfl⟩) | (go_at_call 30; refine ((unhide HN) _ (unhide HV)).mono ?_; rintro e w4 ⟨n, ao, mm, cc, rfl, hq, hv⟩; obtain ⟨nk, nsp, nnm, nav, nda, nsy, npa, nfi, nla, npr, nne, nin, nat⟩ := n; have E4 := hide hv; simp only [nodeV, NodeM.cells]; simp only [keyN, Key.mk.injEq] at hq; obtain ⟨rfl, rfl, rfl⟩ := hq; have qt : ((w4.alloc (.cells #[.int .i64 1, .int .i64 0, .string nnm, .slice ao mm cc, .string nda, .string nsy, .int .i64 npa, .int .i64 nfi, .int .i64 nla, .int .i64 npr, .int .i64 nne, .int .i64 nin] 69)).alloc (.cells #[.int .i64 1, .string nnm, .string ⟨#[]⟩, .string ⟨#[]⟩, .int .i64 0, .bool false, .int .i32 0, .bool false, .slice none 0 0] 52)).cell? ⟨bt, ot + i, none⟩ = some (.int .u8 zt) := (unhide HZT) _ (hv.bel.trans ((below_two w4 (.cells #[.int .i64 1, .int .i64 0, .string nnm, .slice ao mm cc, .string nda, .string nsy, .int .i64 npa, .int .i64 nfi, .int .i64 nla, .int .i64 npr, .int .i64 nne, .int .i64 nin] 69) (.cells #[.int .i64 1, .string nnm, .string ⟨#[]⟩, .string ⟨#[]⟩, .int .i64 0, .bool false, .int .i32 0, .bool false, .slice none 0 0] 52)).mono hv.bel.size)); have qm : (((w4.alloc (.cells #[.int .i64 1, .int .i64 0, .string nnm, .slice ao mm cc, .string nda, .string nsy, .int .i64 npa, .int .i64 nfi, .int .i64 nla, .int .i64 npr, .int .i64 nne, .int .i64 nin] 69)).alloc (.cells #[.int .i64 1, .string nnm, .string ⟨#[]⟩, .string ⟨#[]⟩, .int .i64 0, .bool false, .int .i32 0, .bool false, (.slice (some ⟨w4.heap.size + 1 + 1, 0, none⟩) 1 1)] 52)).alloc (.cells #[.int .i64 0, .string ⟨#[]⟩, .string ⟨#[120]⟩, .string ⟨#[49]⟩] 73)).cell? ⟨bm, om + i, none⟩ = some (.int .u8 zm) := (unhide HZM) _ (hv.bel.trans ((three_below w4 (.cells #[.int .i64 1, .int .i64 0, .string nnm, .slice ao mm cc, .string nda, .string nsy, .int .i64 npa, .int .i64 nfi, .int .i64 nla, .int .i64 npr, .int .i64 nne, .int .i64 nin] 69) (.cells #[.int .i64 1, .string nnm, .string ⟨#[]⟩, .string ⟨#[]⟩, .int .i64 0, .bool false, .int .i32 0, .bool false, (.slice (some ⟨w4.heap.size + 1 + 1, 0, none⟩) 1 1)] 52) (.cells #[.int .i64 0, .string ⟨#[]⟩, .string ⟨#[120]⟩, .string ⟨#[49]⟩] 73)).mono hv.bel.size)); clear hv) | (go_at_call 31; refine ((unhide HMK) _ (fixOb _ w4.heap.size 3 (fun j => if j = 0 then (.cells #[.int .i64 1, .int .i64 0, .string nnm, .slice ao mm cc, .string nda, .string nsy, .int .i64 npa, .int .i64 nfi, .int .i64 nla, .int .i64 npr, .int .i64 nne, .int .i64 nin] 69) else if j = 1 then (.cells #[.int .i64 1, .string nnm, .string ⟨#[]⟩, .string ⟨#[]⟩, .int .i64 0, .bool false, .int .i32 0, .bool false, (.slice (some ⟨w4.heap.size + 1 + 1, 0, none⟩) 1 1)] 52) else (.cells #[.int .i64 0, .string ⟨#[]⟩, .string ⟨#[120]⟩, .string ⟨#[49]⟩] 73))) (env_fix (unhide E4) (three_below _ _ _ _) 3 _ (three_fix _ _ _ _))).mono ?_; rintro e w9 ⟨rfl, hv⟩; have E9 := hide hv; have tt0 : w9.cell? ⟨w4.heap.size + 1, 0, none⟩ = some (.int .i64 1) := (cell_of_row _ _ 0 _ _ _ (hv.fixed (i := 2) rfl (j := 1) (by omega))); have tt1 : w9.cell? ⟨w4.heap.size + 1, 1, none⟩ = some (.string nnm) := (cell_of_row _ _ 1 _ _ _ (hv.fixed (i := 2) rfl (j := 1) (by omega))); have tt2 : w9.cell? ⟨w4.heap.size + 1, 2, none⟩ = some (.string ⟨#[]⟩) := (cell_of_row _ _ 2 _ _ _ (hv.fixed (i := 2) rfl (j := 1) (by omega))); have tt3 : w9.cell? ⟨w4.heap.size + 1, 3, none⟩ = some (.string ⟨#[]⟩) := (cell_of_row _ _ 3 _ _ _ (hv.fixed (i := 2) rfl (j := 1) (by omega))); have tt4 : w9.cell? ⟨w4.heap.size + 1, 4, none⟩ = some (.int .i64 0) := (cell_of_row _ _ 4 _ _ _ (hv.fixed (i := 2) rfl (j := 1) (by omega))); have tt5 : w9.cell? ⟨w4.heap.size + 1, 5, none⟩ = some (.bool false) := (cell_of_row _ _ 5 _ _ _ (hv.fixed (i := 2) rfl (j := 1) (by omega))); have tt6 : w9.cell? ⟨w4.heap.size + 1, 6, none⟩ = some (.int .i32 0) := (cell_of_row _ _ 6 _ _ _ (hv.fixed (i := 2) rfl (j := 1) (by omega))); have tt7 : w9.cell? ⟨w4.heap.size + 1, 7, none⟩ = some (.bool false) := (cell_of_row _ _ 7 _ _ _ (hv.fixed (i := 2) rfl (j := 1) (by omega))); have tt8 : w9.cell? ⟨w4.heap.size + 1, 8, none⟩ = some ((.slice (some ⟨w4.heap.size + 1 + 1, 0, none⟩) 1 1)) := (cell_of_row _ _ 8 _ _ _ (hv.fixed (i := 2) rfl (j := 1) (by omega))); clear hv) | (go_at_call 32; have hv5 := (show Env w _ [arOb _ bA ks, liOb _ bL bA (es ++ [mark0]), (fixOb _ w4.heap.size 3 (fun j => if j = 0 then (.cells #[.int .i64 1, .int .i64 0, .string nnm, .slice ao mm cc, .string nda, .string nsy, .int .i64 npa, .int .i64 nfi, .int .i64 nla, .int .i64 npr, .int .i64 nne, .int .i64 nin] 69) else if j = 1 then (.cells #[.int .i64 1, .string nnm, .string ⟨#[]⟩, .string ⟨#[]⟩, .int .i64 0, .bool false, .int .i32 0, .bool false, (.slice (some ⟨w4.heap.size + 1 + 1, 0, none⟩) 1 1)] 52) else (.cells #[.int .i64 0, .string ⟨#[]⟩, .string ⟨#[120]⟩, .string ⟨#[49]⟩] 73)))] from (unhide E9)); refine ((unhide HP) _ (fixOb _ w4.heap.size 3 (fun j => if j = 0 then (.cells #[.int .i64 1, .int .i64 0, .string nnm, .slice ao mm cc, .string nda, .string nsy, .int .i64 npa, .int .i64 nfi, .int .i64 nla, .int .i64 npr, .int .i64 nne, .int .i64 nin] 69) else if j = 1 then (.cells #[.int .i64 1, .string nnm, .string ⟨#[]⟩, .string ⟨#[]⟩, .int .i64 0, .bool false, .int .i32 0, .bool false, (.slice (some ⟨w4.heap.size + 1 + 1, 0, none⟩) 1 1)] 52) else (.cells #[.int .i64 0, .string ⟨#[]⟩, .string ⟨#[120]⟩, .string ⟨#[49]⟩] 73))) _ _ hv5 (attr_in _ _ (hv5.fixed (i := 2) rfl (j := 2) (by omega)))).mono ?_; clear hv5; rintro e w5 ⟨rfl, hv⟩; have E5 := hide hv; have n2 : w5.cell? ⟨w4.heap.size, 2, none⟩ = some (.string nnm) := (cell_of_row _ _ 2 _ _ _ (hv.fixed (i := 2) rfl (j := 0) (by omega))); have t8 : w5.cell? ⟨w4.heap.size + 1, 8, none⟩ = some (.slice (some ⟨w4.heap.size + 1 + 1, 0, none⟩) 1 1) := (cell_of_row _ _ 8 _ _ _ (hv.fixed (i := 2) rfl (j := 1) (by omega))); clear hv) | (go_at_call 23; refine ((unhide HF) _ _ (unhide E5)).mono ?_; rintro e w6 ⟨rfl, hv⟩; have E6 := hide hv; have n3 : w6.cell? ⟨w4.heap.size, 2, none⟩ = some (.string nnm) := (cell_of_row _ _ 2 _ _ _ (hv.fixed (i := 2) rfl (j := 0) (by omega))); clear hv) | (go_at_call 22; refine ((unhide HLE) _ _ (by first | exact unhide E7 | exact unhide E6)).mono ?_; rintro e w8 ⟨rfl, rfl⟩) | (go_at_call 33; refine ((unhide HLA) _ _ (unhide E6)).mono ?_; rintro e w7 ⟨rfl, hv⟩; have E7 := hide hv; have n4 : w7.cell? ⟨w4.heap.size, 2, none⟩ = some (.string nnm) := (cell_of_row _ _ 2 _ _ _ (hv.fixed (i := 2) rfl (j := 0) (by omega))); have t4 : w7.cell? ⟨w4.heap.size + 1, 8, none⟩ = some (.slice (some ⟨w4.heap.size + 1 + 1, 0, none⟩) 1 1) := (cell_of_row _ _ 8 _ _ _ (hv.fixed (i := 2) rfl (j := 1) (by omega))); clear hv))
                    obtain ⟨FO, hFO⟩ : ∃ FO, FO = (fixOb w.heap.size w4.heap.size 3 (fun j => if j = 0 then (.cells #[.int .i64 1, .int .i64 0, .string nnm, .slice ao mm cc, .string nda, .string nsy, .int .i64 npa, .int .i64 nfi, .int .i64 nla, .int .i64 npr, .int .i64 nne, .int .i64 nin] 69) else if j = 1 then (.cells #[.int .i64 1, .string nnm, .string ⟨#[]⟩, .string ⟨#[]⟩, .int .i64 0, .bool false, .int .i32 0, .bool false, (.slice (some ⟨w4.heap.size + 1 + 1, 0, none⟩) 1 1)] 52) else (.cells #[.int .i64 0, .string ⟨#[]⟩, .string ⟨#[120]⟩, .string ⟨#[49]⟩] 73))) := ⟨_, rfl⟩
                    rw [← hFO] at E7
                    have HFO : Hid ((entA i nnm [attX]) = (entA i nnm [attX])) := hide rfl
                    clear HFO
                    go_loopg [15, 16, 17, 18, 19, 20] (C.length + 1) (fun g s15 s16 _ _ _ _ wr2 => ∃ (c e : Int), s16 = .int .i64 ((g : Int) - 1) ∧ s15 = .int .i64 c ∧ 0 ≤ c ∧ c + (g : Int) ≤ (C.length : Int) + 1 ∧ (scanE (entA i nnm [attX]) (C ++ [entA i nnm [attX]]) g (e, c)).2 ≤ 3 ∧ Env w wr2 [arOb _ bA ks, liOb _ bL bA (C ++ [entA i nnm [attX]]), FO])
                    case atStart => exact ⟨0, 0, by go_num, rfl, by omega, by omega, (unhide HC0).2, unhide E7⟩
                    case round =>
                      obtain ⟨c, e0, rfl, rfl, hc0, hcg, hsc, hv⟩ := hrel
                      have EV := hide hv
                      clear hv
                      cases gk with
                      | zero =>
                        have hc3 : c ≤ 3 := hsc
                        have hm1 : ((0 : Nat) : Int) - 1 = -1 := by omega
                        rw [hm1]
                        clear hm1 hsc hcg
                        go_wp2
                        go_roundg (100 - (i + 1))
                        case measure => have := unhide HI; omega
                        case rel => exact ⟨i + 1, (C ++ [entA i nnm [attX]]), by go_num, by have := unhide HI; omega, by omega, (unhide HC0).1.up (by omega) (by omega), (unhide EV).take 2⟩
                      | succ n =>
                        have hm1 : ((n + 1 : Nat) : Int) - 1 = (n : Int) := by omega
                        rw [hm1]
                        have hn0 : (0 : Int) ≤ (n : Int) := by omega
                        obtain ⟨y, hy⟩ : ∃ y, (C ++ [entA i nnm [attX]])[n]? = some y := ⟨_, List.getElem?_eq_getElem (by rw [List.length_append]; simp; omega)⟩
                        have hok := ark_at (unhide HC0).1 hy
                        have HAT : Hid (∀ wx o, Env w wx [arOb _ bA ks, liOb _ bL bA (C ++ [entA i nnm [attX]]), o] → Calls Try.prog 25 #[.pointer (some ⟨bL, 0, none⟩), .int .i64 (n : Int)] wx fun e w' => ∃ ao ac, e = .returned (.tuple #[entV y (.slice ao y.tok.attrs.length ac), .int .i64 0]) ∧ AtrS w' wx.heap.size ao y.tok.attrs ∧ Env w w' [arOb _ bA ks, liOb _ bL bA (C ++ [entA i nnm [attX]]), o]) := hide (fun wx o hv => env_lat hv (j := 1) (bL := bL) (bA := bA) (es := (C ++ [entA i nnm [attX]])) rfl n hy)
                        rw [scanE, hy] at hsc
                        simp only at hsc
                        by_cases hyn : y.node = -1
                        · rw [if_pos hyn] at hsc
                          have hc3 : c ≤ 3 := hsc
                          obtain ⟨y0, y1, y2, t0, t1, t2, t3, t4, t5, t6, t7, yl⟩ := y
                          simp only at hyn
                          subst hyn
                          clear hsc hcg hm1 hok hy
                          go_wp2_with (first | (go_at_call 25; refine ((unhide HAT) _ _ (unhide EV)).mono ?_; rintro e w10 ⟨ya, yc, rfl, _, hv⟩; have E10 := hide hv; simp only [entV, TokM.cells]; clear hv))
                          go_roundg (100 - (i + 1))
                          case measure => have := unhide HI; omega
                          case rel => exact ⟨i + 1, (C ++ [entA i nnm [attX]]), by go_num, by have := unhide HI; omega, by omega, (unhide HC0).1.up (by omega) (by omega), ((unhide E10).take 2).more (below_new _ _)⟩
                        · rw [if_neg hyn, alike_law (.inr rfl) hok hyn] at hsc
                          obtain ⟨j, _, hji, hjk, hjn, _, _⟩ : ∃ j : Nat, 1 ≤ j ∧ j < i + 1 ∧ keyAt ks (j : Int) = some ⟨1, 0, y.nm⟩ ∧ y.node = (j : Int) ∧ y.sp = 0 ∧ (y.tok.attrs = [] ∨ y.tok.attrs = [attX]) := hok.resolve_left (fun e => hyn (by rw [e]; rfl))
                          have HNO : Hid (∀ wx o2, Env w wx [arOb _ bA ks, liOb _ bL bA (C ++ [entA i nnm [attX]]), FO, o2] → Calls Try.prog 30 #[.pointer (some ⟨bA, 0, none⟩), .int .i64 (j : Int)] wx fun e w' => ∃ (n : NodeM) (ao : Option Addr) (m c : Nat), e = .returned (.tuple #[nodeV n (.slice ao m c), .int .i64 0]) ∧ keyN n = ⟨1, 0, y.nm⟩ ∧ Env w w' [arOb _ bA ks, liOb _ bL bA (C ++ [entA i nnm [attX]]), FO, o2]) := hide (fun wx o2 hv => env_node hv (i := 0) (bA := bA) rfl hjk)
                          obtain ⟨y0, y1, y2, t0, t1, t2, t3, t4, t5, t6, t7, yl⟩ := y
                          simp only at hjn hsc HNO
                          subst hjn
                          have hjm : ¬ (j : Int) = -1 := by omega
                          have hHC : Hid (c + 1 + (n : Int) ≤ (C.length : Int) + 1) := hide (by omega)
                          have hcz : c ≤ 400 := by omega
                          clear hcg hm1 hok hy hyn hji hjk
                          have hscT : (y2 = nnm ∧ yl.length = 1) → (scanE (entA i nnm [attX]) (C ++ [entA i nnm [attX]]) n ((n : Int), c + 1)).2 ≤ 3 := fun h => by
                            have h2 := hsc
                            rw [if_pos (by simp only [Bool.and_eq_true, decide_eq_true_eq]; exact h)] at h2
                            exact h2
                          have hscF : ¬ (y2 = nnm ∧ yl.length = 1) → (scanE (entA i nnm [attX]) (C ++ [entA i nnm [attX]]) n (e0, c)).2 ≤ 3 := fun h => by
                            have h2 := hsc
                            rw [if_neg (by simp only [Bool.and_eq_true, decide_eq_true_eq]; exact h)] at h2
                            exact h2
                          have hnz : (n : Int) ≤ 400 := by have := unhide hHC; omega
                          clear hsc
                          by_cases hnm : y2 = nnm
                          · have hbt : (y2.toList == nnm.toList) = true := by rw [hnm]; exact beq_self_eq_true _
                            by_cases hln : yl.length = 1
                            · have HS := hide (hscT ⟨hnm, hln⟩)
                              have hlz : (yl.length : Int) = 1 := by omega
                              clear hscT hscF hln hnm
                              go_wp2_with (first | (go_at_call 25; refine ((unhide HAT) _ _ (unhide EV)).mono ?_; rintro e w10 ⟨ya, yc, rfl, _, hv⟩; have E10 := hide hv; simp only [entV, TokM.cells]; clear hv) | (go_at_call 30; refine ((unhide HNO) _ _ ((unhide E10).boxed _ _)).mono ?_; rintro e w11 ⟨n, ao2, mm2, cc2, rfl, hq, hv⟩; obtain ⟨nk2, nsp2, nnm2, nav2, nda2, nsy2, npa2, nfi2, nla2, npr2, nne2, nin2, nat2⟩ := n; have E11 := hide hv; simp only [nodeV, NodeM.cells]; simp only [keyN, Key.mk.injEq] at hq; obtain ⟨rfl, rfl, rfl⟩ := hq; have z1 := cell_old w11 (.cells #[.int .i64 1, .int .i64 0, .string nnm2, .slice ao2 mm2 cc2, .string nda2, .string nsy2, .int .i64 npa2, .int .i64 nfi2, .int .i64 nla2, .int .i64 npr2, .int .i64 nne2, .int .i64 nin2] 69) (cell_of_row _ w4.heap.size 2 _ _ _ (hv.fixed (i := 2) (congrArg some hFO) (j := 0) (by omega)) : w11.cell? ⟨w4.heap.size, 2, none⟩ = some (.string nnm)); have z2 := cell_old w11 (.cells #[.int .i64 1, .int .i64 0, .string nnm2, .slice ao2 mm2 cc2, .string nda2, .string nsy2, .int .i64 npa2, .int .i64 nfi2, .int .i64 nla2, .int .i64 npr2, .int .i64 nne2, .int .i64 nin2] 69) (cell_of_row _ (w4.heap.size + 1) 8 _ _ _ (hv.fixed (i := 2) (congrArg some hFO) (j := 1) (by omega)) : w11.cell? ⟨w4.heap.size + 1, 8, none⟩ = some (.slice (some ⟨w4.heap.size + 1 + 1, 0, none⟩) 1 1)); have z3 := cell_old w11 (.cells #[.int .i64 1, .int .i64 0, .string nnm2, .slice ao2 mm2 cc2, .string nda2, .string nsy2, .int .i64 npa2, .int .i64 nfi2, .int .i64 nla2, .int .i64 npr2, .int .i64 nne2, .int .i64 nin2] 69) (cell_of_row _ w10.heap.size 9 _ _ _ (hv.block (i := 3) rfl) : w11.cell? ⟨w10.heap.size, 9, none⟩ = some (.slice ya yl.length yc)); clear hv))
                              go_roundg n
                              case measure => omega
                              case rel => exact ⟨c + 1, n, by go_num, by go_num, by omega, by have := unhide hHC; omega, unhide HS, ((unhide E11).take 3).more (below_new _ _)⟩
                            · have HS := hide (hscF (fun h => hln h.2))
                              have hlz : ¬ (yl.length : Int) = 1 := by omega
                              clear hscT hscF hln hnm
                              go_wp2_with (first | (go_at_call 25; refine ((unhide HAT) _ _ (unhide EV)).mono ?_; rintro e w10 ⟨ya, yc, rfl, _, hv⟩; have E10 := hide hv; simp only [entV, TokM.cells]; clear hv) | (go_at_call 30; refine ((unhide HNO) _ _ ((unhide E10).boxed _ _)).mono ?_; rintro e w11 ⟨n, ao2, mm2, cc2, rfl, hq, hv⟩; obtain ⟨nk2, nsp2, nnm2, nav2, nda2, nsy2, npa2, nfi2, nla2, npr2, nne2, nin2, nat2⟩ := n; have E11 := hide hv; simp only [nodeV, NodeM.cells]; simp only [keyN, Key.mk.injEq] at hq; obtain ⟨rfl, rfl, rfl⟩ := hq; have z1 := cell_old w11 (.cells #[.int .i64 1, .int .i64 0, .string nnm2, .slice ao2 mm2 cc2, .string nda2, .string nsy2, .int .i64 npa2, .int .i64 nfi2, .int .i64 nla2, .int .i64 npr2, .int .i64 nne2, .int .i64 nin2] 69) (cell_of_row _ w4.heap.size 2 _ _ _ (hv.fixed (i := 2) (congrArg some hFO) (j := 0) (by omega)) : w11.cell? ⟨w4.heap.size, 2, none⟩ = some (.string nnm)); have z2 := cell_old w11 (.cells #[.int .i64 1, .int .i64 0, .string nnm2, .slice ao2 mm2 cc2, .string nda2, .string nsy2, .int .i64 npa2, .int .i64 nfi2, .int .i64 nla2, .int .i64 npr2, .int .i64 nne2, .int .i64 nin2] 69) (cell_of_row _ (w4.heap.size + 1) 8 _ _ _ (hv.fixed (i := 2) (congrArg some hFO) (j := 1) (by omega)) : w11.cell? ⟨w4.heap.size + 1, 8, none⟩ = some (.slice (some ⟨w4.heap.size + 1 + 1, 0, none⟩) 1 1)); have z3 := cell_old w11 (.cells #[.int .i64 1, .int .i64 0, .string nnm2, .slice ao2 mm2 cc2, .string nda2, .string nsy2, .int .i64 npa2, .int .i64 nfi2, .int .i64 nla2, .int .i64 npr2, .int .i64 nne2, .int .i64 nin2] 69) (cell_of_row _ w10.heap.size 9 _ _ _ (hv.block (i := 3) rfl) : w11.cell? ⟨w10.heap.size, 9, none⟩ = some (.slice ya yl.length yc)); clear hv))
                              go_roundg n
                              case measure => omega
                              case rel => exact ⟨c, e0, by go_num, rfl, by omega, by have := unhide hHC; omega, unhide HS, ((unhide E11).take 3).more (below_new _ _)⟩
                          · have HS := hide (hscF (fun h => hnm h.1))
                            have hbn : (y2.toList == nnm.toList) = false := beq_eq_false_iff_ne.2 (fun h => hnm (bytes_ext h))
                            clear hscT hscF hnm
                            go_wp2_with (first | (go_at_call 25; refine ((unhide HAT) _ _ (unhide EV)).mono ?_; rintro e w10 ⟨ya, yc, rfl, _, hv⟩; have E10 := hide hv; simp only [entV, TokM.cells]; clear hv) | (go_at_call 30; refine ((unhide HNO) _ _ ((unhide E10).boxed _ _)).mono ?_; rintro e w11 ⟨n, ao2, mm2, cc2, rfl, hq, hv⟩; obtain ⟨nk2, nsp2, nnm2, nav2, nda2, nsy2, npa2, nfi2, nla2, npr2, nne2, nin2, nat2⟩ := n; have E11 := hide hv; simp only [nodeV, NodeM.cells]; simp only [keyN, Key.mk.injEq] at hq; obtain ⟨rfl, rfl, rfl⟩ := hq; have z1 := cell_old w11 (.cells #[.int .i64 1, .int .i64 0, .string nnm2, .slice ao2 mm2 cc2, .string nda2, .string nsy2, .int .i64 npa2, .int .i64 nfi2, .int .i64 nla2, .int .i64 npr2, .int .i64 nne2, .int .i64 nin2] 69) (cell_of_row _ w4.heap.size 2 _ _ _ (hv.fixed (i := 2) (congrArg some hFO) (j := 0) (by omega)) : w11.cell? ⟨w4.heap.size, 2, none⟩ = some (.string nnm)); have z2 := cell_old w11 (.cells #[.int .i64 1, .int .i64 0, .string nnm2, .slice ao2 mm2 cc2, .string nda2, .string nsy2, .int .i64 npa2, .int .i64 nfi2, .int .i64 nla2, .int .i64 npr2, .int .i64 nne2, .int .i64 nin2] 69) (cell_of_row _ (w4.heap.size + 1) 8 _ _ _ (hv.fixed (i := 2) (congrArg some hFO) (j := 1) (by omega)) : w11.cell? ⟨w4.heap.size + 1, 8, none⟩ = some (.slice (some ⟨w4.heap.size + 1 + 1, 0, none⟩) 1 1)); have z3 := cell_old w11 (.cells #[.int .i64 1, .int .i64 0, .string nnm2, .slice ao2 mm2 cc2, .string nda2, .string nsy2, .int .i64 npa2, .int .i64 nfi2, .int .i64 nla2, .int .i64 npr2, .int .i64 nne2, .int .i64 nin2] 69) (cell_of_row _ w10.heap.size 9 _ _ _ (hv.block (i := 3) rfl) : w11.cell? ⟨w10.heap.size, 9, none⟩ = some (.slice ya yl.length yc)); clear hv))
                            go_roundg n
                            case measure => omega
                            case rel => exact ⟨c, e0, by go_num, rfl, by omega, by have := unhide hHC; omega, unhide HS, ((unhide E11).take 3).more (below_new _ _)⟩
                · clear hzm hlm
                  as_aux_lemma =>
                    obtain ⟨he0, C, hpu, hark2, hpl, hla, hsc⟩ := ark_push (unhide HK) (unhide HI).2.1 (unhide HKEY) (l := [attX]) (.inr rfl)
                    have HC0 := hide (And.intro hark2 hsc)
                    have HP : Hid (∀ wx o at0 cp0, Env w wx [arOb _ bA ks, liOb _ bL bA es, o] → AttrsIn wx at0 [attX] → Calls Try.prog 32 #[.pointer (some ⟨bL, 0, none⟩), .int .i64 (i : Int), .agg #[.int .i64 1, .string qn, .string ⟨#[]⟩, .string ⟨#[]⟩, .int .i64 0, .bool false, .int .i32 0, .bool false, .slice at0 1 cp0]] wx fun e w' => e = .returned (.int .i64 0) ∧ Env w w' [arOb _ bA ks, liOb _ bL bA (C ++ [entA i qn [attX]]), o]) := hide (fun wx o at0 cp0 hv hat => by
                      have h := env_lpush hv (i := 0) (j := 1) (bA := bA) (bL := bL) (es := es) rfl rfl (by have := ((unhide HK)).len; omega) (i : Int) (tokA qn [attX]) at0 cp0 hat (by simp [tokA])
                      rw [he0, hpu] at h
                      exact h)
                    have HF : Hid (∀ wx o, Env w wx [arOb _ bA ks, liOb _ bL bA (C ++ [entA i qn [attX]]), o] → Calls Try.prog 23 #[.pointer (some ⟨bL, 0, none⟩), .int .i64 (i : Int)] wx fun e w' => e = .returned (.int .i64 C.length) ∧ Env w w' [arOb _ bA ks, liOb _ bL bA (C ++ [entA i qn [attX]]), o]) := hide (fun wx o hv => by
                      have h := env_lfind hv (j := 1) (bA := bA) (bL := bL) (es := (C ++ [entA i qn [attX]])) rfl (by have := (unhide HC0).1.len; omega) (i : Int)
                      rw [hpl] at h
                      exact h)
                    have HLE : Hid (∀ wx o, Env w wx [arOb _ bA ks, liOb _ bL bA (C ++ [entA i qn [attX]]), o] → Calls Try.prog 22 #[.pointer (some ⟨bL, 0, none⟩)] wx fun e w' => e = .returned (.int .i64 ((C.length : Int) + 1)) ∧ wx = w') := hide (fun wx o hv => by
                      have h := env_llen hv (j := 1) (bA := bA) (bL := bL) (es := (C ++ [entA i qn [attX]])) rfl
                      rw [List.length_append] at h
                      exact h)
                    have HLA : Hid (∀ wx o, Env w wx [arOb _ bA ks, liOb _ bL bA (C ++ [entA i qn [attX]]), o] → Calls Try.prog 33 #[.pointer (some ⟨bL, 0, none⟩), .string qn] wx fun e w' => e = .returned (.int .i64 i) ∧ Env w w' [arOb _ bA ks, liOb _ bL bA (C ++ [entA i qn [attX]]), o]) := hide (fun wx o hv => by
                      have h := env_llast hv (j := 1) (bA := bA) (bL := bL) (es := (C ++ [entA i qn [attX]])) rfl (by have := (unhide HC0).1.len; omega) qn
                      rw [List.length_append] at h
                      rw [show (C.length + [entA i qn [attX]].length) = C.length + 1 from rfl, hla] at h
                      exact h)
                    have hcl : (C.length : Int) ≤ 300 := by have h1 := (unhide HC0).1.len; have h2 := (unhide HI).2.2; rw [List.length_append] at h1; simp at h1; omega
                    have hcl0 : (0 : Int) ≤ (C.length : Int) := by omega
                    clear he0 hpu hark2 hpl hla hsc
                    go_wp2_with (first | (go_at_call 29; refine ((unhide HLN) _ (unhide HV)).mono ?_; rintro e w3 ⟨rfl, rfl⟩) | (go_at_call 30; refine ((unhide HN) _ (unhide HV)).mono ?_; rintro e w4 ⟨n, ao, mm, cc, rfl, hq, hv⟩; obtain ⟨nk, nsp, nnm, nav, nda, nsy, npa, nfi, nla, npr, nne, nin, nat⟩ := n; have E4 := hide hv; simp only [nodeV, NodeM.cells]; simp only [keyN, Key.mk.injEq] at hq; obtain ⟨rfl, rfl, rfl⟩ := hq; have qt : ((w4.alloc (.cells #[.int .i64 1, .int .i64 0, .string nnm, .slice ao mm cc, .string nda, .string nsy, .int .i64 npa, .int .i64 nfi, .int .i64 nla, .int .i64 npr, .int .i64 nne, .int .i64 nin] 69)).alloc (.cells #[.int .i64 1, .string nnm, .string ⟨#[]⟩, .string ⟨#[]⟩, .int .i64 0, .bool false, .int .i32 0, .bool false, .slice none 0 0] 52)).cell? ⟨bt, ot + i, none⟩ = some (.int .u8 zt) := (unhide HZT) _ (hv.bel.trans ((below_two w4 (.cells #[.int .i64 1, .int .i64 0, .string nnm, .slice ao mm cc, .string nda, .string nsy, .int .i64 npa, .int .i64 nfi, .int .i64 nla, .int .i64 npr, .int .i64 nne, .int .i64 nin] 69) (.cells #[.int .i64 1, .string nnm, .string ⟨#[]⟩, .string ⟨#[]⟩, .int .i64 0, .bool false, .int .i32 0, .bool false, .slice none 0 0] 52)).mono hv.bel.size)); have qm : (((w4.alloc (.cells #[.int .i64 1, .int .i64 0, .string nnm, .slice ao mm cc, .string nda, .string nsy, .int .i64 npa, .int .i64 nfi, .int .i64 nla, .int .i64 npr, .int .i64 nne, .int .i64 nin] 69)).alloc (.cells #[.int .i64 1, .string nnm, .string ⟨#[]⟩, .string ⟨#[]⟩, .int .i64 0, .bool false, .int .i32 0, .bool false, (.slice (some ⟨w4.heap.size + 1 + 1, 0, none⟩) 1 1)] 52)).alloc (.cells #[.int .i64 0, .string ⟨#[]⟩, .string ⟨#[120]⟩, .string ⟨#[49]⟩] 73)).cell? ⟨bm, om + i, none⟩ = some (.int .u8 zm) := (unhide HZM) _ (hv.bel.trans ((three_below w4 (.cells #[.int .i64 1, .int .i64 0, .string nnm, .slice ao mm cc, .string nda, .string nsy, .int .i64 npa, .int .i64 nfi, .int .i64 nla, .int .i64 npr, .int .i64 nne, .int .i64 nin] 69) (.cells #[.int .i64 1, .string nnm, .string ⟨#[]⟩, .string ⟨#[]⟩, .int .i64 0, .bool false, .int .i32 0, .bool false, (.slice (some ⟨w4.heap.size + 1 + 1, 0, none⟩) 1 1)] 52) (.cells #[.int .i64 0, .string ⟨#[]⟩, .string ⟨#[120]⟩, .string ⟨#[49]⟩] 73)).mono hv.bel.size)); clear hv) | (go_at_call 32; have hv5 := (show Env w _ [arOb _ bA ks, liOb _ bL bA es, (fixOb _ w4.heap.size 3 (fun j => if j = 0 then (.cells #[.int .i64 1, .int .i64 0, .string nnm, .slice ao mm cc, .string nda, .string nsy, .int .i64 npa, .int .i64 nfi, .int .i64 nla, .int .i64 npr, .int .i64 nne, .int .i64 nin] 69) else if j = 1 then (.cells #[.int .i64 1, .string nnm, .string ⟨#[]⟩, .string ⟨#[]⟩, .int .i64 0, .bool false, .int .i32 0, .bool false, (.slice (some ⟨w4.heap.size + 1 + 1, 0, none⟩) 1 1)] 52) else (.cells #[.int .i64 0, .string ⟨#[]⟩, .string ⟨#[120]⟩, .string ⟨#[49]⟩] 73)))] from (env_fix (unhide E4) (three_below _ _ _ _) 3 _ (three_fix _ _ _ _))); refine ((unhide HP) _ (fixOb _ w4.heap.size 3 (fun j => if j = 0 then (.cells #[.int .i64 1, .int .i64 0, .string nnm, .slice ao mm cc, .string nda, .string nsy, .int .i64 npa, .int .i64 nfi, .int .i64 nla, .int .i64 npr, .int .i64 nne, .int .i64 nin] 69) else if j = 1 then (.cells #[.int .i64 1, .string nnm, .string ⟨#[]⟩, .string ⟨#[]⟩, .int .i64 0, .bool false, .int .i32 0, .bool false, (.slice (some ⟨w4.heap.size + 1 + 1, 0, none⟩) 1 1)] 52) else (.cells #[.int .i64 0, .string ⟨#[]⟩, .string ⟨#[120]⟩, .string ⟨#[49]⟩] 73))) _ _ hv5 (attr_in _ _ (hv5.fixed (i := 2) rfl (j := 2) (by omega)))).mono ?_; clear hv5; rintro e w5 ⟨rfl, hv⟩; have E5 := hide hv; have n2 : w5.cell? ⟨w4.heap.size, 2, none⟩ = some (.string nnm) := (cell_of_row _ _ 2 _ _ _ (hv.fixed (i := 2) rfl (j := 0) (by omega))); have t8 : w5.cell? ⟨w4.heap.size + 1, 8, none⟩ = some (.slice (some ⟨w4.heap.size + 1 + 1, 0, none⟩) 1 1) := (cell_of_row _ _ 8 _ _ _ (hv.fixed (i := 2) rfl (j := 1) (by omega))); clear hv) | (go_at_call 23; refine ((unhide HF) _ _ (unhide E5)).mono ?_; rintro e w6 ⟨rfl, hv⟩; have E6 := hide hv; have n3 : w6.cell? ⟨w4.heap.size, 2, none⟩ = some (.string nnm) := (cell_of_row _ _ 2 _ _ _ (hv.fixed (i := 2) rfl (j := 0) (by omega))); clear hv) | (go_at_call 22; refine ((unhide HLE) _ _ (by first | exact unhide E7 | exact unhide E6)).mono ?_; rintro e w8 ⟨rfl, rfl⟩) | (go_at_call 33; refine ((unhide HLA) _ _ (unhide E6)).mono ?_; rintro e w7 ⟨rfl, hv⟩; have E7 := hide hv; have n4 : w7.cell? ⟨w4.heap.size, 2, none⟩ = some (.string nnm) := (cell_of_row _ _ 2 _ _ _ (hv.fixed (i := 2) rfl (j := 0) (by omega))); have t4 : w7.cell? ⟨w4.heap.size + 1, 8, none⟩ = some (.slice (some ⟨w4.heap.size + 1 + 1, 0, none⟩) 1 1) := (cell_of_row _ _ 8 _ _ _ (hv.fixed (i := 2) rfl (j := 1) (by omega))); clear hv))
                    obtain ⟨FO, hFO⟩ : ∃ FO, FO = (fixOb w.heap.size w4.heap.size 3 (fun j => if j = 0 then (.cells #[.int .i64 1, .int .i64 0, .string nnm, .slice ao mm cc, .string nda, .string nsy, .int .i64 npa, .int .i64 nfi, .int .i64 nla, .int .i64 npr, .int .i64 nne, .int .i64 nin] 69) else if j = 1 then (.cells #[.int .i64 1, .string nnm, .string ⟨#[]⟩, .string ⟨#[]⟩, .int .i64 0, .bool false, .int .i32 0, .bool false, (.slice (some ⟨w4.heap.size + 1 + 1, 0, none⟩) 1 1)] 52) else (.cells #[.int .i64 0, .string ⟨#[]⟩, .string ⟨#[120]⟩, .string ⟨#[49]⟩] 73))) := ⟨_, rfl⟩
                    rw [← hFO] at E7
                    have HFO : Hid ((entA i nnm [attX]) = (entA i nnm [attX])) := hide rfl
                    clear HFO
                    go_loopg [15, 16, 17, 18, 19, 20] (C.length + 1) (fun g s15 s16 _ _ _ _ wr2 => ∃ (c e : Int), s16 = .int .i64 ((g : Int) - 1) ∧ s15 = .int .i64 c ∧ 0 ≤ c ∧ c + (g : Int) ≤ (C.length : Int) + 1 ∧ (scanE (entA i nnm [attX]) (C ++ [entA i nnm [attX]]) g (e, c)).2 ≤ 3 ∧ Env w wr2 [arOb _ bA ks, liOb _ bL bA (C ++ [entA i nnm [attX]]), FO])
                    case atStart => exact ⟨0, 0, by go_num, rfl, by omega, by omega, (unhide HC0).2, unhide E7⟩
                    case round =>
                      obtain ⟨c, e0, rfl, rfl, hc0, hcg, hsc, hv⟩ := hrel
                      have EV := hide hv
                      clear hv
                      cases gk with
                      | zero =>
                        have hc3 : c ≤ 3 := hsc
                        have hm1 : ((0 : Nat) : Int) - 1 = -1 := by omega
                        rw [hm1]
                        clear hm1 hsc hcg
                        go_wp2
                        go_roundg (100 - (i + 1))
                        case measure => have := unhide HI; omega
                        case rel => exact ⟨i + 1, (C ++ [entA i nnm [attX]]), by go_num, by have := unhide HI; omega, by omega, (unhide HC0).1.up (by omega) (by omega), (unhide EV).take 2⟩
                      | succ n =>
                        have hm1 : ((n + 1 : Nat) : Int) - 1 = (n : Int) := by omega
                        rw [hm1]
                        have hn0 : (0 : Int) ≤ (n : Int) := by omega
                        obtain ⟨y, hy⟩ : ∃ y, (C ++ [entA i nnm [attX]])[n]? = some y := ⟨_, List.getElem?_eq_getElem (by rw [List.length_append]; simp; omega)⟩
                        have hok := ark_at (unhide HC0).1 hy
                        have HAT : Hid (∀ wx o, Env w wx [arOb _ bA ks, liOb _ bL bA (C ++ [entA i nnm [attX]]), o] → Calls Try.prog 25 #[.pointer (some ⟨bL, 0, none⟩), .int .i64 (n : Int)] wx fun e w' => ∃ ao ac, e = .returned (.tuple #[entV y (.slice ao y.tok.attrs.length ac), .int .i64 0]) ∧ AtrS w' wx.heap.size ao y.tok.attrs ∧ Env w w' [arOb _ bA ks, liOb _ bL bA (C ++ [entA i nnm [attX]]), o]) := hide (fun wx o hv => env_lat hv (j := 1) (bL := bL) (bA := bA) (es := (C ++ [entA i nnm [attX]])) rfl n hy)
                        rw [scanE, hy] at hsc
                        simp only at hsc
                        by_cases hyn : y.node = -1
                        · rw [if_pos hyn] at hsc
                          have hc3 : c ≤ 3 := hsc
                          obtain ⟨y0, y1, y2, t0, t1, t2, t3, t4, t5, t6, t7, yl⟩ := y
                          simp only at hyn
                          subst hyn
                          clear hsc hcg hm1 hok hy
                          go_wp2_with (first | (go_at_call 25; refine ((unhide HAT) _ _ (unhide EV)).mono ?_; rintro e w10 ⟨ya, yc, rfl, _, hv⟩; have E10 := hide hv; simp only [entV, TokM.cells]; clear hv))
                          go_roundg (100 - (i + 1))
                          case measure => have := unhide HI; omega
                          case rel => exact ⟨i + 1, (C ++ [entA i nnm [attX]]), by go_num, by have := unhide HI; omega, by omega, (unhide HC0).1.up (by omega) (by omega), ((unhide E10).take 2).more (below_new _ _)⟩
                        · rw [if_neg hyn, alike_law (.inr rfl) hok hyn] at hsc
                          obtain ⟨j, _, hji, hjk, hjn, _, _⟩ : ∃ j : Nat, 1 ≤ j ∧ j < i + 1 ∧ keyAt ks (j : Int) = some ⟨1, 0, y.nm⟩ ∧ y.node = (j : Int) ∧ y.sp = 0 ∧ (y.tok.attrs = [] ∨ y.tok.attrs = [attX]) := hok.resolve_left (fun e => hyn (by rw [e]; rfl))
                          have HNO : Hid (∀ wx o2, Env w wx [arOb _ bA ks, liOb _ bL bA (C ++ [entA i nnm [attX]]), FO, o2] → Calls Try.prog 30 #[.pointer (some ⟨bA, 0, none⟩), .int .i64 (j : Int)] wx fun e w' => ∃ (n : NodeM) (ao : Option Addr) (m c : Nat), e = .returned (.tuple #[nodeV n (.slice ao m c), .int .i64 0]) ∧ keyN n = ⟨1, 0, y.nm⟩ ∧ Env w w' [arOb _ bA ks, liOb _ bL bA (C ++ [entA i nnm [attX]]), FO, o2]) := hide (fun wx o2 hv => env_node hv (i := 0) (bA := bA) rfl hjk)
                          obtain ⟨y0, y1, y2, t0, t1, t2, t3, t4, t5, t6, t7, yl⟩ := y
                          simp only at hjn hsc HNO
                          subst hjn
                          have hjm : ¬ (j : Int) = -1 := by omega
                          have hHC : Hid (c + 1 + (n : Int) ≤ (C.length : Int) + 1) := hide (by omega)
                          have hcz : c ≤ 400 := by omega
                          clear hcg hm1 hok hy hyn hji hjk
                          have hscT : (y2 = nnm ∧ yl.length = 1) → (scanE (entA i nnm [attX]) (C ++ [entA i nnm [attX]]) n ((n : Int), c + 1)).2 ≤ 3 := fun h => by
                            have h2 := hsc
                            rw [if_pos (by simp only [Bool.and_eq_true, decide_eq_true_eq]; exact h)] at h2
                            exact h2
                          have hscF : ¬ (y2 = nnm ∧ yl.length = 1) → (scanE (entA i nnm [attX]) (C ++ [entA i nnm [attX]]) n (e0, c)).2 ≤ 3 := fun h => by
                            have h2 := hsc
                            rw [if_neg (by simp only [Bool.and_eq_true, decide_eq_true_eq]; exact h)] at h2
                            exact h2
                          have hnz : (n : Int) ≤ 400 := by have := unhide hHC; omega
                          clear hsc
                          by_cases hnm : y2 = nnm
                          · have hbt : (y2.toList == nnm.toList) = true := by rw [hnm]; exact beq_self_eq_true _
                            by_cases hln : yl.length = 1
                            · have HS := hide (hscT ⟨hnm, hln⟩)
                              have hlz : (yl.length : Int) = 1 := by omega
                              clear hscT hscF hln hnm
                              go_wp2_with (first | (go_at_call 25; refine ((unhide HAT) _ _ (unhide EV)).mono ?_; rintro e w10 ⟨ya, yc, rfl, _, hv⟩; have E10 := hide hv; simp only [entV, TokM.cells]; clear hv) | (go_at_call 30; refine ((unhide HNO) _ _ ((unhide E10).boxed _ _)).mono ?_; rintro e w11 ⟨n, ao2, mm2, cc2, rfl, hq, hv⟩; obtain ⟨nk2, nsp2, nnm2, nav2, nda2, nsy2, npa2, nfi2, nla2, npr2, nne2, nin2, nat2⟩ := n; have E11 := hide hv; simp only [nodeV, NodeM.cells]; simp only [keyN, Key.mk.injEq] at hq; obtain ⟨rfl, rfl, rfl⟩ := hq; have z1 := cell_old w11 (.cells #[.int .i64 1, .int .i64 0, .string nnm2, .slice ao2 mm2 cc2, .string nda2, .string nsy2, .int .i64 npa2, .int .i64 nfi2, .int .i64 nla2, .int .i64 npr2, .int .i64 nne2, .int .i64 nin2] 69) (cell_of_row _ w4.heap.size 2 _ _ _ (hv.fixed (i := 2) (congrArg some hFO) (j := 0) (by omega)) : w11.cell? ⟨w4.heap.size, 2, none⟩ = some (.string nnm)); have z2 := cell_old w11 (.cells #[.int .i64 1, .int .i64 0, .string nnm2, .slice ao2 mm2 cc2, .string nda2, .string nsy2, .int .i64 npa2, .int .i64 nfi2, .int .i64 nla2, .int .i64 npr2, .int .i64 nne2, .int .i64 nin2] 69) (cell_of_row _ (w4.heap.size + 1) 8 _ _ _ (hv.fixed (i := 2) (congrArg some hFO) (j := 1) (by omega)) : w11.cell? ⟨w4.heap.size + 1, 8, none⟩ = some (.slice (some ⟨w4.heap.size + 1 + 1, 0, none⟩) 1 1)); have z3 := cell_old w11 (.cells #[.int .i64 1, .int .i64 0, .string nnm2, .slice ao2 mm2 cc2, .string nda2, .string nsy2, .int .i64 npa2, .int .i64 nfi2, .int .i64 nla2, .int .i64 npr2, .int .i64 nne2, .int .i64 nin2] 69) (cell_of_row _ w10.heap.size 9 _ _ _ (hv.block (i := 3) rfl) : w11.cell? ⟨w10.heap.size, 9, none⟩ = some (.slice ya yl.length yc)); clear hv))
                              go_roundg n
                              case measure => omega
                              case rel => exact ⟨c + 1, n, by go_num, by go_num, by omega, by have := unhide hHC; omega, unhide HS, ((unhide E11).take 3).more (below_new _ _)⟩
                            · have HS := hide (hscF (fun h => hln h.2))
                              have hlz : ¬ (yl.length : Int) = 1 := by omega
                              clear hscT hscF hln hnm
                              go_wp2_with (first | (go_at_call 25; refine ((unhide HAT) _ _ (unhide EV)).mono ?_; rintro e w10 ⟨ya, yc, rfl, _, hv⟩; have E10 := hide hv; simp only [entV, TokM.cells]; clear hv) | (go_at_call 30; refine ((unhide HNO) _ _ ((unhide E10).boxed _ _)).mono ?_; rintro e w11 ⟨n, ao2, mm2, cc2, rfl, hq, hv⟩; obtain ⟨nk2, nsp2, nnm2, nav2, nda2, nsy2, npa2, nfi2, nla2, npr2, nne2, nin2, nat2⟩ := n; have E11 := hide hv; simp only [nodeV, NodeM.cells]; simp only [keyN, Key.mk.injEq] at hq; obtain ⟨rfl, rfl, rfl⟩ := hq; have z1 := cell_old w11 (.cells #[.int .i64 1, .int .i64 0, .string nnm2, .slice ao2 mm2 cc2, .string nda2, .string nsy2, .int .i64 npa2, .int .i64 nfi2, .int .i64 nla2, .int .i64 npr2, .int .i64 nne2, .int .i64 nin2] 69) (cell_of_row _ w4.heap.size 2 _ _ _ (hv.fixed (i := 2) (congrArg some hFO) (j := 0) (by omega)) : w11.cell? ⟨w4.heap.size, 2, none⟩ = some (.string nnm)); have z2 := cell_old w11 (.cells #[.int .i64 1, .int .i64 0, .string nnm2, .slice ao2 mm2 cc2, .string nda2, .string nsy2, .int .i64 npa2, .int .i64 nfi2, .int .i64 nla2, .int .i64 npr2, .int .i64 nne2, .int .i64 nin2] 69) (cell_of_row _ (w4.heap.size + 1) 8 _ _ _ (hv.fixed (i := 2) (congrArg some hFO) (j := 1) (by omega)) : w11.cell? ⟨w4.heap.size + 1, 8, none⟩ = some (.slice (some ⟨w4.heap.size + 1 + 1, 0, none⟩) 1 1)); have z3 := cell_old w11 (.cells #[.int .i64 1, .int .i64 0, .string nnm2, .slice ao2 mm2 cc2, .string nda2, .string nsy2, .int .i64 npa2, .int .i64 nfi2, .int .i64 nla2, .int .i64 npr2, .int .i64 nne2, .int .i64 nin2] 69) (cell_of_row _ w10.heap.size 9 _ _ _ (hv.block (i := 3) rfl) : w11.cell? ⟨w10.heap.size, 9, none⟩ = some (.slice ya yl.length yc)); clear hv))
                              go_roundg n
                              case measure => omega
                              case rel => exact ⟨c, e0, by go_num, rfl, by omega, by have := unhide hHC; omega, unhide HS, ((unhide E11).take 3).more (below_new _ _)⟩
                          · have HS := hide (hscF (fun h => hnm h.1))
                            have hbn : (y2.toList == nnm.toList) = false := beq_eq_false_iff_ne.2 (fun h => hnm (bytes_ext h))
                            clear hscT hscF hnm
                            go_wp2_with (first | (go_at_call 25; refine ((unhide HAT) _ _ (unhide EV)).mono ?_; rintro e w10 ⟨ya, yc, rfl, _, hv⟩; have E10 := hide hv; simp only [entV, TokM.cells]; clear hv) | (go_at_call 30; refine ((unhide HNO) _ _ ((unhide E10).boxed _ _)).mono ?_; rintro e w11 ⟨n, ao2, mm2, cc2, rfl, hq, hv⟩; obtain ⟨nk2, nsp2, nnm2, nav2, nda2, nsy2, npa2, nfi2, nla2, npr2, nne2, nin2, nat2⟩ := n; have E11 := hide hv; simp only [nodeV, NodeM.cells]; simp only [keyN, Key.mk.injEq] at hq; obtain ⟨rfl, rfl, rfl⟩ := hq; have z1 := cell_old w11 (.cells #[.int .i64 1, .int .i64 0, .string nnm2, .slice ao2 mm2 cc2, .string nda2, .string nsy2, .int .i64 npa2, .int .i64 nfi2, .int .i64 nla2, .int .i64 npr2, .int .i64 nne2, .int .i64 nin2] 69) (cell_of_row _ w4.heap.size 2 _ _ _ (hv.fixed (i := 2) (congrArg some hFO) (j := 0) (by omega)) : w11.cell? ⟨w4.heap.size, 2, none⟩ = some (.string nnm)); have z2 := cell_old w11 (.cells #[.int .i64 1, .int .i64 0, .string nnm2, .slice ao2 mm2 cc2, .string nda2, .string nsy2, .int .i64 npa2, .int .i64 nfi2, .int .i64 nla2, .int .i64 npr2, .int .i64 nne2, .int .i64 nin2] 69) (cell_of_row _ (w4.heap.size + 1) 8 _ _ _ (hv.fixed (i := 2) (congrArg some hFO) (j := 1) (by omega)) : w11.cell? ⟨w4.heap.size + 1, 8, none⟩ = some (.slice (some ⟨w4.heap.size + 1 + 1, 0, none⟩) 1 1)); have z3 := cell_old w11 (.cells #[.int .i64 1, .int .i64 0, .string nnm2, .slice ao2 mm2 cc2, .string nda2, .string nsy2, .int .i64 npa2, .int .i64 nfi2, .int .i64 nla2, .int .i64 npr2, .int .i64 nne2, .int .i64 nin2] 69) (cell_of_row _ w10.heap.size 9 _ _ _ (hv.block (i := 3) rfl) : w11.cell? ⟨w10.heap.size, 9, none⟩ = some (.slice ya yl.length yc)); clear hv))
                            go_roundg n
                            case measure => omega
                            case rel => exact ⟨c, e0, by go_num, rfl, by omega, by have := unhide hHC; omega, unhide HS, ((unhide E11).take 3).more (below_new _ _)⟩
              · have hlmz : ¬ (i : Int) < (lm.length : Int) := by omega
                clear hlm
                as_aux_lemma =>
                  obtain ⟨he0, C, hpu, hark2, hpl, hla, hsc⟩ := ark_push (unhide HK) (unhide HI).2.1 (unhide HKEY) (l := [attX]) (.inr rfl)
                  have HC0 := hide (And.intro hark2 hsc)
                  have HP : Hid (∀ wx o at0 cp0, Env w wx [arOb _ bA ks, liOb _ bL bA es, o] → AttrsIn wx at0 [attX] → Calls Try.prog 32 #[.pointer (some ⟨bL, 0, none⟩), .int .i64 (i : Int), .agg #[.int .i64 1, .string qn, .string ⟨#[]⟩, .string ⟨#[]⟩, .int .i64 0, .bool false, .int .i32 0, .bool false, .slice at0 1 cp0]] wx fun e w' => e = .returned (.int .i64 0) ∧ Env w w' [arOb _ bA ks, liOb _ bL bA (C ++ [entA i qn [attX]]), o]) := hide (fun wx o at0 cp0 hv hat => by
                    have h := env_lpush hv (i := 0) (j := 1) (bA := bA) (bL := bL) (es := es) rfl rfl (by have := ((unhide HK)).len; omega) (i : Int) (tokA qn [attX]) at0 cp0 hat (by simp [tokA])
                    rw [he0, hpu] at h
                    exact h)
                  have HF : Hid (∀ wx o, Env w wx [arOb _ bA ks, liOb _ bL bA (C ++ [entA i qn [attX]]), o] → Calls Try.prog 23 #[.pointer (some ⟨bL, 0, none⟩), .int .i64 (i : Int)] wx fun e w' => e = .returned (.int .i64 C.length) ∧ Env w w' [arOb _ bA ks, liOb _ bL bA (C ++ [entA i qn [attX]]), o]) := hide (fun wx o hv => by
                    have h := env_lfind hv (j := 1) (bA := bA) (bL := bL) (es := (C ++ [entA i qn [attX]])) rfl (by have := (unhide HC0).1.len; omega) (i : Int)
                    rw [hpl] at h
                    exact h)
                  have HLE : Hid (∀ wx o, Env w wx [arOb _ bA ks, liOb _ bL bA (C ++ [entA i qn [attX]]), o] → Calls Try.prog 22 #[.pointer (some ⟨bL, 0, none⟩)] wx fun e w' => e = .returned (.int .i64 ((C.length : Int) + 1)) ∧ wx = w') := hide (fun wx o hv => by
                    have h := env_llen hv (j := 1) (bA := bA) (bL := bL) (es := (C ++ [entA i qn [attX]])) rfl
                    rw [List.length_append] at h
                    exact h)
                  have HLA : Hid (∀ wx o, Env w wx [arOb _ bA ks, liOb _ bL bA (C ++ [entA i qn [attX]]), o] → Calls Try.prog 33 #[.pointer (some ⟨bL, 0, none⟩), .string qn] wx fun e w' => e = .returned (.int .i64 i) ∧ Env w w' [arOb _ bA ks, liOb _ bL bA (C ++ [entA i qn [attX]]), o]) := hide (fun wx o hv => by
                    have h := env_llast hv (j := 1) (bA := bA) (bL := bL) (es := (C ++ [entA i qn [attX]])) rfl (by have := (unhide HC0).1.len; omega) qn
                    rw [List.length_append] at h
                    rw [show (C.length + [entA i qn [attX]].length) = C.length + 1 from rfl, hla] at h
                    exact h)
                  have hcl : (C.length : Int) ≤ 300 := by have h1 := (unhide HC0).1.len; have h2 := (unhide HI).2.2; rw [List.length_append] at h1; simp at h1; omega
                  have hcl0 : (0 : Int) ≤ (C.length : Int) := by omega
                  clear he0 hpu hark2 hpl hla hsc
                  go_wp2_with (first | (go_at_call 29; refine ((unhide HLN) _ (unhide HV)).mono ?_; rintro e w3 ⟨rfl, rfl⟩) | (go_at_call 30; refine ((unhide HN) _ (unhide HV)).mono ?_; rintro e w4 ⟨n, ao, mm, cc, rfl, hq, hv⟩; obtain ⟨nk, nsp, nnm, nav, nda, nsy, npa, nfi, nla, npr, nne, nin, nat⟩ := n; have E4 := hide hv; simp only [nodeV, NodeM.cells]; simp only [keyN, Key.mk.injEq] at hq; obtain ⟨rfl, rfl, rfl⟩ := hq; have qt : ((w4.alloc (.cells #[.int .i64 1, .int .i64 0, .string nnm, .slice ao mm cc, .string nda, .string nsy, .int .i64 npa, .int .i64 nfi, .int .i64 nla, .int .i64 npr, .int .i64 nne, .int .i64 nin] 69)).alloc (.cells #[.int .i64 1, .string nnm, .string ⟨#[]⟩, .string ⟨#[]⟩, .int .i64 0, .bool false, .int .i32 0, .bool false, .slice none 0 0] 52)).cell? ⟨bt, ot + i, none⟩ = some (.int .u8 zt) := (unhide HZT) _ (hv.bel.trans ((below_two w4 (.cells #[.int .i64 1, .int .i64 0, .string nnm, .slice ao mm cc, .string nda, .string nsy, .int .i64 npa, .int .i64 nfi, .int .i64 nla, .int .i64 npr, .int .i64 nne, .int .i64 nin] 69) (.cells #[.int .i64 1, .string nnm, .string ⟨#[]⟩, .string ⟨#[]⟩, .int .i64 0, .bool false, .int .i32 0, .bool false, .slice none 0 0] 52)).mono hv.bel.size)); clear hv) | (go_at_call 32; have hv5 := (show Env w _ [arOb _ bA ks, liOb _ bL bA es, (fixOb _ w4.heap.size 3 (fun j => if j = 0 then (.cells #[.int .i64 1, .int .i64 0, .string nnm, .slice ao mm cc, .string nda, .string nsy, .int .i64 npa, .int .i64 nfi, .int .i64 nla, .int .i64 npr, .int .i64 nne, .int .i64 nin] 69) else if j = 1 then (.cells #[.int .i64 1, .string nnm, .string ⟨#[]⟩, .string ⟨#[]⟩, .int .i64 0, .bool false, .int .i32 0, .bool false, (.slice (some ⟨w4.heap.size + 1 + 1, 0, none⟩) 1 1)] 52) else (.cells #[.int .i64 0, .string ⟨#[]⟩, .string ⟨#[120]⟩, .string ⟨#[49]⟩] 73)))] from (env_fix (unhide E4) (three_below _ _ _ _) 3 _ (three_fix _ _ _ _))); refine ((unhide HP) _ (fixOb _ w4.heap.size 3 (fun j => if j = 0 then (.cells #[.int .i64 1, .int .i64 0, .string nnm, .slice ao mm cc, .string nda, .string nsy, .int .i64 npa, .int .i64 nfi, .int .i64 nla, .int .i64 npr, .int .i64 nne, .int .i64 nin] 69) else if j = 1 then (.cells #[.int .i64 1, .string nnm, .string ⟨#[]⟩, .string ⟨#[]⟩, .int .i64 0, .bool false, .int .i32 0, .bool false, (.slice (some ⟨w4.heap.size + 1 + 1, 0, none⟩) 1 1)] 52) else (.cells #[.int .i64 0, .string ⟨#[]⟩, .string ⟨#[120]⟩, .string ⟨#[49]⟩] 73))) _ _ hv5 (attr_in _ _ (hv5.fixed (i := 2) rfl (j := 2) (by omega)))).mono ?_; clear hv5; rintro e w5 ⟨rfl, hv⟩; have E5 := hide hv; have n2 : w5.cell? ⟨w4.heap.size, 2, none⟩ = some (.string nnm) := (cell_of_row _ _ 2 _ _ _ (hv.fixed (i := 2) rfl (j := 0) (by omega))); have t8 : w5.cell? ⟨w4.heap.size + 1, 8, none⟩ = some (.slice (some ⟨w4.heap.size + 1 + 1, 0, none⟩) 1 1) := (cell_of_row _ _ 8 _ _ _ (hv.fixed (i := 2) rfl (j := 1) (by omega))); clear hv) | (go_at_call 23; refine ((unhide HF) _ _ (unhide E5)).mono ?_; rintro e w6 ⟨rfl, hv⟩; have E6 := hide hv; have n3 : w6.cell? ⟨w4.heap.size, 2, none⟩ = some (.string nnm) := (cell_of_row _ _ 2 _ _ _ (hv.fixed (i := 2) rfl (j := 0) (by omega))); clear hv) | (go_at_call 22; refine ((unhide HLE) _ _ (by first | exact unhide E7 | exact unhide E6)).mono ?_; rintro e w8 ⟨rfl, rfl⟩) | (go_at_call 33; refine ((unhide HLA) _ _ (unhide E6)).mono ?_; rintro e w7 ⟨rfl, hv⟩; have E7 := hide hv; have n4 : w7.cell? ⟨w4.heap.size, 2, none⟩ = some (.string nnm) := (cell_of_row _ _ 2 _ _ _ (hv.fixed (i := 2) rfl (j := 0) (by omega))); have t4 : w7.cell? ⟨w4.heap.size + 1, 8, none⟩ = some (.slice (some ⟨w4.heap.size + 1 + 1, 0, none⟩) 1 1) := (cell_of_row _ _ 8 _ _ _ (hv.fixed (i := 2) rfl (j := 1) (by omega))); clear hv))
                  obtain ⟨FO, hFO⟩ : ∃ FO, FO = (fixOb w.heap.size w4.heap.size 3 (fun j => if j = 0 then (.cells #[.int .i64 1, .int .i64 0, .string nnm, .slice ao mm cc, .string nda, .string nsy, .int .i64 npa, .int .i64 nfi, .int .i64 nla, .int .i64 npr, .int .i64 nne, .int .i64 nin] 69) else if j = 1 then (.cells #[.int .i64 1, .string nnm, .string ⟨#[]⟩, .string ⟨#[]⟩, .int .i64 0, .bool false, .int .i32 0, .bool false, (.slice (some ⟨w4.heap.size + 1 + 1, 0, none⟩) 1 1)] 52) else (.cells #[.int .i64 0, .string ⟨#[]⟩, .string ⟨#[120]⟩, .string ⟨#[49]⟩] 73))) := ⟨_, rfl⟩
                  rw [← hFO] at E7
                  have HFO : Hid ((entA i nnm [attX]) = (entA i nnm [attX])) := hide rfl
                  clear HFO
                  go_loopg [15, 16, 17, 18, 19, 20] (C.length + 1) (fun g s15 s16 _ _ _ _ wr2 => ∃ (c e : Int), s16 = .int .i64 ((g : Int) - 1) ∧ s15 = .int .i64 c ∧ 0 ≤ c ∧ c + (g : Int) ≤ (C.length : Int) + 1 ∧ (scanE (entA i nnm [attX]) (C ++ [entA i nnm [attX]]) g (e, c)).2 ≤ 3 ∧ Env w wr2 [arOb _ bA ks, liOb _ bL bA (C ++ [entA i nnm [attX]]), FO])
                  case atStart => exact ⟨0, 0, by go_num, rfl, by omega, by omega, (unhide HC0).2, unhide E7⟩
                  case round =>
                    obtain ⟨c, e0, rfl, rfl, hc0, hcg, hsc, hv⟩ := hrel
                    have EV := hide hv
                    clear hv
                    cases gk with
                    | zero =>
                      have hc3 : c ≤ 3 := hsc
                      have hm1 : ((0 : Nat) : Int) - 1 = -1 := by omega
                      rw [hm1]
                      clear hm1 hsc hcg
                      go_wp2
                      go_roundg (100 - (i + 1))
                      case measure => have := unhide HI; omega
                      case rel => exact ⟨i + 1, (C ++ [entA i nnm [attX]]), by go_num, by have := unhide HI; omega, by omega, (unhide HC0).1.up (by omega) (by omega), (unhide EV).take 2⟩
                    | succ n =>
                      have hm1 : ((n + 1 : Nat) : Int) - 1 = (n : Int) := by omega
                      rw [hm1]
                      have hn0 : (0 : Int) ≤ (n : Int) := by omega
                      obtain ⟨y, hy⟩ : ∃ y, (C ++ [entA i nnm [attX]])[n]? = some y := ⟨_, List.getElem?_eq_getElem (by rw [List.length_append]; simp; omega)⟩
                      have hok := ark_at (unhide HC0).1 hy
                      have HAT : Hid (∀ wx o, Env w wx [arOb _ bA ks, liOb _ bL bA (C ++ [entA i nnm [attX]]), o] → Calls Try.prog 25 #[.pointer (some ⟨bL, 0, none⟩), .int .i64 (n : Int)] wx fun e w' => ∃ ao ac, e = .returned (.tuple #[entV y (.slice ao y.tok.attrs.length ac), .int .i64 0]) ∧ AtrS w' wx.heap.size ao y.tok.attrs ∧ Env w w' [arOb _ bA ks, liOb _ bL bA (C ++ [entA i nnm [attX]]), o]) := hide (fun wx o hv => env_lat hv (j := 1) (bL := bL) (bA := bA) (es := (C ++ [entA i nnm [attX]])) rfl n hy)
                      rw [scanE, hy] at hsc
                      simp only at hsc
                      by_cases hyn : y.node = -1
                      · rw [if_pos hyn] at hsc
                        have hc3 : c ≤ 3 := hsc
                        obtain ⟨y0, y1, y2, t0, t1, t2, t3, t4, t5, t6, t7, yl⟩ := y
                        simp only at hyn
                        subst hyn
                        clear hsc hcg hm1 hok hy
                        go_wp2_with (first | (go_at_call 25; refine ((unhide HAT) _ _ (unhide EV)).mono ?_; rintro e w10 ⟨ya, yc, rfl, _, hv⟩; have E10 := hide hv; simp only [entV, TokM.cells]; clear hv))
                        go_roundg (100 - (i + 1))
                        case measure => have := unhide HI; omega
                        case rel => exact ⟨i + 1, (C ++ [entA i nnm [attX]]), by go_num, by have := unhide HI; omega, by omega, (unhide HC0).1.up (by omega) (by omega), ((unhide E10).take 2).more (below_new _ _)⟩
                      · rw [if_neg hyn, alike_law (.inr rfl) hok hyn] at hsc
                        obtain ⟨j, _, hji, hjk, hjn, _, _⟩ : ∃ j : Nat, 1 ≤ j ∧ j < i + 1 ∧ keyAt ks (j : Int) = some ⟨1, 0, y.nm⟩ ∧ y.node = (j : Int) ∧ y.sp = 0 ∧ (y.tok.attrs = [] ∨ y.tok.attrs = [attX]) := hok.resolve_left (fun e => hyn (by rw [e]; rfl))
                        have HNO : Hid (∀ wx o2, Env w wx [arOb _ bA ks, liOb _ bL bA (C ++ [entA i nnm [attX]]), FO, o2] → Calls Try.prog 30 #[.pointer (some ⟨bA, 0, none⟩), .int .i64 (j : Int)] wx fun e w' => ∃ (n : NodeM) (ao : Option Addr) (m c : Nat), e = .returned (.tuple #[nodeV n (.slice ao m c), .int .i64 0]) ∧ keyN n = ⟨1, 0, y.nm⟩ ∧ Env w w' [arOb _ bA ks, liOb _ bL bA (C ++ [entA i nnm [attX]]), FO, o2]) := hide (fun wx o2 hv => env_node hv (i := 0) (bA := bA) rfl hjk)
                        obtain ⟨y0, y1, y2, t0, t1, t2, t3, t4, t5, t6, t7, yl⟩ := y
                        simp only at hjn hsc HNO
                        subst hjn
                        have hjm : ¬ (j : Int) = -1 := by omega
                        have hHC : Hid (c + 1 + (n : Int) ≤ (C.length : Int) + 1) := hide (by omega)
                        have hcz : c ≤ 400 := by omega
                        clear hcg hm1 hok hy hyn hji hjk
                        have hscT : (y2 = nnm ∧ yl.length = 1) → (scanE (entA i nnm [attX]) (C ++ [entA i nnm [attX]]) n ((n : Int), c + 1)).2 ≤ 3 := fun h => by
                          have h2 := hsc
                          rw [if_pos (by simp only [Bool.and_eq_true, decide_eq_true_eq]; exact h)] at h2
                          exact h2
                        have hscF : ¬ (y2 = nnm ∧ yl.length = 1) → (scanE (entA i nnm [attX]) (C ++ [entA i nnm [attX]]) n (e0, c)).2 ≤ 3 := fun h => by
                          have h2 := hsc
                          rw [if_neg (by simp only [Bool.and_eq_true, decide_eq_true_eq]; exact h)] at h2
                          exact h2
                        have hnz : (n : Int) ≤ 400 := by have := unhide hHC; omega
                        clear hsc
                        by_cases hnm : y2 = nnm
                        · have hbt : (y2.toList == nnm.toList) = true := by rw [hnm]; exact beq_self_eq_true _
                          by_cases hln : yl.length = 1
                          · have HS := hide (hscT ⟨hnm, hln⟩)
                            have hlz : (yl.length : Int) = 1 := by omega
                            clear hscT hscF hln hnm
                            go_wp2_with (first | (go_at_call 25; refine ((unhide HAT) _ _ (unhide EV)).mono ?_; rintro e w10 ⟨ya, yc, rfl, _, hv⟩; have E10 := hide hv; simp only [entV, TokM.cells]; clear hv) | (go_at_call 30; refine ((unhide HNO) _ _ ((unhide E10).boxed _ _)).mono ?_; rintro e w11 ⟨n, ao2, mm2, cc2, rfl, hq, hv⟩; obtain ⟨nk2, nsp2, nnm2, nav2, nda2, nsy2, npa2, nfi2, nla2, npr2, nne2, nin2, nat2⟩ := n; have E11 := hide hv; simp only [nodeV, NodeM.cells]; simp only [keyN, Key.mk.injEq] at hq; obtain ⟨rfl, rfl, rfl⟩ := hq; have z1 := cell_old w11 (.cells #[.int .i64 1, .int .i64 0, .string nnm2, .slice ao2 mm2 cc2, .string nda2, .string nsy2, .int .i64 npa2, .int .i64 nfi2, .int .i64 nla2, .int .i64 npr2, .int .i64 nne2, .int .i64 nin2] 69) (cell_of_row _ w4.heap.size 2 _ _ _ (hv.fixed (i := 2) (congrArg some hFO) (j := 0) (by omega)) : w11.cell? ⟨w4.heap.size, 2, none⟩ = some (.string nnm)); have z2 := cell_old w11 (.cells #[.int .i64 1, .int .i64 0, .string nnm2, .slice ao2 mm2 cc2, .string nda2, .string nsy2, .int .i64 npa2, .int .i64 nfi2, .int .i64 nla2, .int .i64 npr2, .int .i64 nne2, .int .i64 nin2] 69) (cell_of_row _ (w4.heap.size + 1) 8 _ _ _ (hv.fixed (i := 2) (congrArg some hFO) (j := 1) (by omega)) : w11.cell? ⟨w4.heap.size + 1, 8, none⟩ = some (.slice (some ⟨w4.heap.size + 1 + 1, 0, none⟩) 1 1)); have z3 := cell_old w11 (.cells #[.int .i64 1, .int .i64 0, .string nnm2, .slice ao2 mm2 cc2, .string nda2, .string nsy2, .int .i64 npa2, .int .i64 nfi2, .int .i64 nla2, .int .i64 npr2, .int .i64 nne2, .int .i64 nin2] 69) (cell_of_row _ w10.heap.size 9 _ _ _ (hv.block (i := 3) rfl) : w11.cell? ⟨w10.heap.size, 9, none⟩ = some (.slice ya yl.length yc)); clear hv))
                            go_roundg n
                            case measure => omega
                            case rel => exact ⟨c + 1, n, by go_num, by go_num, by omega, by have := unhide hHC; omega, unhide HS, ((unhide E11).take 3).more (below_new _ _)⟩
                          · have HS := hide (hscF (fun h => hln h.2))
                            have hlz : ¬ (yl.length : Int) = 1 := by omega
                            clear hscT hscF hln hnm
                            go_wp2_with (first | (go_at_call 25; refine ((unhide HAT) _ _ (unhide EV)).mono ?_; rintro e w10 ⟨ya, yc, rfl, _, hv⟩; have E10 := hide hv; simp only [entV, TokM.cells]; clear hv) | (go_at_call 30; refine ((unhide HNO) _ _ ((unhide E10).boxed _ _)).mono ?_; rintro e w11 ⟨n, ao2, mm2, cc2, rfl, hq, hv⟩; obtain ⟨nk2, nsp2, nnm2, nav2, nda2, nsy2, npa2, nfi2, nla2, npr2, nne2, nin2, nat2⟩ := n; have E11 := hide hv; simp only [nodeV, NodeM.cells]; simp only [keyN, Key.mk.injEq] at hq; obtain ⟨rfl, rfl, rfl⟩ := hq; have z1 := cell_old w11 (.cells #[.int .i64 1, .int .i64 0, .string nnm2, .slice ao2 mm2 cc2, .string nda2, .string nsy2, .int .i64 npa2, .int .i64 nfi2, .int .i64 nla2, .int .i64 npr2, .int .i64 nne2, .int .i64 nin2] 69) (cell_of_row _ w4.heap.size 2 _ _ _ (hv.fixed (i := 2) (congrArg some hFO) (j := 0) (by omega)) : w11.cell? ⟨w4.heap.size, 2, none⟩ = some (.string nnm)); have z2 := cell_old w11 (.cells #[.int .i64 1, .int .i64 0, .string nnm2, .slice ao2 mm2 cc2, .string nda2, .string nsy2, .int .i64 npa2, .int .i64 nfi2, .int .i64 nla2, .int .i64 npr2, .int .i64 nne2, .int .i64 nin2] 69) (cell_of_row _ (w4.heap.size + 1) 8 _ _ _ (hv.fixed (i := 2) (congrArg some hFO) (j := 1) (by omega)) : w11.cell? ⟨w4.heap.size + 1, 8, none⟩ = some (.slice (some ⟨w4.heap.size + 1 + 1, 0, none⟩) 1 1)); have z3 := cell_old w11 (.cells #[.int .i64 1, .int .i64 0, .string nnm2, .slice ao2 mm2 cc2, .string nda2, .string nsy2, .int .i64 npa2, .int .i64 nfi2, .int .i64 nla2, .int .i64 npr2, .int .i64 nne2, .int .i64 nin2] 69) (cell_of_row _ w10.heap.size 9 _ _ _ (hv.block (i := 3) rfl) : w11.cell? ⟨w10.heap.size, 9, none⟩ = some (.slice ya yl.length yc)); clear hv))
                            go_roundg n
                            case measure => omega
                            case rel => exact ⟨c, e0, by go_num, rfl, by omega, by have := unhide hHC; omega, unhide HS, ((unhide E11).take 3).more (below_new _ _)⟩
                        · have HS := hide (hscF (fun h => hnm h.1))
                          have hbn : (y2.toList == nnm.toList) = false := beq_eq_false_iff_ne.2 (fun h => hnm (bytes_ext h))
                          clear hscT hscF hnm
                          go_wp2_with (first | (go_at_call 25; refine ((unhide HAT) _ _ (unhide EV)).mono ?_; rintro e w10 ⟨ya, yc, rfl, _, hv⟩; have E10 := hide hv; simp only [entV, TokM.cells]; clear hv) | (go_at_call 30; refine ((unhide HNO) _ _ ((unhide E10).boxed _ _)).mono ?_; rintro e w11 ⟨n, ao2, mm2, cc2, rfl, hq, hv⟩; obtain ⟨nk2, nsp2, nnm2, nav2, nda2, nsy2, npa2, nfi2, nla2, npr2, nne2, nin2, nat2⟩ := n; have E11 := hide hv; simp only [nodeV, NodeM.cells]; simp only [keyN, Key.mk.injEq] at hq; obtain ⟨rfl, rfl, rfl⟩ := hq; have z1 := cell_old w11 (.cells #[.int .i64 1, .int .i64 0, .string nnm2, .slice ao2 mm2 cc2, .string nda2, .string nsy2, .int .i64 npa2, .int .i64 nfi2, .int .i64 nla2, .int .i64 npr2, .int .i64 nne2, .int .i64 nin2] 69) (cell_of_row _ w4.heap.size 2 _ _ _ (hv.fixed (i := 2) (congrArg some hFO) (j := 0) (by omega)) : w11.cell? ⟨w4.heap.size, 2, none⟩ = some (.string nnm)); have z2 := cell_old w11 (.cells #[.int .i64 1, .int .i64 0, .string nnm2, .slice ao2 mm2 cc2, .string nda2, .string nsy2, .int .i64 npa2, .int .i64 nfi2, .int .i64 nla2, .int .i64 npr2, .int .i64 nne2, .int .i64 nin2] 69) (cell_of_row _ (w4.heap.size + 1) 8 _ _ _ (hv.fixed (i := 2) (congrArg some hFO) (j := 1) (by omega)) : w11.cell? ⟨w4.heap.size + 1, 8, none⟩ = some (.slice (some ⟨w4.heap.size + 1 + 1, 0, none⟩) 1 1)); have z3 := cell_old w11 (.cells #[.int .i64 1, .int .i64 0, .string nnm2, .slice ao2 mm2 cc2, .string nda2, .string nsy2, .int .i64 npa2, .int .i64 nfi2, .int .i64 nla2, .int .i64 npr2, .int .i64 nne2, .int .i64 nin2] 69) (cell_of_row _ w10.heap.size 9 _ _ _ (hv.block (i := 3) rfl) : w11.cell? ⟨w10.heap.size, 9, none⟩ = some (.slice ya yl.length yc)); clear hv))
                          go_roundg n
                          case measure => omega
                          case rel => exact ⟨c, e0, by go_num, rfl, by omega, by have := unhide hHC; omega, unhide HS, ((unhide E11).take 3).more (below_new _ _)⟩
            · clear hzt hlt
              by_cases hlm : i < lm.length
              · have hlmz : (i : Int) < (lm.length : Int) := by omega
                obtain ⟨zm, hzm⟩ : ∃ z, lm[i]? = some z := ⟨_, List.getElem?_eq_getElem hlm⟩
                obtain ⟨bm, om, rfl, _⟩ := (unhide HIM).cells i zm hzm
                have HZM : Hid (∀ wx, Below w.heap.size w wx → wx.cell? ⟨bm, om + i, none⟩ = some (.int .u8 zm)) := hide (fun wx hb => by
                  obtain ⟨b2, o2, e, c0⟩ := ((unhide HIM).below hb).cells i zm hzm
                  cases e
                  exact c0)
                generalize lm.length = LM at *
                by_cases hz5 : zm.tmod 5 = 0
                · clear hzm hlm
                  as_aux_lemma =>
                    obtain ⟨he0, C, hpu, hark2, hpl, hla, hsc⟩ := ark_push (unhide HK).mark (unhide HI).2.1 (unhide HKEY) (l := []) (.inl rfl)
                    have HC0 := hide (And.intro hark2 hsc)
                    have HMK : Hid (∀ wx o, Env w wx [arOb _ bA ks, liOb _ bL bA es, o] → Calls Try.prog 31 #[.pointer (some ⟨bL, 0, none⟩)] wx fun e w' => e = .returned (.int .i64 0) ∧ Env w w' [arOb _ bA ks, liOb _ bL bA (es ++ [mark0]), o]) := hide (fun wx o hv => env_lmark hv (j := 1) (bA := bA) (bL := bL) (es := es) rfl (by have := (unhide HK).len; omega))
                    have HP : Hid (∀ wx o at0 cp0, Env w wx [arOb _ bA ks, liOb _ bL bA (es ++ [mark0]), o] → AttrsIn wx at0 [] → Calls Try.prog 32 #[.pointer (some ⟨bL, 0, none⟩), .int .i64 (i : Int), .agg #[.int .i64 1, .string qn, .string ⟨#[]⟩, .string ⟨#[]⟩, .int .i64 0, .bool false, .int .i32 0, .bool false, .slice at0 0 cp0]] wx fun e w' => e = .returned (.int .i64 0) ∧ Env w w' [arOb _ bA ks, liOb _ bL bA (C ++ [entA i qn []]), o]) := hide (fun wx o at0 cp0 hv hat => by
                      have h := env_lpush hv (i := 0) (j := 1) (bA := bA) (bL := bL) (es := (es ++ [mark0])) rfl rfl (by have := ((unhide HK).mark).len; omega) (i : Int) (tokA qn []) at0 cp0 hat (by simp [tokA])
                      rw [he0, hpu] at h
                      exact h)
                    have HF : Hid (∀ wx o, Env w wx [arOb _ bA ks, liOb _ bL bA (C ++ [entA i qn []]), o] → Calls Try.prog 23 #[.pointer (some ⟨bL, 0, none⟩), .int .i64 (i : Int)] wx fun e w' => e = .returned (.int .i64 C.length) ∧ Env w w' [arOb _ bA ks, liOb _ bL bA (C ++ [entA i qn []]), o]) := hide (fun wx o hv => by
                      have h := env_lfind hv (j := 1) (bA := bA) (bL := bL) (es := (C ++ [entA i qn []])) rfl (by have := (unhide HC0).1.len; omega) (i : Int)
                      rw [hpl] at h
                      exact h)
                    have HLE : Hid (∀ wx o, Env w wx [arOb _ bA ks, liOb _ bL bA (C ++ [entA i qn []]), o] → Calls Try.prog 22 #[.pointer (some ⟨bL, 0, none⟩)] wx fun e w' => e = .returned (.int .i64 ((C.length : Int) + 1)) ∧ wx = w') := hide (fun wx o hv => by
                      have h := env_llen hv (j := 1) (bA := bA) (bL := bL) (es := (C ++ [entA i qn []])) rfl
                      rw [List.length_append] at h
                      exact h)
                    have HLA : Hid (∀ wx o, Env w wx [arOb _ bA ks, liOb _ bL bA (C ++ [entA i qn []]), o] → Calls Try.prog 33 #[.pointer (some ⟨bL, 0, none⟩), .string qn] wx fun e w' => e = .returned (.int .i64 i) ∧ Env w w' [arOb _ bA ks, liOb _ bL bA (C ++ [entA i qn []]), o]) := hide (fun wx o hv => by
                      have h := env_llast hv (j := 1) (bA := bA) (bL := bL) (es := (C ++ [entA i qn []])) rfl (by have := (unhide HC0).1.len; omega) qn
                      rw [List.length_append] at h
                      rw [show (C.length + [entA i qn []].length) = C.length + 1 from rfl, hla] at h
                      exact h)
                    have hcl : (C.length : Int) ≤ 300 := by have h1 := (unhide HC0).1.len; have h2 := (unhide HI).2.2; rw [List.length_append] at h1; simp at h1; omega
                    have hcl0 : (0 : Int) ≤ (C.length : Int) := by omega
                    clear he0 hpu hark2 hpl hla hsc
                    go_wp2_with (first | (go_at_call 29; refine ((unhide HLN) _ (unhide HV)).mono ?_; rintro e w3 ⟨rfl, rfl⟩) | (go_at_call 30; refine ((unhide HN) _ (unhide HV)).mono ?_; rintro e w4 ⟨n, ao, mm, cc, rfl, hq, hv⟩; obtain ⟨nk, nsp, nnm, nav, nda, nsy, npa, nfi, nla, npr, nne, nin, nat⟩ := n; have E4 := hide hv; simp only [nodeV, NodeM.cells]; simp only [keyN, Key.mk.injEq] at hq; obtain ⟨rfl, rfl, rfl⟩ := hq; have qt : ((w4.alloc (.cells #[.int .i64 1, .int .i64 0, .string nnm, .slice ao mm cc, .string nda, .string nsy, .int .i64 npa, .int .i64 nfi, .int .i64 nla, .int .i64 npr, .int .i64 nne, .int .i64 nin] 69)).alloc (.cells #[.int .i64 1, .string nnm, .string ⟨#[]⟩, .string ⟨#[]⟩, .int .i64 0, .bool false, .int .i32 0, .bool false, .slice none 0 0] 52)).cell? ⟨bt, ot + i, none⟩ = some (.int .u8 zt) := (unhide HZT) _ (hv.bel.trans ((below_two w4 (.cells #[.int .i64 1, .int .i64 0, .string nnm, .slice ao mm cc, .string nda, .string nsy, .int .i64 npa, .int .i64 nfi, .int .i64 nla, .int .i64 npr, .int .i64 nne, .int .i64 nin] 69) (.cells #[.int .i64 1, .string nnm, .string ⟨#[]⟩, .string ⟨#[]⟩, .int .i64 0, .bool false, .int .i32 0, .bool false, .slice none 0 0] 52)).mono hv.bel.size)); have qm : ((w4.alloc (.cells #[.int .i64 1, .int .i64 0, .string nnm, .slice ao mm cc, .string nda, .string nsy, .int .i64 npa, .int .i64 nfi, .int .i64 nla, .int .i64 npr, .int .i64 nne, .int .i64 nin] 69)).alloc (.cells #[.int .i64 1, .string nnm, .string ⟨#[]⟩, .string ⟨#[]⟩, .int .i64 0, .bool false, .int .i32 0, .bool false, .slice none 0 0] 52)).cell? ⟨bm, om + i, none⟩ = some (.int .u8 zm) := (unhide HZM) _ (hv.bel.trans ((below_two w4 (.cells #[.int .i64 1, .int .i64 0, .string nnm, .slice ao mm cc, .string nda, .string nsy, .int .i64 npa, .int .i64 nfi, .int .i64 nla, .int .i64 npr, .int .i64 nne, .int .i64 nin] 69) (.cells #[.int .i64 1, .string nnm, .string ⟨#[]⟩, .string ⟨#[]⟩, .int .i64 0, .bool false, .int .i32 0, .bool false, .slice none 0 0] 52)).mono hv.bel.size)); clear hv) | (go_at_call 31; refine ((unhide HMK) _ (fixOb _ w4.heap.size 2 (fun j => if j = 0 then (.cells #[.int .i64 1, .int .i64 0, .string nnm, .slice ao mm cc, .string nda, .string nsy, .int .i64 npa, .int .i64 nfi, .int .i64 nla, .int .i64 npr, .int .i64 nne, .int .i64 nin] 69) else (.cells #[.int .i64 1, .string nnm, .string ⟨#[]⟩, .string ⟨#[]⟩, .int .i64 0, .bool false, .int .i32 0, .bool false, .slice none 0 0] 52))) (env_fix (unhide E4) (below_two _ _ _) 2 _ (two_fix _ _ _))).mono ?_; rintro e w9 ⟨rfl, hv⟩; have E9 := hide hv; have tt0 : w9.cell? ⟨w4.heap.size + 1, 0, none⟩ = some (.int .i64 1) := (cell_of_row _ _ 0 _ _ _ (hv.fixed (i := 2) rfl (j := 1) (by omega))); have tt1 : w9.cell? ⟨w4.heap.size + 1, 1, none⟩ = some (.string nnm) := (cell_of_row _ _ 1 _ _ _ (hv.fixed (i := 2) rfl (j := 1) (by omega))); have tt2 : w9.cell? ⟨w4.heap.size + 1, 2, none⟩ = some (.string ⟨#[]⟩) := (cell_of_row _ _ 2 _ _ _ (hv.fixed (i := 2) rfl (j := 1) (by omega))); have tt3 : w9.cell? ⟨w4.heap.size + 1, 3, none⟩ = some (.string ⟨#[]⟩) := (cell_of_row _ _ 3 _ _ _ (hv.fixed (i := 2) rfl (j := 1) (by omega))); have tt4 : w9.cell? ⟨w4.heap.size + 1, 4, none⟩ = some (.int .i64 0) := (cell_of_row _ _ 4 _ _ _ (hv.fixed (i := 2) rfl (j := 1) (by omega))); have tt5 : w9.cell? ⟨w4.heap.size + 1, 5, none⟩ = some (.bool false) := (cell_of_row _ _ 5 _ _ _ (hv.fixed (i := 2) rfl (j := 1) (by omega))); have tt6 : w9.cell? ⟨w4.heap.size + 1, 6, none⟩ = some (.int .i32 0) := (cell_of_row _ _ 6 _ _ _ (hv.fixed (i := 2) rfl (j := 1) (by omega))); have tt7 : w9.cell? ⟨w4.heap.size + 1, 7, none⟩ = some (.bool false) := (cell_of_row _ _ 7 _ _ _ (hv.fixed (i := 2) rfl (j := 1) (by omega))); have tt8 : w9.cell? ⟨w4.heap.size + 1, 8, none⟩ = some ((.slice none 0 0)) := (cell_of_row _ _ 8 _ _ _ (hv.fixed (i := 2) rfl (j := 1) (by omega))); clear hv) | (go_at_call 32; have hv5 := (show Env w _ [arOb _ bA ks, liOb _ bL bA (es ++ [mark0]), (fixOb _ w4.heap.size 2 (fun j => if j = 0 then (.cells #[.int .i64 1, .int .i64 0, .string nnm, .slice ao mm cc, .string nda, .string nsy, .int .i64 npa, .int .i64 nfi, .int .i64 nla, .int .i64 npr, .int .i64 nne, .int .i64 nin] 69) else (.cells #[.int .i64 1, .string nnm, .string ⟨#[]⟩, .string ⟨#[]⟩, .int .i64 0, .bool false, .int .i32 0, .bool false, .slice none 0 0] 52)))] from (unhide E9)); refine ((unhide HP) _ (fixOb _ w4.heap.size 2 (fun j => if j = 0 then (.cells #[.int .i64 1, .int .i64 0, .string nnm, .slice ao mm cc, .string nda, .string nsy, .int .i64 npa, .int .i64 nfi, .int .i64 nla, .int .i64 npr, .int .i64 nne, .int .i64 nin] 69) else (.cells #[.int .i64 1, .string nnm, .string ⟨#[]⟩, .string ⟨#[]⟩, .int .i64 0, .bool false, .int .i32 0, .bool false, .slice none 0 0] 52))) _ _ hv5 (attrs_none _)).mono ?_; clear hv5; rintro e w5 ⟨rfl, hv⟩; have E5 := hide hv; have n2 : w5.cell? ⟨w4.heap.size, 2, none⟩ = some (.string nnm) := (cell_of_row _ _ 2 _ _ _ (hv.fixed (i := 2) rfl (j := 0) (by omega))); have t8 : w5.cell? ⟨w4.heap.size + 1, 8, none⟩ = some (.slice none 0 0) := (cell_of_row _ _ 8 _ _ _ (hv.fixed (i := 2) rfl (j := 1) (by omega))); clear hv) | (go_at_call 23; refine ((unhide HF) _ _ (unhide E5)).mono ?_; rintro e w6 ⟨rfl, hv⟩; have E6 := hide hv; have n3 : w6.cell? ⟨w4.heap.size, 2, none⟩ = some (.string nnm) := (cell_of_row _ _ 2 _ _ _ (hv.fixed (i := 2) rfl (j := 0) (by omega))); clear hv) | (go_at_call 22; refine ((unhide HLE) _ _ (by first | exact unhide E7 | exact unhide E6)).mono ?_; rintro e w8 ⟨rfl, rfl⟩) | (go_at_call 33; refine ((unhide HLA) _ _ (unhide E6)).mono ?_; rintro e w7 ⟨rfl, hv⟩; have E7 := hide hv; have n4 : w7.cell? ⟨w4.heap.size, 2, none⟩ = some (.string nnm) := (cell_of_row _ _ 2 _ _ _ (hv.fixed (i := 2) rfl (j := 0) (by omega))); have t4 : w7.cell? ⟨w4.heap.size + 1, 8, none⟩ = some (.slice none 0 0) := (cell_of_row _ _ 8 _ _ _ (hv.fixed (i := 2) rfl (j := 1) (by omega))); clear hv))
                    obtain ⟨FO, hFO⟩ : ∃ FO, FO = (fixOb w.heap.size w4.heap.size 2 (fun j => if j = 0 then (.cells #[.int .i64 1, .int .i64 0, .string nnm, .slice ao mm cc, .string nda, .string nsy, .int .i64 npa, .int .i64 nfi, .int .i64 nla, .int .i64 npr, .int .i64 nne, .int .i64 nin] 69) else (.cells #[.int .i64 1, .string nnm, .string ⟨#[]⟩, .string ⟨#[]⟩, .int .i64 0, .bool false, .int .i32 0, .bool false, .slice none 0 0] 52))) := ⟨_, rfl⟩
                    rw [← hFO] at E7
                    have HFO : Hid ((entA i nnm []) = (entA i nnm [])) := hide rfl
                    clear HFO
                    go_loopg [15, 16, 17, 18, 19, 20] (C.length + 1) (fun g s15 s16 _ _ _ _ wr2 => ∃ (c e : Int), s16 = .int .i64 ((g : Int) - 1) ∧ s15 = .int .i64 c ∧ 0 ≤ c ∧ c + (g : Int) ≤ (C.length : Int) + 1 ∧ (scanE (entA i nnm []) (C ++ [entA i nnm []]) g (e, c)).2 ≤ 3 ∧ Env w wr2 [arOb _ bA ks, liOb _ bL bA (C ++ [entA i nnm []]), FO])
                    case atStart => exact ⟨0, 0, by go_num, rfl, by omega, by omega, (unhide HC0).2, unhide E7⟩
                    case round =>
                      obtain ⟨c, e0, rfl, rfl, hc0, hcg, hsc, hv⟩ := hrel
                      have EV := hide hv
                      clear hv
                      cases gk with
                      | zero =>
                        have hc3 : c ≤ 3 := hsc
                        have hm1 : ((0 : Nat) : Int) - 1 = -1 := by omega
                        rw [hm1]
                        clear hm1 hsc hcg
                        go_wp2
                        go_roundg (100 - (i + 1))
                        case measure => have := unhide HI; omega
                        case rel => exact ⟨i + 1, (C ++ [entA i nnm []]), by go_num, by have := unhide HI; omega, by omega, (unhide HC0).1.up (by omega) (by omega), (unhide EV).take 2⟩
                      | succ n =>
                        have hm1 : ((n + 1 : Nat) : Int) - 1 = (n : Int) := by omega
                        rw [hm1]
                        have hn0 : (0 : Int) ≤ (n : Int) := by omega
                        obtain ⟨y, hy⟩ : ∃ y, (C ++ [entA i nnm []])[n]? = some y := ⟨_, List.getElem?_eq_getElem (by rw [List.length_append]; simp; omega)⟩
                        have hok := ark_at (unhide HC0).1 hy
                        have HAT : Hid (∀ wx o, Env w wx [arOb _ bA ks, liOb _ bL bA (C ++ [entA i nnm []]), o] → Calls Try.prog 25 #[.pointer (some ⟨bL, 0, none⟩), .int .i64 (n : Int)] wx fun e w' => ∃ ao ac, e = .returned (.tuple #[entV y (.slice ao y.tok.attrs.length ac), .int .i64 0]) ∧ AtrS w' wx.heap.size ao y.tok.attrs ∧ Env w w' [arOb _ bA ks, liOb _ bL bA (C ++ [entA i nnm []]), o]) := hide (fun wx o hv => env_lat hv (j := 1) (bL := bL) (bA := bA) (es := (C ++ [entA i nnm []])) rfl n hy)
                        rw [scanE, hy] at hsc
                        simp only at hsc
                        by_cases hyn : y.node = -1
                        · rw [if_pos hyn] at hsc
                          have hc3 : c ≤ 3 := hsc
                          obtain ⟨y0, y1, y2, t0, t1, t2, t3, t4, t5, t6, t7, yl⟩ := y
                          simp only at hyn
                          subst hyn
                          clear hsc hcg hm1 hok hy
                          go_wp2_with (first | (go_at_call 25; refine ((unhide HAT) _ _ (unhide EV)).mono ?_; rintro e w10 ⟨ya, yc, rfl, _, hv⟩; have E10 := hide hv; simp only [entV, TokM.cells]; clear hv))
                          go_roundg (100 - (i + 1))
                          case measure => have := unhide HI; omega
                          case rel => exact ⟨i + 1, (C ++ [entA i nnm []]), by go_num, by have := unhide HI; omega, by omega, (unhide HC0).1.up (by omega) (by omega), ((unhide E10).take 2).more (below_new _ _)⟩
                        · rw [if_neg hyn, alike_law (.inl rfl) hok hyn] at hsc
                          obtain ⟨j, _, hji, hjk, hjn, _, _⟩ : ∃ j : Nat, 1 ≤ j ∧ j < i + 1 ∧ keyAt ks (j : Int) = some ⟨1, 0, y.nm⟩ ∧ y.node = (j : Int) ∧ y.sp = 0 ∧ (y.tok.attrs = [] ∨ y.tok.attrs = [attX]) := hok.resolve_left (fun e => hyn (by rw [e]; rfl))
                          have HNO : Hid (∀ wx o2, Env w wx [arOb _ bA ks, liOb _ bL bA (C ++ [entA i nnm []]), FO, o2] → Calls Try.prog 30 #[.pointer (some ⟨bA, 0, none⟩), .int .i64 (j : Int)] wx fun e w' => ∃ (n : NodeM) (ao : Option Addr) (m c : Nat), e = .returned (.tuple #[nodeV n (.slice ao m c), .int .i64 0]) ∧ keyN n = ⟨1, 0, y.nm⟩ ∧ Env w w' [arOb _ bA ks, liOb _ bL bA (C ++ [entA i nnm []]), FO, o2]) := hide (fun wx o2 hv => env_node hv (i := 0) (bA := bA) rfl hjk)
                          obtain ⟨y0, y1, y2, t0, t1, t2, t3, t4, t5, t6, t7, yl⟩ := y
                          simp only at hjn hsc HNO
                          subst hjn
                          have hjm : ¬ (j : Int) = -1 := by omega
                          have hHC : Hid (c + 1 + (n : Int) ≤ (C.length : Int) + 1) := hide (by omega)
                          have hcz : c ≤ 400 := by omega
                          clear hcg hm1 hok hy hyn hji hjk
                          have hscT : (y2 = nnm ∧ yl.length = 0) → (scanE (entA i nnm []) (C ++ [entA i nnm []]) n ((n : Int), c + 1)).2 ≤ 3 := fun h => by
                            have h2 := hsc
                            rw [if_pos (by simp only [Bool.and_eq_true, decide_eq_true_eq]; exact h)] at h2
                            exact h2
                          have hscF : ¬ (y2 = nnm ∧ yl.length = 0) → (scanE (entA i nnm []) (C ++ [entA i nnm []]) n (e0, c)).2 ≤ 3 := fun h => by
                            have h2 := hsc
                            rw [if_neg (by simp only [Bool.and_eq_true, decide_eq_true_eq]; exact h)] at h2
                            exact h2
                          have hnz : (n : Int) ≤ 400 := by have := unhide hHC; omega
                          clear hsc
                          by_cases hnm : y2 = nnm
                          · have hbt : (y2.toList == nnm.toList) = true := by rw [hnm]; exact beq_self_eq_true _
                            by_cases hln : yl.length = 0
                            · have HS := hide (hscT ⟨hnm, hln⟩)
                              have hlz : (yl.length : Int) = 0 := by omega
                              clear hscT hscF hln hnm
                              go_wp2_with (first | (go_at_call 25; refine ((unhide HAT) _ _ (unhide EV)).mono ?_; rintro e w10 ⟨ya, yc, rfl, _, hv⟩; have E10 := hide hv; simp only [entV, TokM.cells]; clear hv) | (go_at_call 30; refine ((unhide HNO) _ _ ((unhide E10).boxed _ _)).mono ?_; rintro e w11 ⟨n, ao2, mm2, cc2, rfl, hq, hv⟩; obtain ⟨nk2, nsp2, nnm2, nav2, nda2, nsy2, npa2, nfi2, nla2, npr2, nne2, nin2, nat2⟩ := n; have E11 := hide hv; simp only [nodeV, NodeM.cells]; simp only [keyN, Key.mk.injEq] at hq; obtain ⟨rfl, rfl, rfl⟩ := hq; have z1 := cell_old w11 (.cells #[.int .i64 1, .int .i64 0, .string nnm2, .slice ao2 mm2 cc2, .string nda2, .string nsy2, .int .i64 npa2, .int .i64 nfi2, .int .i64 nla2, .int .i64 npr2, .int .i64 nne2, .int .i64 nin2] 69) (cell_of_row _ w4.heap.size 2 _ _ _ (hv.fixed (i := 2) (congrArg some hFO) (j := 0) (by omega)) : w11.cell? ⟨w4.heap.size, 2, none⟩ = some (.string nnm)); have z2 := cell_old w11 (.cells #[.int .i64 1, .int .i64 0, .string nnm2, .slice ao2 mm2 cc2, .string nda2, .string nsy2, .int .i64 npa2, .int .i64 nfi2, .int .i64 nla2, .int .i64 npr2, .int .i64 nne2, .int .i64 nin2] 69) (cell_of_row _ (w4.heap.size + 1) 8 _ _ _ (hv.fixed (i := 2) (congrArg some hFO) (j := 1) (by omega)) : w11.cell? ⟨w4.heap.size + 1, 8, none⟩ = some (.slice none 0 0)); have z3 := cell_old w11 (.cells #[.int .i64 1, .int .i64 0, .string nnm2, .slice ao2 mm2 cc2, .string nda2, .string nsy2, .int .i64 npa2, .int .i64 nfi2, .int .i64 nla2, .int .i64 npr2, .int .i64 nne2, .int .i64 nin2] 69) (cell_of_row _ w10.heap.size 9 _ _ _ (hv.block (i := 3) rfl) : w11.cell? ⟨w10.heap.size, 9, none⟩ = some (.slice ya yl.length yc)); clear hv))
                              go_roundg n
                              case measure => omega
                              case rel => exact ⟨c + 1, n, by go_num, by go_num, by omega, by have := unhide hHC; omega, unhide HS, ((unhide E11).take 3).more (below_new _ _)⟩
                            · have HS := hide (hscF (fun h => hln h.2))
                              have hlz : ¬ (yl.length : Int) = 0 := by omega
                              clear hscT hscF hln hnm
                              go_wp2_with (first | (go_at_call 25; refine ((unhide HAT) _ _ (unhide EV)).mono ?_; rintro e w10 ⟨ya, yc, rfl, _, hv⟩; have E10 := hide hv; simp only [entV, TokM.cells]; clear hv) | (go_at_call 30; refine ((unhide HNO) _ _ ((unhide E10).boxed _ _)).mono ?_; rintro e w11 ⟨n, ao2, mm2, cc2, rfl, hq, hv⟩; obtain ⟨nk2, nsp2, nnm2, nav2, nda2, nsy2, npa2, nfi2, nla2, npr2, nne2, nin2, nat2⟩ := n; have E11 := hide hv; simp only [nodeV, NodeM.cells]; simp only [keyN, Key.mk.injEq] at hq; obtain ⟨rfl, rfl, rfl⟩ := hq; have z1 := cell_old w11 (.cells #[.int .i64 1, .int .i64 0, .string nnm2, .slice ao2 mm2 cc2, .string nda2, .string nsy2, .int .i64 npa2, .int .i64 nfi2, .int .i64 nla2, .int .i64 npr2, .int .i64 nne2, .int .i64 nin2] 69) (cell_of_row _ w4.heap.size 2 _ _ _ (hv.fixed (i := 2) (congrArg some hFO) (j := 0) (by omega)) : w11.cell? ⟨w4.heap.size, 2, none⟩ = some (.string nnm)); have z2 := cell_old w11 (.cells #[.int .i64 1, .int .i64 0, .string nnm2, .slice ao2 mm2 cc2, .string nda2, .string nsy2, .int .i64 npa2, .int .i64 nfi2, .int .i64 nla2, .int .i64 npr2, .int .i64 nne2, .int .i64 nin2] 69) (cell_of_row _ (w4.heap.size + 1) 8 _ _ _ (hv.fixed (i := 2) (congrArg some hFO) (j := 1) (by omega)) : w11.cell? ⟨w4.heap.size + 1, 8, none⟩ = some (.slice none 0 0)); have z3 := cell_old w11 (.cells #[.int .i64 1, .int .i64 0, .string nnm2, .slice ao2 mm2 cc2, .string nda2, .string nsy2, .int .i64 npa2, .int .i64 nfi2, .int .i64 nla2, .int .i64 npr2, .int .i64 nne2, .int .i64 nin2] 69) (cell_of_row _ w10.heap.size 9 _ _ _ (hv.block (i := 3) rfl) : w11.cell? ⟨w10.heap.size, 9, none⟩ = some (.slice ya yl.length yc)); clear hv))
                              go_roundg n
                              case measure => omega
                              case rel => exact ⟨c, e0, by go_num, rfl, by omega, by have := unhide hHC; omega, unhide HS, ((unhide E11).take 3).more (below_new _ _)⟩
                          · have HS := hide (hscF (fun h => hnm h.1))
                            have hbn : (y2.toList == nnm.toList) = false := beq_eq_false_iff_ne.2 (fun h => hnm (bytes_ext h))
                            clear hscT hscF hnm
                            go_wp2_with (first | (go_at_call 25; refine ((unhide HAT) _ _ (unhide EV)).mono ?_; rintro e w10 ⟨ya, yc, rfl, _, hv⟩; have E10 := hide hv; simp only [entV, TokM.cells]; clear hv) | (go_at_call 30; refine ((unhide HNO) _ _ ((unhide E10).boxed _ _)).mono ?_; rintro e w11 ⟨n, ao2, mm2, cc2, rfl, hq, hv⟩; obtain ⟨nk2, nsp2, nnm2, nav2, nda2, nsy2, npa2, nfi2, nla2, npr2, nne2, nin2, nat2⟩ := n; have E11 := hide hv; simp only [nodeV, NodeM.cells]; simp only [keyN, Key.mk.injEq] at hq; obtain ⟨rfl, rfl, rfl⟩ := hq; have z1 := cell_old w11 (.cells #[.int .i64 1, .int .i64 0, .string nnm2, .slice ao2 mm2 cc2, .string nda2, .string nsy2, .int .i64 npa2, .int .i64 nfi2, .int .i64 nla2, .int .i64 npr2, .int .i64 nne2, .int .i64 nin2] 69) (cell_of_row _ w4.heap.size 2 _ _ _ (hv.fixed (i := 2) (congrArg some hFO) (j := 0) (by omega)) : w11.cell? ⟨w4.heap.size, 2, none⟩ = some (.string nnm)); have z2 := cell_old w11 (.cells #[.int .i64 1, .int .i64 0, .string nnm2, .slice ao2 mm2 cc2, .string nda2, .string nsy2, .int .i64 npa2, .int .i64 nfi2, .int .i64 nla2, .int .i64 npr2, .int .i64 nne2, .int .i64 nin2] 69) (cell_of_row _ (w4.heap.size + 1) 8 _ _ _ (hv.fixed (i := 2) (congrArg some hFO) (j := 1) (by omega)) : w11.cell? ⟨w4.heap.size + 1, 8, none⟩ = some (.slice none 0 0)); have z3 := cell_old w11 (.cells #[.int .i64 1, .int .i64 0, .string nnm2, .slice ao2 mm2 cc2, .string nda2, .string nsy2, .int .i64 npa2, .int .i64 nfi2, .int .i64 nla2, .int .i64 npr2, .int .i64 nne2, .int .i64 nin2] 69) (cell_of_row _ w10.heap.size 9 _ _ _ (hv.block (i := 3) rfl) : w11.cell? ⟨w10.heap.size, 9, none⟩ = some (.slice ya yl.length yc)); clear hv))
                            go_roundg n
                            case measure => omega
                            case rel => exact ⟨c, e0, by go_num, rfl, by omega, by have := unhide hHC; omega, unhide HS, ((unhide E11).take 3).more (below_new _ _)⟩
                · clear hzm hlm
                  as_aux_lemma =>
                    obtain ⟨he0, C, hpu, hark2, hpl, hla, hsc⟩ := ark_push (unhide HK) (unhide HI).2.1 (unhide HKEY) (l := []) (.inl rfl)
                    have HC0 := hide (And.intro hark2 hsc)
                    have HP : Hid (∀ wx o at0 cp0, Env w wx [arOb _ bA ks, liOb _ bL bA es, o] → AttrsIn wx at0 [] → Calls Try.prog 32 #[.pointer (some ⟨bL, 0, none⟩), .int .i64 (i : Int), .agg #[.int .i64 1, .string qn, .string ⟨#[]⟩, .string ⟨#[]⟩, .int .i64 0, .bool false, .int .i32 0, .bool false, .slice at0 0 cp0]] wx fun e w' => e = .returned (.int .i64 0) ∧ Env w w' [arOb _ bA ks, liOb _ bL bA (C ++ [entA i qn []]), o]) := hide (fun wx o at0 cp0 hv hat => by
                      have h := env_lpush hv (i := 0) (j := 1) (bA := bA) (bL := bL) (es := es) rfl rfl (by have := ((unhide HK)).len; omega) (i : Int) (tokA qn []) at0 cp0 hat (by simp [tokA])
                      rw [he0, hpu] at h
                      exact h)
                    have HF : Hid (∀ wx o, Env w wx [arOb _ bA ks, liOb _ bL bA (C ++ [entA i qn []]), o] → Calls Try.prog 23 #[.pointer (some ⟨bL, 0, none⟩), .int .i64 (i : Int)] wx fun e w' => e = .returned (.int .i64 C.length) ∧ Env w w' [arOb _ bA ks, liOb _ bL bA (C ++ [entA i qn []]), o]) := hide (fun wx o hv => by
                      have h := env_lfind hv (j := 1) (bA := bA) (bL := bL) (es := (C ++ [entA i qn []])) rfl (by have := (unhide HC0).1.len; omega) (i : Int)
                      rw [hpl] at h
                      exact h)
                    have HLE : Hid (∀ wx o, Env w wx [arOb _ bA ks, liOb _ bL bA (C ++ [entA i qn []]), o] → Calls Try.prog 22 #[.pointer (some ⟨bL, 0, none⟩)] wx fun e w' => e = .returned (.int .i64 ((C.length : Int) + 1)) ∧ wx = w') := hide (fun wx o hv => by
                      have h := env_llen hv (j := 1) (bA := bA) (bL := bL) (es := (C ++ [entA i qn []])) rfl
                      rw [List.length_append] at h
                      exact h)
                    have HLA : Hid (∀ wx o, Env w wx [arOb _ bA ks, liOb _ bL bA (C ++ [entA i qn []]), o] → Calls Try.prog 33 #[.pointer (some ⟨bL, 0, none⟩), .string qn] wx fun e w' => e = .returned (.int .i64 i) ∧ Env w w' [arOb _ bA ks, liOb _ bL bA (C ++ [entA i qn []]), o]) := hide (fun wx o hv => by
                      have h := env_llast hv (j := 1) (bA := bA) (bL := bL) (es := (C ++ [entA i qn []])) rfl (by have := (unhide HC0).1.len; omega) qn
                      rw [List.length_append] at h
                      rw [show (C.length + [entA i qn []].length) = C.length + 1 from rfl, hla] at h
                      exact h)
                    have hcl : (C.length : Int) ≤ 300 := by have h1 := (unhide HC0).1.len; have h2 := (unhide HI).2.2; rw [List.length_append] at h1; simp at h1; omega
                    have hcl0 : (0 : Int) ≤ (C.length : Int) := by omega
                    clear he0 hpu hark2 hpl hla hsc
                    go_wp2_with (first | (go_at_call 29; refine ((unhide HLN) _ (unhide HV)).mono ?_; rintro e w3 ⟨rfl, rfl⟩) | (go_at_call 30; refine ((unhide HN) _ (unhide HV)).mono ?_; rintro e w4 ⟨n, ao, mm, cc, rfl, hq, hv⟩; obtain ⟨nk, nsp, nnm, nav, nda, nsy, npa, nfi, nla, npr, nne, nin, nat⟩ := n; have E4 := hide hv; simp only [nodeV, NodeM.cells]; simp only [keyN, Key.mk.injEq] at hq; obtain ⟨rfl, rfl, rfl⟩ := hq; have qt : ((w4.alloc (.cells #[.int .i64 1, .int .i64 0, .string nnm, .slice ao mm cc, .string nda, .string nsy, .int .i64 npa, .int .i64 nfi, .int .i64 nla, .int .i64 npr, .int .i64 nne, .int .i64 nin] 69)).alloc (.cells #[.int .i64 1, .string nnm, .string ⟨#[]⟩, .string ⟨#[]⟩, .int .i64 0, .bool false, .int .i32 0, .bool false, .slice none 0 0] 52)).cell? ⟨bt, ot + i, none⟩ = some (.int .u8 zt) := (unhide HZT) _ (hv.bel.trans ((below_two w4 (.cells #[.int .i64 1, .int .i64 0, .string nnm, .slice ao mm cc, .string nda, .string nsy, .int .i64 npa, .int .i64 nfi, .int .i64 nla, .int .i64 npr, .int .i64 nne, .int .i64 nin] 69) (.cells #[.int .i64 1, .string nnm, .string ⟨#[]⟩, .string ⟨#[]⟩, .int .i64 0, .bool false, .int .i32 0, .bool false, .slice none 0 0] 52)).mono hv.bel.size)); have qm : ((w4.alloc (.cells #[.int .i64 1, .int .i64 0, .string nnm, .slice ao mm cc, .string nda, .string nsy, .int .i64 npa, .int .i64 nfi, .int .i64 nla, .int .i64 npr, .int .i64 nne, .int .i64 nin] 69)).alloc (.cells #[.int .i64 1, .string nnm, .string ⟨#[]⟩, .string ⟨#[]⟩, .int .i64 0, .bool false, .int .i32 0, .bool false, .slice none 0 0] 52)).cell? ⟨bm, om + i, none⟩ = some (.int .u8 zm) := (unhide HZM) _ (hv.bel.trans ((below_two w4 (.cells #[.int .i64 1, .int .i64 0, .string nnm, .slice ao mm cc, .string nda, .string nsy, .int .i64 npa, .int .i64 nfi, .int .i64 nla, .int .i64 npr, .int .i64 nne, .int .i64 nin] 69) (.cells #[.int .i64 1, .string nnm, .string ⟨#[]⟩, .string ⟨#[]⟩, .int .i64 0, .bool false, .int .i32 0, .bool false, .slice none 0 0] 52)).mono hv.bel.size)); clear hv) | (go_at_call 32; have hv5 := (show Env w _ [arOb _ bA ks, liOb _ bL bA es, (fixOb _ w4.heap.size 2 (fun j => if j = 0 then (.cells #[.int .i64 1, .int .i64 0, .string nnm, .slice ao mm cc, .string nda, .string nsy, .int .i64 npa, .int .i64 nfi, .int .i64 nla, .int .i64 npr, .int .i64 nne, .int .i64 nin] 69) else (.cells #[.int .i64 1, .string nnm, .string ⟨#[]⟩, .string ⟨#[]⟩, .int .i64 0, .bool false, .int .i32 0, .bool false, .slice none 0 0] 52)))] from (env_fix (unhide E4) (below_two _ _ _) 2 _ (two_fix _ _ _))); refine ((unhide HP) _ (fixOb _ w4.heap.size 2 (fun j => if j = 0 then (.cells #[.int .i64 1, .int .i64 0, .string nnm, .slice ao mm cc, .string nda, .string nsy, .int .i64 npa, .int .i64 nfi, .int .i64 nla, .int .i64 npr, .int .i64 nne, .int .i64 nin] 69) else (.cells #[.int .i64 1, .string nnm, .string ⟨#[]⟩, .string ⟨#[]⟩, .int .i64 0, .bool false, .int .i32 0, .bool false, .slice none 0 0] 52))) _ _ hv5 (attrs_none _)).mono ?_; clear hv5; rintro e w5 ⟨rfl, hv⟩; have E5 := hide hv; have n2 : w5.cell? ⟨w4.heap.size, 2, none⟩ = some (.string nnm) := (cell_of_row _ _ 2 _ _ _ (hv.fixed (i := 2) rfl (j := 0) (by omega))); have t8 : w5.cell? ⟨w4.heap.size + 1, 8, none⟩ = some (.slice none 0 0) := (cell_of_row _ _ 8 _ _ _ (hv.fixed (i := 2) rfl (j := 1) (by omega))); clear hv) | (go_at_call 23; refine ((unhide HF) _ _ (unhide E5)).mono ?_; rintro e w6 ⟨rfl, hv⟩; have E6 := hide hv; have n3 : w6.cell? ⟨w4.heap.size, 2, none⟩ = some (.string nnm) := (cell_of_row _ _ 2 _ _ _ (hv.fixed (i := 2) rfl (j := 0) (by omega))); clear hv) | (go_at_call 22; refine ((unhide HLE) _ _ (by first | exact unhide E7 | exact unhide E6)).mono ?_; rintro e w8 ⟨rfl, rfl⟩) | (go_at_call 33; refine ((unhide HLA) _ _ (unhide E6)).mono ?_; rintro e w7 ⟨rfl, hv⟩; have E7 := hide hv; have n4 : w7.cell? ⟨w4.heap.size, 2, none⟩ = some (.string nnm) := (cell_of_row _ _ 2 _ _ _ (hv.fixed (i := 2) rfl (j := 0) (by omega))); have t4 : w7.cell? ⟨w4.heap.size + 1, 8, none⟩ = some (.slice none 0 0) := (cell_of_row _ _ 8 _ _ _ (hv.fixed (i := 2) rfl (j := 1) (by omega))); clear hv))
                    obtain ⟨FO, hFO⟩ : ∃ FO, FO = (fixOb w.heap.size w4.heap.size 2 (fun j => if j = 0 then (.cells #[.int .i64 1, .int .i64 0, .string nnm, .slice ao mm cc, .string nda, .string nsy, .int .i64 npa, .int .i64 nfi, .int .i64 nla, .int .i64 npr, .int .i64 nne, .int .i64 nin] 69) else (.cells #[.int .i64 1, .string nnm, .string ⟨#[]⟩, .string ⟨#[]⟩, .int .i64 0, .bool false, .int .i32 0, .bool false, .slice none 0 0] 52))) := ⟨_, rfl⟩
                    rw [← hFO] at E7
                    have HFO : Hid ((entA i nnm []) = (entA i nnm [])) := hide rfl
                    clear HFO
                    go_loopg [15, 16, 17, 18, 19, 20] (C.length + 1) (fun g s15 s16 _ _ _ _ wr2 => ∃ (c e : Int), s16 = .int .i64 ((g : Int) - 1) ∧ s15 = .int .i64 c ∧ 0 ≤ c ∧ c + (g : Int) ≤ (C.length : Int) + 1 ∧ (scanE (entA i nnm []) (C ++ [entA i nnm []]) g (e, c)).2 ≤ 3 ∧ Env w wr2 [arOb _ bA ks, liOb _ bL bA (C ++ [entA i nnm []]), FO])
                    case atStart => exact ⟨0, 0, by go_num, rfl, by omega, by omega, (unhide HC0).2, unhide E7⟩
                    case round =>
                      obtain ⟨c, e0, rfl, rfl, hc0, hcg, hsc, hv⟩ := hrel
                      have EV := hide hv
                      clear hv
                      cases gk with
                      | zero =>
                        have hc3 : c ≤ 3 := hsc
                        have hm1 : ((0 : Nat) : Int) - 1 = -1 := by omega
                        rw [hm1]
                        clear hm1 hsc hcg
                        go_wp2
                        go_roundg (100 - (i + 1))
                        case measure => have := unhide HI; omega
                        case rel => exact ⟨i + 1, (C ++ [entA i nnm []]), by go_num, by have := unhide HI; omega, by omega, (unhide HC0).1.up (by omega) (by omega), (unhide EV).take 2⟩
                      | succ n =>
                        have hm1 : ((n + 1 : Nat) : Int) - 1 = (n : Int) := by omega
                        rw [hm1]
                        have hn0 : (0 : Int) ≤ (n : Int) := by omega
                        obtain ⟨y, hy⟩ : ∃ y, (C ++ [entA i nnm []])[n]? = some y := ⟨_, List.getElem?_eq_getElem (by rw [List.length_append]; simp; omega)⟩
                        have hok := ark_at (unhide HC0).1 hy
                        have HAT : Hid (∀ wx o, Env w wx [arOb _ bA ks, liOb _ bL bA (C ++ [entA i nnm []]), o] → Calls Try.prog 25 #[.pointer (some ⟨bL, 0, none⟩), .int .i64 (n : Int)] wx fun e w' => ∃ ao ac, e = .returned (.tuple #[entV y (.slice ao y.tok.attrs.length ac), .int .i64 0]) ∧ AtrS w' wx.heap.size ao y.tok.attrs ∧ Env w w' [arOb _ bA ks, liOb _ bL bA (C ++ [entA i nnm []]), o]) := hide (fun wx o hv => env_lat hv (j := 1) (bL := bL) (bA := bA) (es := (C ++ [entA i nnm []])) rfl n hy)
                        rw [scanE, hy] at hsc
                        simp only at hsc
                        by_cases hyn : y.node = -1
                        · rw [if_pos hyn] at hsc
                          have hc3 : c ≤ 3 := hsc
                          obtain ⟨y0, y1, y2, t0, t1, t2, t3, t4, t5, t6, t7, yl⟩ := y
                          simp only at hyn
                          subst hyn
                          clear hsc hcg hm1 hok hy
                          go_wp2_with (first | (go_at_call 25; refine ((unhide HAT) _ _ (unhide EV)).mono ?_; rintro e w10 ⟨ya, yc, rfl, _, hv⟩; have E10 := hide hv; simp only [entV, TokM.cells]; clear hv))
                          go_roundg (100 - (i + 1))
                          case measure => have := unhide HI; omega
                          case rel => exact ⟨i + 1, (C ++ [entA i nnm []]), by go_num, by have := unhide HI; omega, by omega, (unhide HC0).1.up (by omega) (by omega), ((unhide E10).take 2).more (below_new _ _)⟩
                        · rw [if_neg hyn, alike_law (.inl rfl) hok hyn] at hsc
                          obtain ⟨j, _, hji, hjk, hjn, _, _⟩ : ∃ j : Nat, 1 ≤ j ∧ j < i + 1 ∧ keyAt ks (j : Int) = some ⟨1, 0, y.nm⟩ ∧ y.node = (j : Int) ∧ y.sp = 0 ∧ (y.tok.attrs = [] ∨ y.tok.attrs = [attX]) := hok.resolve_left (fun e => hyn (by rw [e]; rfl))
                          have HNO : Hid (∀ wx o2, Env w wx [arOb _ bA ks, liOb _ bL bA (C ++ [entA i nnm []]), FO, o2] → Calls Try.prog 30 #[.pointer (some ⟨bA, 0, none⟩), .int .i64 (j : Int)] wx fun e w' => ∃ (n : NodeM) (ao : Option Addr) (m c : Nat), e = .returned (.tuple #[nodeV n (.slice ao m c), .int .i64 0]) ∧ keyN n = ⟨1, 0, y.nm⟩ ∧ Env w w' [arOb _ bA ks, liOb _ bL bA (C ++ [entA i nnm []]), FO, o2]) := hide (fun wx o2 hv => env_node hv (i := 0) (bA := bA) rfl hjk)
                          obtain ⟨y0, y1, y2, t0, t1, t2, t3, t4, t5, t6, t7, yl⟩ := y
                          simp only at hjn hsc HNO
                          subst hjn
                          have hjm : ¬ (j : Int) = -1 := by omega
                          have hHC : Hid (c + 1 + (n : Int) ≤ (C.length : Int) + 1) := hide (by omega)
                          have hcz : c ≤ 400 := by omega
                          clear hcg hm1 hok hy hyn hji hjk
                          have hscT : (y2 = nnm ∧ yl.length = 0) → (scanE (entA i nnm []) (C ++ [entA i nnm []]) n ((n : Int), c + 1)).2 ≤ 3 := fun h => by
                            have h2 := hsc
                            rw [if_pos (by simp only [Bool.and_eq_true, decide_eq_true_eq]; exact h)] at h2
                            exact h2
                          have hscF : ¬ (y2 = nnm ∧ yl.length = 0) → (scanE (entA i nnm []) (C ++ [entA i nnm []]) n (e0, c)).2 ≤ 3 := fun h => by
                            have h2 := hsc
                            rw [if_neg (by simp only [Bool.and_eq_true, decide_eq_true_eq]; exact h)] at h2
                            exact h2
                          have hnz : (n : Int) ≤ 400 := by have := unhide hHC; omega
                          clear hsc
                          by_cases hnm : y2 = nnm
                          · have hbt : (y2.toList == nnm.toList) = true := by rw [hnm]; exact beq_self_eq_true _
                            by_cases hln : yl.length = 0
                            · have HS := hide (hscT ⟨hnm, hln⟩)
                              have hlz : (yl.length : Int) = 0 := by omega
                              clear hscT hscF hln hnm
                              go_wp2_with (first | (go_at_call 25; refine ((unhide HAT) _ _ (unhide EV)).mono ?_; rintro e w10 ⟨ya, yc, rfl, _, hv⟩; have E10 := hide hv; simp only [entV, TokM.cells]; clear hv) | (go_at_call 30; refine ((unhide HNO) _ _ ((unhide E10).boxed _ _)).mono ?_; rintro e w11 ⟨n, ao2, mm2, cc2, rfl, hq, hv⟩; obtain ⟨nk2, nsp2, nnm2, nav2, nda2, nsy2, npa2, nfi2, nla2, npr2, nne2, nin2, nat2⟩ := n; have E11 := hide hv; simp only [nodeV, NodeM.cells]; simp only [keyN, Key.mk.injEq] at hq; obtain ⟨rfl, rfl, rfl⟩ := hq; have z1 := cell_old w11 (.cells #[.int .i64 1, .int .i64 0, .string nnm2, .slice ao2 mm2 cc2, .string nda2, .string nsy2, .int .i64 npa2, .int .i64 nfi2, .int .i64 nla2, .int .i64 npr2, .int .i64 nne2, .int .i64 nin2] 69) (cell_of_row _ w4.heap.size 2 _ _ _ (hv.fixed (i := 2) (congrArg some hFO) (j := 0) (by omega)) : w11.cell? ⟨w4.heap.size, 2, none⟩ = some (.string nnm)); have z2 := cell_old w11 (.cells #[.int .i64 1, .int .i64 0, .string nnm2, .slice ao2 mm2 cc2, .string nda2, .string nsy2, .int .i64 npa2, .int .i64 nfi2, .int .i64 nla2, .int .i64 npr2, .int .i64 nne2, .int .i64 nin2] 69) (cell_of_row _ (w4.heap.size + 1) 8 _ _ _ (hv.fixed (i := 2) (congrArg some hFO) (j := 1) (by omega)) : w11.cell? ⟨w4.heap.size + 1, 8, none⟩ = some (.slice none 0 0)); have z3 := cell_old w11 (.cells #[.int .i64 1, .int .i64 0, .string nnm2, .slice ao2 mm2 cc2, .string nda2, .string nsy2, .int .i64 npa2, .int .i64 nfi2, .int .i64 nla2, .int .i64 npr2, .int .i64 nne2, .int .i64 nin2] 69) (cell_of_row _ w10.heap.size 9 _ _ _ (hv.block (i := 3) rfl) : w11.cell? ⟨w10.heap.size, 9, none⟩ = some (.slice ya yl.length yc)); clear hv))
                              go_roundg n
                              case measure => omega
                              case rel => exact ⟨c + 1, n, by go_num, by go_num, by omega, by have := unhide hHC; omega, unhide HS, ((unhide E11).take 3).more (below_new _ _)⟩
                            · have HS := hide (hscF (fun h => hln h.2))
                              have hlz : ¬ (yl.length : Int) = 0 := by omega
                              clear hscT hscF hln hnm
                              go_wp2_with (first | (go_at_call 25; refine ((unhide HAT) _ _ (unhide EV)).mono ?_; rintro e w10 ⟨ya, yc, rfl, _, hv⟩; have E10 := hide hv; simp only [entV, TokM.cells]; clear hv) | (go_at_call 30; refine ((unhide HNO) _ _ ((unhide E10).boxed _ _)).mono ?_; rintro e w11 ⟨n, ao2, mm2, cc2, rfl, hq, hv⟩; obtain ⟨nk2, nsp2, nnm2, nav2, nda2, nsy2, npa2, nfi2, nla2, npr2, nne2, nin2, nat2⟩ := n; have E11 := hide hv; simp only [nodeV, NodeM.cells]; simp only [keyN, Key.mk.injEq] at hq; obtain ⟨rfl, rfl, rfl⟩ := hq; have z1 := cell_old w11 (.cells #[.int .i64 1, .int .i64 0, .string nnm2, .slice ao2 mm2 cc2, .string nda2, .string nsy2, .int .i64 npa2, .int .i64 nfi2, .int .i64 nla2, .int .i64 npr2, .int .i64 nne2, .int .i64 nin2] 69) (cell_of_row _ w4.heap.size 2 _ _ _ (hv.fixed (i := 2) (congrArg some hFO) (j := 0) (by omega)) : w11.cell? ⟨w4.heap.size, 2, none⟩ = some (.string nnm)); have z2 := cell_old w11 (.cells #[.int .i64 1, .int .i64 0, .string nnm2, .slice ao2 mm2 cc2, .string nda2, .string nsy2, .int .i64 npa2, .int .i64 nfi2, .int .i64 nla2, .int .i64 npr2, .int .i64 nne2, .int .i64 nin2] 69) (cell_of_row _ (w4.heap.size + 1) 8 _ _ _ (hv.fixed (i := 2) (congrArg some hFO) (j := 1) (by omega)) : w11.cell? ⟨w4.heap.size + 1, 8, none⟩ = some (.slice none 0 0)); have z3 := cell_old w11 (.cells #[.int .i64 1, .int .i64 0, .string nnm2, .slice ao2 mm2 cc2, .string nda2, .string nsy2, .int .i64 npa2, .int .i64 nfi2, .int .i64 nla2, .int .i64 npr2, .int .i64 nne2, .int .i64 nin2] 69) (cell_of_row _ w10.heap.size 9 _ _ _ (hv.block (i := 3) rfl) : w11.cell? ⟨w10.heap.size, 9, none⟩ = some (.slice ya yl.length yc)); clear hv))
                              go_roundg n
                              case measure => omega
                              case rel => exact ⟨c, e0, by go_num, rfl, by omega, by have := unhide hHC; omega, unhide HS, ((unhide E11).take 3).more (below_new _ _)⟩
                          · have HS := hide (hscF (fun h => hnm h.1))
                            have hbn : (y2.toList == nnm.toList) = false := beq_eq_false_iff_ne.2 (fun h => hnm (bytes_ext h))
                            clear hscT hscF hnm
                            go_wp2_with (first | (go_at_call 25; refine ((unhide HAT) _ _ (unhide EV)).mono ?_; rintro e w10 ⟨ya, yc, rfl, _, hv⟩; have E10 := hide hv; simp only [entV, TokM.cells]; clear hv) | (go_at_call 30; refine ((unhide HNO) _ _ ((unhide E10).boxed _ _)).mono ?_; rintro e w11 ⟨n, ao2, mm2, cc2, rfl, hq, hv⟩; obtain ⟨nk2, nsp2, nnm2, nav2, nda2, nsy2, npa2, nfi2, nla2, npr2, nne2, nin2, nat2⟩ := n; have E11 := hide hv; simp only [nodeV, NodeM.cells]; simp only [keyN, Key.mk.injEq] at hq; obtain ⟨rfl, rfl, rfl⟩ := hq; have z1 := cell_old w11 (.cells #[.int .i64 1, .int .i64 0, .string nnm2, .slice ao2 mm2 cc2, .string nda2, .string nsy2, .int .i64 npa2, .int .i64 nfi2, .int .i64 nla2, .int .i64 npr2, .int .i64 nne2, .int .i64 nin2] 69) (cell_of_row _ w4.heap.size 2 _ _ _ (hv.fixed (i := 2) (congrArg some hFO) (j := 0) (by omega)) : w11.cell? ⟨w4.heap.size, 2, none⟩ = some (.string nnm)); have z2 := cell_old w11 (.cells #[.int .i64 1, .int .i64 0, .string nnm2, .slice ao2 mm2 cc2, .string nda2, .string nsy2, .int .i64 npa2, .int .i64 nfi2, .int .i64 nla2, .int .i64 npr2, .int .i64 nne2, .int .i64 nin2] 69) (cell_of_row _ (w4.heap.size + 1) 8 _ _ _ (hv.fixed (i := 2) (congrArg some hFO) (j := 1) (by omega)) : w11.cell? ⟨w4.heap.size + 1, 8, none⟩ = some (.slice none 0 0)); have z3 := cell_old w11 (.cells #[.int .i64 1, .int .i64 0, .string nnm2, .slice ao2 mm2 cc2, .string nda2, .string nsy2, .int .i64 npa2, .int .i64 nfi2, .int .i64 nla2, .int .i64 npr2, .int .i64 nne2, .int .i64 nin2] 69) (cell_of_row _ w10.heap.size 9 _ _ _ (hv.block (i := 3) rfl) : w11.cell? ⟨w10.heap.size, 9, none⟩ = some (.slice ya yl.length yc)); clear hv))
                            go_roundg n
                            case measure => omega
                            case rel => exact ⟨c, e0, by go_num, rfl, by omega, by have := unhide hHC; omega, unhide HS, ((unhide E11).take 3).more (below_new _ _)⟩
              · have hlmz : ¬ (i : Int) < (lm.length : Int) := by omega
                clear hlm
                as_aux_lemma =>
                  obtain ⟨he0, C, hpu, hark2, hpl, hla, hsc⟩ := ark_push (unhide HK) (unhide HI).2.1 (unhide HKEY) (l := []) (.inl rfl)
                  have HC0 := hide (And.intro hark2 hsc)
                  have HP : Hid (∀ wx o at0 cp0, Env w wx [arOb _ bA ks, liOb _ bL bA es, o] → AttrsIn wx at0 [] → Calls Try.prog 32 #[.pointer (some ⟨bL, 0, none⟩), .int .i64 (i : Int), .agg #[.int .i64 1, .string qn, .string ⟨#[]⟩, .string ⟨#[]⟩, .int .i64 0, .bool false, .int .i32 0, .bool false, .slice at0 0 cp0]] wx fun e w' => e = .returned (.int .i64 0) ∧ Env w w' [arOb _ bA ks, liOb _ bL bA (C ++ [entA i qn []]), o]) := hide (fun wx o at0 cp0 hv hat => by
                    have h := env_lpush hv (i := 0) (j := 1) (bA := bA) (bL := bL) (es := es) rfl rfl (by have := ((unhide HK)).len; omega) (i : Int) (tokA qn []) at0 cp0 hat (by simp [tokA])
                    rw [he0, hpu] at h
                    exact h)
                  have HF : Hid (∀ wx o, Env w wx [arOb _ bA ks, liOb _ bL bA (C ++ [entA i qn []]), o] → Calls Try.prog 23 #[.pointer (some ⟨bL, 0, none⟩), .int .i64 (i : Int)] wx fun e w' => e = .returned (.int .i64 C.length) ∧ Env w w' [arOb _ bA ks, liOb _ bL bA (C ++ [entA i qn []]), o]) := hide (fun wx o hv => by
                    have h := env_lfind hv (j := 1) (bA := bA) (bL := bL) (es := (C ++ [entA i qn []])) rfl (by have := (unhide HC0).1.len; omega) (i : Int)
                    rw [hpl] at h
                    exact h)
                  have HLE : Hid (∀ wx o, Env w wx [arOb _ bA ks, liOb _ bL bA (C ++ [entA i qn []]), o] → Calls Try.prog 22 #[.pointer (some ⟨bL, 0, none⟩)] wx fun e w' => e = .returned (.int .i64 ((C.length : Int) + 1)) ∧ wx = w') := hide (fun wx o hv => by
                    have h := env_llen hv (j := 1) (bA := bA) (bL := bL) (es := (C ++ [entA i qn []])) rfl
                    rw [List.length_append] at h
                    exact h)
                  have HLA : Hid (∀ wx o, Env w wx [arOb _ bA ks, liOb _ bL bA (C ++ [entA i qn []]), o] → Calls Try.prog 33 #[.pointer (some ⟨bL, 0, none⟩), .string qn] wx fun e w' => e = .returned (.int .i64 i) ∧ Env w w' [arOb _ bA ks, liOb _ bL bA (C ++ [entA i qn []]), o]) := hide (fun wx o hv => by
                    have h := env_llast hv (j := 1) (bA := bA) (bL := bL) (es := (C ++ [entA i qn []])) rfl (by have := (unhide HC0).1.len; omega) qn
                    rw [List.length_append] at h
                    rw [show (C.length + [entA i qn []].length) = C.length + 1 from rfl, hla] at h
                    exact h)
                  have hcl : (C.length : Int) ≤ 300 := by have h1 := (unhide HC0).1.len; have h2 := (unhide HI).2.2; rw [List.length_append] at h1; simp at h1; omega
                  have hcl0 : (0 : Int) ≤ (C.length : Int) := by omega
                  clear he0 hpu hark2 hpl hla hsc
                  go_wp2_with (first | (go_at_call 29; refine ((unhide HLN) _ (unhide HV)).mono ?_; rintro e w3 ⟨rfl, rfl⟩) | (go_at_call 30; refine ((unhide HN) _ (unhide HV)).mono ?_; rintro e w4 ⟨n, ao, mm, cc, rfl, hq, hv⟩; obtain ⟨nk, nsp, nnm, nav, nda, nsy, npa, nfi, nla, npr, nne, nin, nat⟩ := n; have E4 := hide hv; simp only [nodeV, NodeM.cells]; simp only [keyN, Key.mk.injEq] at hq; obtain ⟨rfl, rfl, rfl⟩ := hq; have qt : ((w4.alloc (.cells #[.int .i64 1, .int .i64 0, .string nnm, .slice ao mm cc, .string nda, .string nsy, .int .i64 npa, .int .i64 nfi, .int .i64 nla, .int .i64 npr, .int .i64 nne, .int .i64 nin] 69)).alloc (.cells #[.int .i64 1, .string nnm, .string ⟨#[]⟩, .string ⟨#[]⟩, .int .i64 0, .bool false, .int .i32 0, .bool false, .slice none 0 0] 52)).cell? ⟨bt, ot + i, none⟩ = some (.int .u8 zt) := (unhide HZT) _ (hv.bel.trans ((below_two w4 (.cells #[.int .i64 1, .int .i64 0, .string nnm, .slice ao mm cc, .string nda, .string nsy, .int .i64 npa, .int .i64 nfi, .int .i64 nla, .int .i64 npr, .int .i64 nne, .int .i64 nin] 69) (.cells #[.int .i64 1, .string nnm, .string ⟨#[]⟩, .string ⟨#[]⟩, .int .i64 0, .bool false, .int .i32 0, .bool false, .slice none 0 0] 52)).mono hv.bel.size)); clear hv) | (go_at_call 32; have hv5 := (show Env w _ [arOb _ bA ks, liOb _ bL bA es, (fixOb _ w4.heap.size 2 (fun j => if j = 0 then (.cells #[.int .i64 1, .int .i64 0, .string nnm, .slice ao mm cc, .string nda, .string nsy, .int .i64 npa, .int .i64 nfi, .int .i64 nla, .int .i64 npr, .int .i64 nne, .int .i64 nin] 69) else (.cells #[.int .i64 1, .string nnm, .string ⟨#[]⟩, .string ⟨#[]⟩, .int .i64 0, .bool false, .int .i32 0, .bool false, .slice none 0 0] 52)))] from (env_fix (unhide E4) (below_two _ _ _) 2 _ (two_fix _ _ _))); refine ((unhide HP) _ (fixOb _ w4.heap.size 2 (fun j => if j = 0 then (.cells #[.int .i64 1, .int .i64 0, .string nnm, .slice ao mm cc, .string nda, .string nsy, .int .i64 npa, .int .i64 nfi, .int .i64 nla, .int .i64 npr, .int .i64 nne, .int .i64 nin] 69) else (.cells #[.int .i64 1, .string nnm, .string ⟨#[]⟩, .string ⟨#[]⟩, .int .i64 0, .bool false, .int .i32 0, .bool false, .slice none 0 0] 52))) _ _ hv5 (attrs_none _)).mono ?_; clear hv5; rintro e w5 ⟨rfl, hv⟩; have E5 := hide hv; have n2 : w5.cell? ⟨w4.heap.size, 2, none⟩ = some (.string nnm) := (cell_of_row _ _ 2 _ _ _ (hv.fixed (i := 2) rfl (j := 0) (by omega))); have t8 : w5.cell? ⟨w4.heap.size + 1, 8, none⟩ = some (.slice none 0 0) := (cell_of_row _ _ 8 _ _ _ (hv.fixed (i := 2) rfl (j := 1) (by omega))); clear hv) | (go_at_call 23; refine ((unhide HF) _ _ (unhide E5)).mono ?_; rintro e w6 ⟨rfl, hv⟩; have E6 := hide hv; have n3 : w6.cell? ⟨w4.heap.size, 2, none⟩ = some (.string nnm) := (cell_of_row _ _ 2 _ _ _ (hv.fixed (i := 2) rfl (j := 0) (by omega))); clear hv) | (go_at_call 22; refine ((unhide HLE) _ _ (by first | exact unhide E7 | exact unhide E6)).mono ?_; rintro e w8 ⟨rfl, rfl⟩) | (go_at_call 33; refine ((unhide HLA) _ _ (unhide E6)).mono ?_; rintro e w7 ⟨rfl, hv⟩; have E7 := hide hv; have n4 : w7.cell? ⟨w4.heap.size, 2, none⟩ = some (.string nnm) := (cell_of_row _ _ 2 _ _ _ (hv.fixed (i := 2) rfl (j := 0) (by omega))); have t4 : w7.cell? ⟨w4.heap.size + 1, 8, none⟩ = some (.slice none 0 0) := (cell_of_row _ _ 8 _ _ _ (hv.fixed (i := 2) rfl (j := 1) (by omega))); clear hv))
                  obtain ⟨FO, hFO⟩ : ∃ FO, FO = (fixOb w.heap.size w4.heap.size 2 (fun j => if j = 0 then (.cells #[.int .i64 1, .int .i64 0, .string nnm, .slice ao mm cc, .string nda, .string nsy, .int .i64 npa, .int .i64 nfi, .int .i64 nla, .int .i64 npr, .int .i64 nne, .int .i64 nin] 69) else (.cells #[.int .i64 1, .string nnm, .string ⟨#[]⟩, .string ⟨#[]⟩, .int .i64 0, .bool false, .int .i32 0, .bool false, .slice none 0 0] 52))) := ⟨_, rfl⟩
                  rw [← hFO] at E7
                  have HFO : Hid ((entA i nnm []) = (entA i nnm [])) := hide rfl
                  clear HFO
                  go_loopg [15, 16, 17, 18, 19, 20] (C.length + 1) (fun g s15 s16 _ _ _ _ wr2 => ∃ (c e : Int), s16 = .int .i64 ((g : Int) - 1) ∧ s15 = .int .i64 c ∧ 0 ≤ c ∧ c + (g : Int) ≤ (C.length : Int) + 1 ∧ (scanE (entA i nnm []) (C ++ [entA i nnm []]) g (e, c)).2 ≤ 3 ∧ Env w wr2 [arOb _ bA ks, liOb _ bL bA (C ++ [entA i nnm []]), FO])
                  case atStart => exact ⟨0, 0, by go_num, rfl, by omega, by omega, (unhide HC0).2, unhide E7⟩
                  case round =>
                    obtain ⟨c, e0, rfl, rfl, hc0, hcg, hsc, hv⟩ := hrel
                    have EV := hide hv
                    clear hv
                    cases gk with
                    | zero =>
                      have hc3 : c ≤ 3 := hsc
                      have hm1 : ((0 : Nat) : Int) - 1 = -1 := by omega
                      rw [hm1]
                      clear hm1 hsc hcg
                      go_wp2
                      go_roundg (100 - (i + 1))
                      case measure => have := unhide HI; omega
                      case rel => exact ⟨i + 1, (C ++ [entA i nnm []]), by go_num, by have := unhide HI; omega, by omega, (unhide HC0).1.up (by omega) (by omega), (unhide EV).take 2⟩
                    | succ n =>
                      have hm1 : ((n + 1 : Nat) : Int) - 1 = (n : Int) := by omega
                      rw [hm1]
                      have hn0 : (0 : Int) ≤ (n : Int) := by omega
                      obtain ⟨y, hy⟩ : ∃ y, (C ++ [entA i nnm []])[n]? = some y := ⟨_, List.getElem?_eq_getElem (by rw [List.length_append]; simp; omega)⟩
                      have hok := ark_at (unhide HC0).1 hy
                      have HAT : Hid (∀ wx o, Env w wx [arOb _ bA ks, liOb _ bL bA (C ++ [entA i nnm []]), o] → Calls Try.prog 25 #[.pointer (some ⟨bL, 0, none⟩), .int .i64 (n : Int)] wx fun e w' => ∃ ao ac, e = .returned (.tuple #[entV y (.slice ao y.tok.attrs.length ac), .int .i64 0]) ∧ AtrS w' wx.heap.size ao y.tok.attrs ∧ Env w w' [arOb _ bA ks, liOb _ bL bA (C ++ [entA i nnm []]), o]) := hide (fun wx o hv => env_lat hv (j := 1) (bL := bL) (bA := bA) (es := (C ++ [entA i nnm []])) rfl n hy)
                      rw [scanE, hy] at hsc
                      simp only at hsc
                      by_cases hyn : y.node = -1
                      · rw [if_pos hyn] at hsc
                        have hc3 : c ≤ 3 := hsc
                        obtain ⟨y0, y1, y2, t0, t1, t2, t3, t4, t5, t6, t7, yl⟩ := y
                        simp only at hyn
                        subst hyn
                        clear hsc hcg hm1 hok hy
                        go_wp2_with (first | (go_at_call 25; refine ((unhide HAT) _ _ (unhide EV)).mono ?_; rintro e w10 ⟨ya, yc, rfl, _, hv⟩; have E10 := hide hv; simp only [entV, TokM.cells]; clear hv))
                        go_roundg (100 - (i + 1))
                        case measure => have := unhide HI; omega
                        case rel => exact ⟨i + 1, (C ++ [entA i nnm []]), by go_num, by have := unhide HI; omega, by omega, (unhide HC0).1.up (by omega) (by omega), ((unhide E10).take 2).more (below_new _ _)⟩
                      · rw [if_neg hyn, alike_law (.inl rfl) hok hyn] at hsc
                        obtain ⟨j, _, hji, hjk, hjn, _, _⟩ : ∃ j : Nat, 1 ≤ j ∧ j < i + 1 ∧ keyAt ks (j : Int) = some ⟨1, 0, y.nm⟩ ∧ y.node = (j : Int) ∧ y.sp = 0 ∧ (y.tok.attrs = [] ∨ y.tok.attrs = [attX]) := hok.resolve_left (fun e => hyn (by rw [e]; rfl))
                        have HNO : Hid (∀ wx o2, Env w wx [arOb _ bA ks, liOb _ bL bA (C ++ [entA i nnm []]), FO, o2] → Calls Try.prog 30 #[.pointer (some ⟨bA, 0, none⟩), .int .i64 (j : Int)] wx fun e w' => ∃ (n : NodeM) (ao : Option Addr) (m c : Nat), e = .returned (.tuple #[nodeV n (.slice ao m c), .int .i64 0]) ∧ keyN n = ⟨1, 0, y.nm⟩ ∧ Env w w' [arOb _ bA ks, liOb _ bL bA (C ++ [entA i nnm []]), FO, o2]) := hide (fun wx o2 hv => env_node hv (i := 0) (bA := bA) rfl hjk)
                        obtain ⟨y0, y1, y2, t0, t1, t2, t3, t4, t5, t6, t7, yl⟩ := y
                        simp only at hjn hsc HNO
                        subst hjn
                        have hjm : ¬ (j : Int) = -1 := by omega
                        have hHC : Hid (c + 1 + (n : Int) ≤ (C.length : Int) + 1) := hide (by omega)
                        have hcz : c ≤ 400 := by omega
                        clear hcg hm1 hok hy hyn hji hjk
                        have hscT : (y2 = nnm ∧ yl.length = 0) → (scanE (entA i nnm []) (C ++ [entA i nnm []]) n ((n : Int), c + 1)).2 ≤ 3 := fun h => by
                          have h2 := hsc
                          rw [if_pos (by simp only [Bool.and_eq_true, decide_eq_true_eq]; exact h)] at h2
                          exact h2
                        have hscF : ¬ (y2 = nnm ∧ yl.length = 0) → (scanE (entA i nnm []) (C ++ [entA i nnm []]) n (e0, c)).2 ≤ 3 := fun h => by
                          have h2 := hsc
                          rw [if_neg (by simp only [Bool.and_eq_true, decide_eq_true_eq]; exact h)] at h2
                          exact h2
                        have hnz : (n : Int) ≤ 400 := by have := unhide hHC; omega
                        clear hsc
                        by_cases hnm : y2 = nnm
                        · have hbt : (y2.toList == nnm.toList) = true := by rw [hnm]; exact beq_self_eq_true _
                          by_cases hln : yl.length = 0
                          · have HS := hide (hscT ⟨hnm, hln⟩)
                            have hlz : (yl.length : Int) = 0 := by omega
                            clear hscT hscF hln hnm
                            go_wp2_with (first | (go_at_call 25; refine ((unhide HAT) _ _ (unhide EV)).mono ?_; rintro e w10 ⟨ya, yc, rfl, _, hv⟩; have E10 := hide hv; simp only [entV, TokM.cells]; clear hv) | (go_at_call 30; refine ((unhide HNO) _ _ ((unhide E10).boxed _ _)).mono ?_; rintro e w11 ⟨n, ao2, mm2, cc2, rfl, hq, hv⟩; obtain ⟨nk2, nsp2, nnm2, nav2, nda2, nsy2, npa2, nfi2, nla2, npr2, nne2, nin2, nat2⟩ := n; have E11 := hide hv; simp only [nodeV, NodeM.cells]; simp only [keyN, Key.mk.injEq] at hq; obtain ⟨rfl, rfl, rfl⟩ := hq; have z1 := cell_old w11 (.cells #[.int .i64 1, .int .i64 0, .string nnm2, .slice ao2 mm2 cc2, .string nda2, .string nsy2, .int .i64 npa2, .int .i64 nfi2, .int .i64 nla2, .int .i64 npr2, .int .i64 nne2, .int .i64 nin2] 69) (cell_of_row _ w4.heap.size 2 _ _ _ (hv.fixed (i := 2) (congrArg some hFO) (j := 0) (by omega)) : w11.cell? ⟨w4.heap.size, 2, none⟩ = some (.string nnm)); have z2 := cell_old w11 (.cells #[.int .i64 1, .int .i64 0, .string nnm2, .slice ao2 mm2 cc2, .string nda2, .string nsy2, .int .i64 npa2, .int .i64 nfi2, .int .i64 nla2, .int .i64 npr2, .int .i64 nne2, .int .i64 nin2] 69) (cell_of_row _ (w4.heap.size + 1) 8 _ _ _ (hv.fixed (i := 2) (congrArg some hFO) (j := 1) (by omega)) : w11.cell? ⟨w4.heap.size + 1, 8, none⟩ = some (.slice none 0 0)); have z3 := cell_old w11 (.cells #[.int .i64 1, .int .i64 0, .string nnm2, .slice ao2 mm2 cc2, .string nda2, .string nsy2, .int .i64 npa2, .int .i64 nfi2, .int .i64 nla2, .int .i64 npr2, .int .i64 nne2, .int .i64 nin2] 69) (cell_of_row _ w10.heap.size 9 _ _ _ (hv.block (i := 3) rfl) : w11.cell? ⟨w10.heap.size, 9, none⟩ = some (.slice ya yl.length yc)); clear hv))
                            go_roundg n
                            case measure => omega
                            case rel => exact ⟨c + 1, n, by go_num, by go_num, by omega, by have := unhide hHC; omega, unhide HS, ((unhide E11).take 3).more (below_new _ _)⟩
                          · have HS := hide (hscF (fun h => hln h.2))
                            have hlz : ¬ (yl.length : Int) = 0 := by omega
                            clear hscT hscF hln hnm
                            go_wp2_with (first | (go_at_call 25; refine ((unhide HAT) _ _ (unhide EV)).mono ?_; rintro e w10 ⟨ya, yc, rfl, _, hv⟩; have E10 := hide hv; simp only [entV, TokM.cells]; clear hv) | (go_at_call 30; refine ((unhide HNO) _ _ ((unhide E10).boxed _ _)).mono ?_; rintro e w11 ⟨n, ao2, mm2, cc2, rfl, hq, hv⟩; obtain ⟨nk2, nsp2, nnm2, nav2, nda2, nsy2, npa2, nfi2, nla2, npr2, nne2, nin2, nat2⟩ := n; have E11 := hide hv; simp only [nodeV, NodeM.cells]; simp only [keyN, Key.mk.injEq] at hq; obtain ⟨rfl, rfl, rfl⟩ := hq; have z1 := cell_old w11 (.cells #[.int .i64 1, .int .i64 0, .string nnm2, .slice ao2 mm2 cc2, .string nda2, .string nsy2, .int .i64 npa2, .int .i64 nfi2, .int .i64 nla2, .int .i64 npr2, .int .i64 nne2, .int .i64 nin2] 69) (cell_of_row _ w4.heap.size 2 _ _ _ (hv.fixed (i := 2) (congrArg some hFO) (j := 0) (by omega)) : w11.cell? ⟨w4.heap.size, 2, none⟩ = some (.string nnm)); have z2 := cell_old w11 (.cells #[.int .i64 1, .int .i64 0, .string nnm2, .slice ao2 mm2 cc2, .string nda2, .string nsy2, .int .i64 npa2, .int .i64 nfi2, .int .i64 nla2, .int .i64 npr2, .int .i64 nne2, .int .i64 nin2] 69) (cell_of_row _ (w4.heap.size + 1) 8 _ _ _ (hv.fixed (i := 2) (congrArg some hFO) (j := 1) (by omega)) : w11.cell? ⟨w4.heap.size + 1, 8, none⟩ = some (.slice none 0 0)); have z3 := cell_old w11 (.cells #[.int .i64 1, .int .i64 0, .string nnm2, .slice ao2 mm2 cc2, .string nda2, .string nsy2, .int .i64 npa2, .int .i64 nfi2, .int .i64 nla2, .int .i64 npr2, .int .i64 nne2, .int .i64 nin2] 69) (cell_of_row _ w10.heap.size 9 _ _ _ (hv.block (i := 3) rfl) : w11.cell? ⟨w10.heap.size, 9, none⟩ = some (.slice ya yl.length yc)); clear hv))
                            go_roundg n
                            case measure => omega
                            case rel => exact ⟨c, e0, by go_num, rfl, by omega, by have := unhide hHC; omega, unhide HS, ((unhide E11).take 3).more (below_new _ _)⟩
                        · have HS := hide (hscF (fun h => hnm h.1))
                          have hbn : (y2.toList == nnm.toList) = false := beq_eq_false_iff_ne.2 (fun h => hnm (bytes_ext h))
                          clear hscT hscF hnm
                          go_wp2_with (first | (go_at_call 25; refine ((unhide HAT) _ _ (unhide EV)).mono ?_; rintro e w10 ⟨ya, yc, rfl, _, hv⟩; have E10 := hide hv; simp only [entV, TokM.cells]; clear hv) | (go_at_call 30; refine ((unhide HNO) _ _ ((unhide E10).boxed _ _)).mono ?_; rintro e w11 ⟨n, ao2, mm2, cc2, rfl, hq, hv⟩; obtain ⟨nk2, nsp2, nnm2, nav2, nda2, nsy2, npa2, nfi2, nla2, npr2, nne2, nin2, nat2⟩ := n; have E11 := hide hv; simp only [nodeV, NodeM.cells]; simp only [keyN, Key.mk.injEq] at hq; obtain ⟨rfl, rfl, rfl⟩ := hq; have z1 := cell_old w11 (.cells #[.int .i64 1, .int .i64 0, .string nnm2, .slice ao2 mm2 cc2, .string nda2, .string nsy2, .int .i64 npa2, .int .i64 nfi2, .int .i64 nla2, .int .i64 npr2, .int .i64 nne2, .int .i64 nin2] 69) (cell_of_row _ w4.heap.size 2 _ _ _ (hv.fixed (i := 2) (congrArg some hFO) (j := 0) (by omega)) : w11.cell? ⟨w4.heap.size, 2, none⟩ = some (.string nnm)); have z2 := cell_old w11 (.cells #[.int .i64 1, .int .i64 0, .string nnm2, .slice ao2 mm2 cc2, .string nda2, .string nsy2, .int .i64 npa2, .int .i64 nfi2, .int .i64 nla2, .int .i64 npr2, .int .i64 nne2, .int .i64 nin2] 69) (cell_of_row _ (w4.heap.size + 1) 8 _ _ _ (hv.fixed (i := 2) (congrArg some hFO) (j := 1) (by omega)) : w11.cell? ⟨w4.heap.size + 1, 8, none⟩ = some (.slice none 0 0)); have z3 := cell_old w11 (.cells #[.int .i64 1, .int .i64 0, .string nnm2, .slice ao2 mm2 cc2, .string nda2, .string nsy2, .int .i64 npa2, .int .i64 nfi2, .int .i64 nla2, .int .i64 npr2, .int .i64 nne2, .int .i64 nin2] 69) (cell_of_row _ w10.heap.size 9 _ _ _ (hv.block (i := 3) rfl) : w11.cell? ⟨w10.heap.size, 9, none⟩ = some (.slice ya yl.length yc)); clear hv))
                          go_roundg n
                          case measure => omega
                          case rel => exact ⟨c, e0, by go_num, rfl, by omega, by have := unhide hHC; omega, unhide HS, ((unhide E11).take 3).more (below_new _ _)⟩
          · have hltz : ¬ (i : Int) < (lt.length : Int) := by omega
            clear hlt
            by_cases hlm : i < lm.length
            · have hlmz : (i : Int) < (lm.length : Int) := by omega
              obtain ⟨zm, hzm⟩ : ∃ z, lm[i]? = some z := ⟨_, List.getElem?_eq_getElem hlm⟩
              obtain ⟨bm, om, rfl, _⟩ := (unhide HIM).cells i zm hzm
              have HZM : Hid (∀ wx, Below w.heap.size w wx → wx.cell? ⟨bm, om + i, none⟩ = some (.int .u8 zm)) := hide (fun wx hb => by
                obtain ⟨b2, o2, e, c0⟩ := ((unhide HIM).below hb).cells i zm hzm
                cases e
                exact c0)
              generalize lm.length = LM at *
              by_cases hz5 : zm.tmod 5 = 0
              · clear hzm hlm
                as_aux_lemma =>
                  obtain ⟨he0, C, hpu, hark2, hpl, hla, hsc⟩ := ark_push (unhide HK).mark (unhide HI).2.1 (unhide HKEY) (l := []) (.inl rfl)
                  have HC0 := hide (And.intro hark2 hsc)
                  have HMK : Hid (∀ wx o, Env w wx [arOb _ bA ks, liOb _ bL bA es, o] → Calls Try.prog 31 #[.pointer (some ⟨bL, 0, none⟩)] wx fun e w' => e = .returned (.int .i64 0) ∧ Env w w' [arOb _ bA ks, liOb _ bL bA (es ++ [mark0]), o]) := hide (fun wx o hv => env_lmark hv (j := 1) (bA := bA) (bL := bL) (es := es) rfl (by have := (unhide HK).len; omega))
                  have HP : Hid (∀ wx o at0 cp0, Env w wx [arOb _ bA ks, liOb _ bL bA (es ++ [mark0]), o] → AttrsIn wx at0 [] → Calls Try.prog 32 #[.pointer (some ⟨bL, 0, none⟩), .int .i64 (i : Int), .agg #[.int .i64 1, .string qn, .string ⟨#[]⟩, .string ⟨#[]⟩, .int .i64 0, .bool false, .int .i32 0, .bool false, .slice at0 0 cp0]] wx fun e w' => e = .returned (.int .i64 0) ∧ Env w w' [arOb _ bA ks, liOb _ bL bA (C ++ [entA i qn []]), o]) := hide (fun wx o at0 cp0 hv hat => by
                    have h := env_lpush hv (i := 0) (j := 1) (bA := bA) (bL := bL) (es := (es ++ [mark0])) rfl rfl (by have := ((unhide HK).mark).len; omega) (i : Int) (tokA qn []) at0 cp0 hat (by simp [tokA])
                    rw [he0, hpu] at h
                    exact h)
                  have HF : Hid (∀ wx o, Env w wx [arOb _ bA ks, liOb _ bL bA (C ++ [entA i qn []]), o] → Calls Try.prog 23 #[.pointer (some ⟨bL, 0, none⟩), .int .i64 (i : Int)] wx fun e w' => e = .returned (.int .i64 C.length) ∧ Env w w' [arOb _ bA ks, liOb _ bL bA (C ++ [entA i qn []]), o]) := hide (fun wx o hv => by
                    have h := env_lfind hv (j := 1) (bA := bA) (bL := bL) (es := (C ++ [entA i qn []])) rfl (by have := (unhide HC0).1.len; omega) (i : Int)
                    rw [hpl] at h
                    exact h)
                  have HLE : Hid (∀ wx o, Env w wx [arOb _ bA ks, liOb _ bL bA (C ++ [entA i qn []]), o] → Calls Try.prog 22 #[.pointer (some ⟨bL, 0, none⟩)] wx fun e w' => e = .returned (.int .i64 ((C.length : Int) + 1)) ∧ wx = w') := hide (fun wx o hv => by
                    have h := env_llen hv (j := 1) (bA := bA) (bL := bL) (es := (C ++ [entA i qn []])) rfl
                    rw [List.length_append] at h
                    exact h)
                  have HLA : Hid (∀ wx o, Env w wx [arOb _ bA ks, liOb _ bL bA (C ++ [entA i qn []]), o] → Calls Try.prog 33 #[.pointer (some ⟨bL, 0, none⟩), .string qn] wx fun e w' => e = .returned (.int .i64 i) ∧ Env w w' [arOb _ bA ks, liOb _ bL bA (C ++ [entA i qn []]), o]) := hide (fun wx o hv => by
                    have h := env_llast hv (j := 1) (bA := bA) (bL := bL) (es := (C ++ [entA i qn []])) rfl (by have := (unhide HC0).1.len; omega) qn
                    rw [List.length_append] at h
                    rw [show (C.length + [entA i qn []].length) = C.length + 1 from rfl, hla] at h
                    exact h)
                  have hcl : (C.length : Int) ≤ 300 := by have h1 := (unhide HC0).1.len; have h2 := (unhide HI).2.2; rw [List.length_append] at h1; simp at h1; omega
                  have hcl0 : (0 : Int) ≤ (C.length : Int) := by omega
                  clear he0 hpu hark2 hpl hla hsc
                  go_wp2_with (first | (go_at_call 29; refine ((unhide HLN) _ (unhide HV)).mono ?_; rintro e w3 ⟨rfl, rfl⟩) | (go_at_call 30; refine ((unhide HN) _ (unhide HV)).mono ?_; rintro e w4 ⟨n, ao, mm, cc, rfl, hq, hv⟩; obtain ⟨nk, nsp, nnm, nav, nda, nsy, npa, nfi, nla, npr, nne, nin, nat⟩ := n; have E4 := hide hv; simp only [nodeV, NodeM.cells]; simp only [keyN, Key.mk.injEq] at hq; obtain ⟨rfl, rfl, rfl⟩ := hq; have qm : ((w4.alloc (.cells #[.int .i64 1, .int .i64 0, .string nnm, .slice ao mm cc, .string nda, .string nsy, .int .i64 npa, .int .i64 nfi, .int .i64 nla, .int .i64 npr, .int .i64 nne, .int .i64 nin] 69)).alloc (.cells #[.int .i64 1, .string nnm, .string ⟨#[]⟩, .string ⟨#[]⟩, .int .i64 0, .bool false, .int .i32 0, .bool false, .slice none 0 0] 52)).cell? ⟨bm, om + i, none⟩ = some (.int .u8 zm) := (unhide HZM) _ (hv.bel.trans ((below_two w4 (.cells #[.int .i64 1, .int .i64 0, .string nnm, .slice ao mm cc, .string nda, .string nsy, .int .i64 npa, .int .i64 nfi, .int .i64 nla, .int .i64 npr, .int .i64 nne, .int .i64 nin] 69) (.cells #[.int .i64 1, .string nnm, .string ⟨#[]⟩, .string ⟨#[]⟩, .int .i64 0, .bool false, .int .i32 0, .bool false, .slice none 0 0] 52)).mono hv.bel.size)); clear hv) | (go_at_call 31; refine ((unhide HMK) _ (fixOb _ w4.heap.size 2 (fun j => if j = 0 then (.cells #[.int .i64 1, .int .i64 0, .string nnm, .slice ao mm cc, .string nda, .string nsy, .int .i64 npa, .int .i64 nfi, .int .i64 nla, .int .i64 npr, .int .i64 nne, .int .i64 nin] 69) else (.cells #[.int .i64 1, .string nnm, .string ⟨#[]⟩, .string ⟨#[]⟩, .int .i64 0, .bool false, .int .i32 0, .bool false, .slice none 0 0] 52))) (env_fix (unhide E4) (below_two _ _ _) 2 _ (two_fix _ _ _))).mono ?_; rintro e w9 ⟨rfl, hv⟩; have E9 := hide hv; have tt0 : w9.cell? ⟨w4.heap.size + 1, 0, none⟩ = some (.int .i64 1) := (cell_of_row _ _ 0 _ _ _ (hv.fixed (i := 2) rfl (j := 1) (by omega))); have tt1 : w9.cell? ⟨w4.heap.size + 1, 1, none⟩ = some (.string nnm) := (cell_of_row _ _ 1 _ _ _ (hv.fixed (i := 2) rfl (j := 1) (by omega))); have tt2 : w9.cell? ⟨w4.heap.size + 1, 2, none⟩ = some (.string ⟨#[]⟩) := (cell_of_row _ _ 2 _ _ _ (hv.fixed (i := 2) rfl (j := 1) (by omega))); have tt3 : w9.cell? ⟨w4.heap.size + 1, 3, none⟩ = some (.string ⟨#[]⟩) := (cell_of_row _ _ 3 _ _ _ (hv.fixed (i := 2) rfl (j := 1) (by omega))); have tt4 : w9.cell? ⟨w4.heap.size + 1, 4, none⟩ = some (.int .i64 0) := (cell_of_row _ _ 4 _ _ _ (hv.fixed (i := 2) rfl (j := 1) (by omega))); have tt5 : w9.cell? ⟨w4.heap.size + 1, 5, none⟩ = some (.bool false) := (cell_of_row _ _ 5 _ _ _ (hv.fixed (i := 2) rfl (j := 1) (by omega))); have tt6 : w9.cell? ⟨w4.heap.size + 1, 6, none⟩ = some (.int .i32 0) := (cell_of_row _ _ 6 _ _ _ (hv.fixed (i := 2) rfl (j := 1) (by omega))); have tt7 : w9.cell? ⟨w4.heap.size + 1, 7, none⟩ = some (.bool false) := (cell_of_row _ _ 7 _ _ _ (hv.fixed (i := 2) rfl (j := 1) (by omega))); have tt8 : w9.cell? ⟨w4.heap.size + 1, 8, none⟩ = some ((.slice none 0 0)) := (cell_of_row _ _ 8 _ _ _ (hv.fixed (i := 2) rfl (j := 1) (by omega))); clear hv) | (go_at_call 32; have hv5 := (show Env w _ [arOb _ bA ks, liOb _ bL bA (es ++ [mark0]), (fixOb _ w4.heap.size 2 (fun j => if j = 0 then (.cells #[.int .i64 1, .int .i64 0, .string nnm, .slice ao mm cc, .string nda, .string nsy, .int .i64 npa, .int .i64 nfi, .int .i64 nla, .int .i64 npr, .int .i64 nne, .int .i64 nin] 69) else (.cells #[.int .i64 1, .string nnm, .string ⟨#[]⟩, .string ⟨#[]⟩, .int .i64 0, .bool false, .int .i32 0, .bool false, .slice none 0 0] 52)))] from (unhide E9)); refine ((unhide HP) _ (fixOb _ w4.heap.size 2 (fun j => if j = 0 then (.cells #[.int .i64 1, .int .i64 0, .string nnm, .slice ao mm cc, .string nda, .string nsy, .int .i64 npa, .int .i64 nfi, .int .i64 nla, .int .i64 npr, .int .i64 nne, .int .i64 nin] 69) else (.cells #[.int .i64 1, .string nnm, .string ⟨#[]⟩, .string ⟨#[]⟩, .int .i64 0, .bool false, .int .i32 0, .bool false, .slice none 0 0] 52))) _ _ hv5 (attrs_none _)).mono ?_; clear hv5; rintro e w5 ⟨rfl, hv⟩; have E5 := hide hv; have n2 : w5.cell? ⟨w4.heap.size, 2, none⟩ = some (.string nnm) := (cell_of_row _ _ 2 _ _ _ (hv.fixed (i := 2) rfl (j := 0) (by omega))); have t8 : w5.cell? ⟨w4.heap.size + 1, 8, none⟩ = some (.slice none 0 0) := (cell_of_row _ _ 8 _ _ _ (hv.fixed (i := 2) rfl (j := 1) (by omega))); clear hv) | (go_at_call 23; refine ((unhide HF) _ _ (unhide E5)).mono ?_; rintro e w6 ⟨rfl, hv⟩; have E6 := hide hv; have n3 : w6.cell? ⟨w4.heap.size, 2, none⟩ = some (.string nnm) := (cell_of_row _ _ 2 _ _ _ (hv.fixed (i := 2) rfl (j := 0) (by omega))); clear hv) | (go_at_call 22; refine ((unhide HLE) _ _ (by first | exact unhide E7 | exact unhide E6)).mono ?_; rintro e w8 ⟨rfl, rfl⟩) | (go_at_call 33; refine ((unhide HLA) _ _ (unhide E6)).mono ?_; rintro e w7 ⟨rfl, hv⟩; have E7 := hide hv; have n4 : w7.cell? ⟨w4.heap.size, 2, none⟩ = some (.string nnm) := (cell_of_row _ _ 2 _ _ _ (hv.fixed (i := 2) rfl (j := 0) (by omega))); have t4 : w7.cell? ⟨w4.heap.size + 1, 8, none⟩ = some (.slice none 0 0) := (cell_of_row _ _ 8 _ _ _ (hv.fixed (i := 2) rfl (j := 1) (by omega))); clear hv))
                  obtain ⟨FO, hFO⟩ : ∃ FO, FO = (fixOb w.heap.size w4.heap.size 2 (fun j => if j = 0 then (.cells #[.int .i64 1, .int .i64 0, .string nnm, .slice ao mm cc, .string nda, .string nsy, .int .i64 npa, .int .i64 nfi, .int .i64 nla, .int .i64 npr, .int .i64 nne, .int .i64 nin] 69) else (.cells #[.int .i64 1, .string nnm, .string ⟨#[]⟩, .string ⟨#[]⟩, .int .i64 0, .bool false, .int .i32 0, .bool false, .slice none 0 0] 52))) := ⟨_, rfl⟩
                  rw [← hFO] at E7
                  have HFO : Hid ((entA i nnm []) = (entA i nnm [])) := hide rfl
                  clear HFO
                  go_loopg [15, 16, 17, 18, 19, 20] (C.length + 1) (fun g s15 s16 _ _ _ _ wr2 => ∃ (c e : Int), s16 = .int .i64 ((g : Int) - 1) ∧ s15 = .int .i64 c ∧ 0 ≤ c ∧ c + (g : Int) ≤ (C.length : Int) + 1 ∧ (scanE (entA i nnm []) (C ++ [entA i nnm []]) g (e, c)).2 ≤ 3 ∧ Env w wr2 [arOb _ bA ks, liOb _ bL bA (C ++ [entA i nnm []]), FO])
                  case atStart => exact ⟨0, 0, by go_num, rfl, by omega, by omega, (unhide HC0).2, unhide E7⟩
                  case round =>
                    obtain ⟨c, e0, rfl, rfl, hc0, hcg, hsc, hv⟩ := hrel
                    have EV := hide hv
                    clear hv
                    cases gk with
                    | zero =>
                      have hc3 : c ≤ 3 := hsc
                      have hm1 : ((0 : Nat) : Int) - 1 = -1 := by omega
                      rw [hm1]
                      clear hm1 hsc hcg
                      go_wp2
                      go_roundg (100 - (i + 1))
                      case measure => have := unhide HI; omega
                      case rel => exact ⟨i + 1, (C ++ [entA i nnm []]), by go_num, by have := unhide HI; omega, by omega, (unhide HC0).1.up (by omega) (by omega), (unhide EV).take 2⟩
                    | succ n =>
                      have hm1 : ((n + 1 : Nat) : Int) - 1 = (n : Int) := by omega
                      rw [hm1]
                      have hn0 : (0 : Int) ≤ (n : Int) := by omega
                      obtain ⟨y, hy⟩ : ∃ y, (C ++ [entA i nnm []])[n]? = some y := ⟨_, List.getElem?_eq_getElem (by rw [List.length_append]; simp; omega)⟩
                      have hok := ark_at (unhide HC0).1 hy
                      have HAT : Hid (∀ wx o, Env w wx [arOb _ bA ks, liOb _ bL bA (C ++ [entA i nnm []]), o] → Calls Try.prog 25 #[.pointer (some ⟨bL, 0, none⟩), .int .i64 (n : Int)] wx fun e w' => ∃ ao ac, e = .returned (.tuple #[entV y (.slice ao y.tok.attrs.length ac), .int .i64 0]) ∧ AtrS w' wx.heap.size ao y.tok.attrs ∧ Env w w' [arOb _ bA ks, liOb _ bL bA (C ++ [entA i nnm []]), o]) := hide (fun wx o hv => env_lat hv (j := 1) (bL := bL) (bA := bA) (es := (C ++ [entA i nnm []])) rfl n hy)
                      rw [scanE, hy] at hsc
                      simp only at hsc
                      by_cases hyn : y.node = -1
                      · rw [if_pos hyn] at hsc
                        have hc3 : c ≤ 3 := hsc
                        obtain ⟨y0, y1, y2, t0, t1, t2, t3, t4, t5, t6, t7, yl⟩ := y
                        simp only at hyn
                        subst hyn
                        clear hsc hcg hm1 hok hy
                        go_wp2_with (first | (go_at_call 25; refine ((unhide HAT) _ _ (unhide EV)).mono ?_; rintro e w10 ⟨ya, yc, rfl, _, hv⟩; have E10 := hide hv; simp only [entV, TokM.cells]; clear hv))
                        go_roundg (100 - (i + 1))
                        case measure => have := unhide HI; omega
                        case rel => exact ⟨i + 1, (C ++ [entA i nnm []]), by go_num, by have := unhide HI; omega, by omega, (unhide HC0).1.up (by omega) (by omega), ((unhide E10).take 2).more (below_new _ _)⟩
                      · rw [if_neg hyn, alike_law (.inl rfl) hok hyn] at hsc
                        obtain ⟨j, _, hji, hjk, hjn, _, _⟩ : ∃ j : Nat, 1 ≤ j ∧ j < i + 1 ∧ keyAt ks (j : Int) = some ⟨1, 0, y.nm⟩ ∧ y.node = (j : Int) ∧ y.sp = 0 ∧ (y.tok.attrs = [] ∨ y.tok.attrs = [attX]) := hok.resolve_left (fun e => hyn (by rw [e]; rfl))
                        have HNO : Hid (∀ wx o2, Env w wx [arOb _ bA ks, liOb _ bL bA (C ++ [entA i nnm []]), FO, o2] → Calls Try.prog 30 #[.pointer (some ⟨bA, 0, none⟩), .int .i64 (j : Int)] wx fun e w' => ∃ (n : NodeM) (ao : Option Addr) (m c : Nat), e = .returned (.tuple #[nodeV n (.slice ao m c), .int .i64 0]) ∧ keyN n = ⟨1, 0, y.nm⟩ ∧ Env w w' [arOb _ bA ks, liOb _ bL bA (C ++ [entA i nnm []]), FO, o2]) := hide (fun wx o2 hv => env_node hv (i := 0) (bA := bA) rfl hjk)
                        obtain ⟨y0, y1, y2, t0, t1, t2, t3, t4, t5, t6, t7, yl⟩ := y
                        simp only at hjn hsc HNO
                        subst hjn
                        have hjm : ¬ (j : Int) = -1 := by omega
                        have hHC : Hid (c + 1 + (n : Int) ≤ (C.length : Int) + 1) := hide (by omega)
                        have hcz : c ≤ 400 := by omega
                        clear hcg hm1 hok hy hyn hji hjk
                        have hscT : (y2 = nnm ∧ yl.length = 0) → (scanE (entA i nnm []) (C ++ [entA i nnm []]) n ((n : Int), c + 1)).2 ≤ 3 := fun h => by
                          have h2 := hsc
                          rw [if_pos (by simp only [Bool.and_eq_true, decide_eq_true_eq]; exact h)] at h2
                          exact h2
                        have hscF : ¬ (y2 = nnm ∧ yl.length = 0) → (scanE (entA i nnm []) (C ++ [entA i nnm []]) n (e0, c)).2 ≤ 3 := fun h => by
                          have h2 := hsc
                          rw [if_neg (by simp only [Bool.and_eq_true, decide_eq_true_eq]; exact h)] at h2
                          exact h2
                        have hnz : (n : Int) ≤ 400 := by have := unhide hHC; omega
                        clear hsc
                        by_cases hnm : y2 = nnm
                        · have hbt : (y2.toList == nnm.toList) = true := by rw [hnm]; exact beq_self_eq_true _
                          by_cases hln : yl.length = 0
                          · have HS := hide (hscT ⟨hnm, hln⟩)
                            have hlz : (yl.length : Int) = 0 := by omega
                            clear hscT hscF hln hnm
                            go_wp2_with (first | (go_at_call 25; refine ((unhide HAT) _ _ (unhide EV)).mono ?_; rintro e w10 ⟨ya, yc, rfl, _, hv⟩; have E10 := hide hv; simp only [entV, TokM.cells]; clear hv) | (go_at_call 30; refine ((unhide HNO) _ _ ((unhide E10).boxed _ _)).mono ?_; rintro e w11 ⟨n, ao2, mm2, cc2, rfl, hq, hv⟩; obtain ⟨nk2, nsp2, nnm2, nav2, nda2, nsy2, npa2, nfi2, nla2, npr2, nne2, nin2, nat2⟩ := n; have E11 := hide hv; simp only [nodeV, NodeM.cells]; simp only [keyN, Key.mk.injEq] at hq; obtain ⟨rfl, rfl, rfl⟩ := hq; have z1 := cell_old w11 (.cells #[.int .i64 1, .int .i64 0, .string nnm2, .slice ao2 mm2 cc2, .string nda2, .string nsy2, .int .i64 npa2, .int .i64 nfi2, .int .i64 nla2, .int .i64 npr2, .int .i64 nne2, .int .i64 nin2] 69) (cell_of_row _ w4.heap.size 2 _ _ _ (hv.fixed (i := 2) (congrArg some hFO) (j := 0) (by omega)) : w11.cell? ⟨w4.heap.size, 2, none⟩ = some (.string nnm)); have z2 := cell_old w11 (.cells #[.int .i64 1, .int .i64 0, .string nnm2, .slice ao2 mm2 cc2, .string nda2, .string nsy2, .int .i64 npa2, .int .i64 nfi2, .int .i64 nla2, .int .i64 npr2, .int .i64 nne2, .int .i64 nin2] 69) (cell_of_row _ (w4.heap.size + 1) 8 _ _ _ (hv.fixed (i := 2) (congrArg some hFO) (j := 1) (by omega)) : w11.cell? ⟨w4.heap.size + 1, 8, none⟩ = some (.slice none 0 0)); have z3 := cell_old w11 (.cells #[.int .i64 1, .int .i64 0, .string nnm2, .slice ao2 mm2 cc2, .string nda2, .string nsy2, .int .i64 npa2, .int .i64 nfi2, .int .i64 nla2, .int .i64 npr2, .int .i64 nne2, .int .i64 nin2] 69) (cell_of_row _ w10.heap.size 9 _ _ _ (hv.block (i := 3) rfl) : w11.cell? ⟨w10.heap.size, 9, none⟩ = some (.slice ya yl.length yc)); clear hv))
                            go_roundg n
                            case measure => omega
                            case rel => exact ⟨c + 1, n, by go_num, by go_num, by omega, by have := unhide hHC; omega, unhide HS, ((unhide E11).take 3).more (below_new _ _)⟩
                          · have HS := hide (hscF (fun h => hln h.2))
                            have hlz : ¬ (yl.length : Int) = 0 := by omega
                            clear hscT hscF hln hnm
                            go_wp2_with (first | (go_at_call 25; refine ((unhide HAT) _ _ (unhide EV)).mono ?_; rintro e w10 ⟨ya, yc, rfl, _, hv⟩; have E10 := hide hv; simp only [entV, TokM.cells]; clear hv) | (go_at_call 30; refine ((unhide HNO) _ _ ((unhide E10).boxed _ _)).mono ?_; rintro e w11 ⟨n, ao2, mm2, cc2, rfl, hq, hv⟩; obtain ⟨nk2, nsp2, nnm2, nav2, nda2, nsy2, npa2, nfi2, nla2, npr2, nne2, nin2, nat2⟩ := n; have E11 := hide hv; simp only [nodeV, NodeM.cells]; simp only [keyN, Key.mk.injEq] at hq; obtain ⟨rfl, rfl, rfl⟩ := hq; have z1 := cell_old w11 (.cells #[.int .i64 1, .int .i64 0, .string nnm2, .slice ao2 mm2 cc2, .string nda2, .string nsy2, .int .i64 npa2, .int .i64 nfi2, .int .i64 nla2, .int .i64 npr2, .int .i64 nne2, .int .i64 nin2] 69) (cell_of_row _ w4.heap.size 2 _ _ _ (hv.fixed (i := 2) (congrArg some hFO) (j := 0) (by omega)) : w11.cell? ⟨w4.heap.size, 2, none⟩ = some (.string nnm)); have z2 := cell_old w11 (.cells #[.int .i64 1, .int .i64 0, .string nnm2, .slice ao2 mm2 cc2, .string nda2, .string nsy2, .int .i64 npa2, .int .i64 nfi2, .int .i64 nla2, .int .i64 npr2, .int .i64 nne2, .int .i64 nin2] 69) (cell_of_row _ (w4.heap.size + 1) 8 _ _ _ (hv.fixed (i := 2) (congrArg some hFO) (j := 1) (by omega)) : w11.cell? ⟨w4.heap.size + 1, 8, none⟩ = some (.slice none 0 0)); have z3 := cell_old w11 (.cells #[.int .i64 1, .int .i64 0, .string nnm2, .slice ao2 mm2 cc2, .string nda2, .string nsy2, .int .i64 npa2, .int .i64 nfi2, .int .i64 nla2, .int .i64 npr2, .int .i64 nne2, .int .i64 nin2] 69) (cell_of_row _ w10.heap.size 9 _ _ _ (hv.block (i := 3) rfl) : w11.cell? ⟨w10.heap.size, 9, none⟩ = some (.slice ya yl.length yc)); clear hv))
                            go_roundg n
                            case measure => omega
                            case rel => exact ⟨c, e0, by go_num, rfl, by omega, by have := unhide hHC; omega, unhide HS, ((unhide E11).take 3).more (below_new _ _)⟩
                        · have HS := hide (hscF (fun h => hnm h.1))
                          have hbn : (y2.toList == nnm.toList) = false := beq_eq_false_iff_ne.2 (fun h => hnm (bytes_ext h))
                          clear hscT hscF hnm
                          go_wp2_with (first | (go_at_call 25; refine ((unhide HAT) _ _ (unhide EV)).mono ?_; rintro e w10 ⟨ya, yc, rfl, _, hv⟩; have E10 := hide hv; simp only [entV, TokM.cells]; clear hv) | (go_at_call 30; refine ((unhide HNO) _ _ ((unhide E10).boxed _ _)).mono ?_; rintro e w11 ⟨n, ao2, mm2, cc2, rfl, hq, hv⟩; obtain ⟨nk2, nsp2, nnm2, nav2, nda2, nsy2, npa2, nfi2, nla2, npr2, nne2, nin2, nat2⟩ := n; have E11 := hide hv; simp only [nodeV, NodeM.cells]; simp only [keyN, Key.mk.injEq] at hq; obtain ⟨rfl, rfl, rfl⟩ := hq; have z1 := cell_old w11 (.cells #[.int .i64 1, .int .i64 0, .string nnm2, .slice ao2 mm2 cc2, .string nda2, .string nsy2, .int .i64 npa2, .int .i64 nfi2, .int .i64 nla2, .int .i64 npr2, .int .i64 nne2, .int .i64 nin2] 69) (cell_of_row _ w4.heap.size 2 _ _ _ (hv.fixed (i := 2) (congrArg some hFO) (j := 0) (by omega)) : w11.cell? ⟨w4.heap.size, 2, none⟩ = some (.string nnm)); have z2 := cell_old w11 (.cells #[.int .i64 1, .int .i64 0, .string nnm2, .slice ao2 mm2 cc2, .string nda2, .string nsy2, .int .i64 npa2, .int .i64 nfi2, .int .i64 nla2, .int .i64 npr2, .int .i64 nne2, .int .i64 nin2] 69) (cell_of_row _ (w4.heap.size + 1) 8 _ _ _ (hv.fixed (i := 2) (congrArg some hFO) (j := 1) (by omega)) : w11.cell? ⟨w4.heap.size + 1, 8, none⟩ = some (.slice none 0 0)); have z3 := cell_old w11 (.cells #[.int .i64 1, .int .i64 0, .string nnm2, .slice ao2 mm2 cc2, .string nda2, .string nsy2, .int .i64 npa2, .int .i64 nfi2, .int .i64 nla2, .int .i64 npr2, .int .i64 nne2, .int .i64 nin2] 69) (cell_of_row _ w10.heap.size 9 _ _ _ (hv.block (i := 3) rfl) : w11.cell? ⟨w10.heap.size, 9, none⟩ = some (.slice ya yl.length yc)); clear hv))
                          go_roundg n
                          case measure => omega
                          case rel => exact ⟨c, e0, by go_num, rfl, by omega, by have := unhide hHC; omega, unhide HS, ((unhide E11).take 3).more (below_new _ _)⟩
              · clear hzm hlm
                as_aux_lemma =>
                  obtain ⟨he0, C, hpu, hark2, hpl, hla, hsc⟩ := ark_push (unhide HK) (unhide HI).2.1 (unhide HKEY) (l := []) (.inl rfl)
                  have HC0 := hide (And.intro hark2 hsc)
                  have HP : Hid (∀ wx o at0 cp0, Env w wx [arOb _ bA ks, liOb _ bL bA es, o] → AttrsIn wx at0 [] → Calls Try.prog 32 #[.pointer (some ⟨bL, 0, none⟩), .int .i64 (i : Int), .agg #[.int .i64 1, .string qn, .string ⟨#[]⟩, .string ⟨#[]⟩, .int .i64 0, .bool false, .int .i32 0, .bool false, .slice at0 0 cp0]] wx fun e w' => e = .returned (.int .i64 0) ∧ Env w w' [arOb _ bA ks, liOb _ bL bA (C ++ [entA i qn []]), o]) := hide (fun wx o at0 cp0 hv hat => by
                    have h := env_lpush hv (i := 0) (j := 1) (bA := bA) (bL := bL) (es := es) rfl rfl (by have := ((unhide HK)).len; omega) (i : Int) (tokA qn []) at0 cp0 hat (by simp [tokA])
                    rw [he0, hpu] at h
                    exact h)
                  have HF : Hid (∀ wx o, Env w wx [arOb _ bA ks, liOb _ bL bA (C ++ [entA i qn []]), o] → Calls Try.prog 23 #[.pointer (some ⟨bL, 0, none⟩), .int .i64 (i : Int)] wx fun e w' => e = .returned (.int .i64 C.length) ∧ Env w w' [arOb _ bA ks, liOb _ bL bA (C ++ [entA i qn []]), o]) := hide (fun wx o hv => by
                    have h := env_lfind hv (j := 1) (bA := bA) (bL := bL) (es := (C ++ [entA i qn []])) rfl (by have := (unhide HC0).1.len; omega) (i : Int)
                    rw [hpl] at h
                    exact h)
                  have HLE : Hid (∀ wx o, Env w wx [arOb _ bA ks, liOb _ bL bA (C ++ [entA i qn []]), o] → Calls Try.prog 22 #[.pointer (some ⟨bL, 0, none⟩)] wx fun e w' => e = .returned (.int .i64 ((C.length : Int) + 1)) ∧ wx = w') := hide (fun wx o hv => by
                    have h := env_llen hv (j := 1) (bA := bA) (bL := bL) (es := (C ++ [entA i qn []])) rfl
                    rw [List.length_append] at h
                    exact h)
                  have HLA : Hid (∀ wx o, Env w wx [arOb _ bA ks, liOb _ bL bA (C ++ [entA i qn []]), o] → Calls Try.prog 33 #[.pointer (some ⟨bL, 0, none⟩), .string qn] wx fun e w' => e = .returned (.int .i64 i) ∧ Env w w' [arOb _ bA ks, liOb _ bL bA (C ++ [entA i qn []]), o]) := hide (fun wx o hv => by
                    have h := env_llast hv (j := 1) (bA := bA) (bL := bL) (es := (C ++ [entA i qn []])) rfl (by have := (unhide HC0).1.len; omega) qn
                    rw [List.length_append] at h
                    rw [show (C.length + [entA i qn []].length) = C.length + 1 from rfl, hla] at h
                    exact h)
                  have hcl : (C.length : Int) ≤ 300 := by have h1 := (unhide HC0).1.len; have h2 := (unhide HI).2.2; rw [List.length_append] at h1; simp at h1; omega
                  have hcl0 : (0 : Int) ≤ (C.length : Int) := by omega
                  clear he0 hpu hark2 hpl hla hsc
                  go_wp2_with (first | (go_at_call 29; refine ((unhide HLN) _ (unhide HV)).mono ?_; rintro e w3 ⟨rfl, rfl⟩) | (go_at_call 30; refine ((unhide HN) _ (unhide HV)).mono ?_; rintro e w4 ⟨n, ao, mm, cc, rfl, hq, hv⟩; obtain ⟨nk, nsp, nnm, nav, nda, nsy, npa, nfi, nla, npr, nne, nin, nat⟩ := n; have E4 := hide hv; simp only [nodeV, NodeM.cells]; simp only [keyN, Key.mk.injEq] at hq; obtain ⟨rfl, rfl, rfl⟩ := hq; have qm : ((w4.alloc (.cells #[.int .i64 1, .int .i64 0, .string nnm, .slice ao mm cc, .string nda, .string nsy, .int .i64 npa, .int .i64 nfi, .int .i64 nla, .int .i64 npr, .int .i64 nne, .int .i64 nin] 69)).alloc (.cells #[.int .i64 1, .string nnm, .string ⟨#[]⟩, .string ⟨#[]⟩, .int .i64 0, .bool false, .int .i32 0, .bool false, .slice none 0 0] 52)).cell? ⟨bm, om + i, none⟩ = some (.int .u8 zm) := (unhide HZM) _ (hv.bel.trans ((below_two w4 (.cells #[.int .i64 1, .int .i64 0, .string nnm, .slice ao mm cc, .string nda, .string nsy, .int .i64 npa, .int .i64 nfi, .int .i64 nla, .int .i64 npr, .int .i64 nne, .int .i64 nin] 69) (.cells #[.int .i64 1, .string nnm, .string ⟨#[]⟩, .string ⟨#[]⟩, .int .i64 0, .bool false, .int .i32 0, .bool false, .slice none 0 0] 52)).mono hv.bel.size)); clear hv) | (go_at_call 32; have hv5 := (show Env w _ [arOb _ bA ks, liOb _ bL bA es, (fixOb _ w4.heap.size 2 (fun j => if j = 0 then (.cells #[.int .i64 1, .int .i64 0, .string nnm, .slice ao mm cc, .string nda, .string nsy, .int .i64 npa, .int .i64 nfi, .int .i64 nla, .int .i64 npr, .int .i64 nne, .int .i64 nin] 69) else (.cells #[.int .i64 1, .string nnm, .string ⟨#[]⟩, .string ⟨#[]⟩, .int .i64 0, .bool false, .int .i32 0, .bool false, .slice none 0 0] 52)))] from (env_fix (unhide E4) (below_two _ _ _) 2 _ (two_fix _ _ _))); refine ((unhide HP) _ (fixOb _ w4.heap.size 2 (fun j => if j = 0 then (.cells #[.int .i64 1, .int .i64 0, .string nnm, .slice ao mm cc, .string nda, .string nsy, .int .i64 npa, .int .i64 nfi, .int .i64 nla, .int .i64 npr, .int .i64 nne, .int .i64 nin] 69) else (.cells #[.int .i64 1, .string nnm, .string ⟨#[]⟩, .string ⟨#[]⟩, .int .i64 0, .bool false, .int .i32 0, .bool false, .slice none 0 0] 52))) _ _ hv5 (attrs_none _)).mono ?_; clear hv5; rintro e w5 ⟨rfl, hv⟩; have E5 := hide hv; have n2 : w5.cell? ⟨w4.heap.size, 2, none⟩ = some (.string nnm) := (cell_of_row _ _ 2 _ _ _ (hv.fixed (i := 2) rfl (j := 0) (by omega))); have t8 : w5.cell? ⟨w4.heap.size + 1, 8, none⟩ = some (.slice none 0 0) := (cell_of_row _ _ 8 _ _ _ (hv.fixed (i := 2) rfl (j := 1) (by omega))); clear hv) | (go_at_call 23; refine ((unhide HF) _ _ (unhide E5)).mono ?_; rintro e w6 ⟨rfl, hv⟩; have E6 := hide hv; have n3 : w6.cell? ⟨w4.heap.size, 2, none⟩ = some (.string nnm) := (cell_of_row _ _ 2 _ _ _ (hv.fixed (i := 2) rfl (j := 0) (by omega))); clear hv) | (go_at_call 22; refine ((unhide HLE) _ _ (by first | exact unhide E7 | exact unhide E6)).mono ?_; rintro e w8 ⟨rfl, rfl⟩) | (go_at_call 33; refine ((unhide HLA) _ _ (unhide E6)).mono ?_; rintro e w7 ⟨rfl, hv⟩; have E7 := hide hv; have n4 : w7.cell? ⟨w4.heap.size, 2, none⟩ = some (.string nnm) := (cell_of_row _ _ 2 _ _ _ (hv.fixed (i := 2) rfl (j := 0) (by omega))); have t4 : w7.cell? ⟨w4.heap.size + 1, 8, none⟩ = some (.slice none 0 0) := (cell_of_row _ _ 8 _ _ _ (hv.fixed (i := 2) rfl (j := 1) (by omega))); clear hv))
                  obtain ⟨FO, hFO⟩ : ∃ FO, FO = (fixOb w.heap.size w4.heap.size 2 (fun j => if j = 0 then (.cells #[.int .i64 1, .int .i64 0, .string nnm, .slice ao mm cc, .string nda, .string nsy, .int .i64 npa, .int .i64 nfi, .int .i64 nla, .int .i64 npr, .int .i64 nne, .int .i64 nin] 69) else (.cells #[.int .i64 1, .string nnm, .string ⟨#[]⟩, .string ⟨#[]⟩, .int .i64 0, .bool false, .int .i32 0, .bool false, .slice none 0 0] 52))) := ⟨_, rfl⟩
                  rw [← hFO] at E7
                  have HFO : Hid ((entA i nnm []) = (entA i nnm [])) := hide rfl
                  clear HFO
                  go_loopg [15, 16, 17, 18, 19, 20] (C.length + 1) (fun g s15 s16 _ _ _ _ wr2 => ∃ (c e : Int), s16 = .int .i64 ((g : Int) - 1) ∧ s15 = .int .i64 c ∧ 0 ≤ c ∧ c + (g : Int) ≤ (C.length : Int) + 1 ∧ (scanE (entA i nnm []) (C ++ [entA i nnm []]) g (e, c)).2 ≤ 3 ∧ Env w wr2 [arOb _ bA ks, liOb _ bL bA (C ++ [entA i nnm []]), FO])
                  case atStart => exact ⟨0, 0, by go_num, rfl, by omega, by omega, (unhide HC0).2, unhide E7⟩
                  case round =>
                    obtain ⟨c, e0, rfl, rfl, hc0, hcg, hsc, hv⟩ := hrel
                    have EV := hide hv
                    clear hv
                    cases gk with
                    | zero =>
                      have hc3 : c ≤ 3 := hsc
                      have hm1 : ((0 : Nat) : Int) - 1 = -1 := by omega
                      rw [hm1]
                      clear hm1 hsc hcg
                      go_wp2
                      go_roundg (100 - (i + 1))
                      case measure => have := unhide HI; omega
                      case rel => exact ⟨i + 1, (C ++ [entA i nnm []]), by go_num, by have := unhide HI; omega, by omega, (unhide HC0).1.up (by omega) (by omega), (unhide EV).take 2⟩
                    | succ n =>
                      have hm1 : ((n + 1 : Nat) : Int) - 1 = (n : Int) := by omega
                      rw [hm1]
                      have hn0 : (0 : Int) ≤ (n : Int) := by omega
                      obtain ⟨y, hy⟩ : ∃ y, (C ++ [entA i nnm []])[n]? = some y := ⟨_, List.getElem?_eq_getElem (by rw [List.length_append]; simp; omega)⟩
                      have hok := ark_at (unhide HC0).1 hy
                      have HAT : Hid (∀ wx o, Env w wx [arOb _ bA ks, liOb _ bL bA (C ++ [entA i nnm []]), o] → Calls Try.prog 25 #[.pointer (some ⟨bL, 0, none⟩), .int .i64 (n : Int)] wx fun e w' => ∃ ao ac, e = .returned (.tuple #[entV y (.slice ao y.tok.attrs.length ac), .int .i64 0]) ∧ AtrS w' wx.heap.size ao y.tok.attrs ∧ Env w w' [arOb _ bA ks, liOb _ bL bA (C ++ [entA i nnm []]), o]) := hide (fun wx o hv => env_lat hv (j := 1) (bL := bL) (bA := bA) (es := (C ++ [entA i nnm []])) rfl n hy)
                      rw [scanE, hy] at hsc
                      simp only at hsc
                      by_cases hyn : y.node = -1
                      · rw [if_pos hyn] at hsc
                        have hc3 : c ≤ 3 := hsc
                        obtain ⟨y0, y1, y2, t0, t1, t2, t3, t4, t5, t6, t7, yl⟩ := y
                        simp only at hyn
                        subst hyn
                        clear hsc hcg hm1 hok hy
                        go_wp2_with (first | (go_at_call 25; refine ((unhide HAT) _ _ (unhide EV)).mono ?_; rintro e w10 ⟨ya, yc, rfl, _, hv⟩; have E10 := hide hv; simp only [entV, TokM.cells]; clear hv))
                        go_roundg (100 - (i + 1))
                        case measure => have := unhide HI; omega
                        case rel => exact ⟨i + 1, (C ++ [entA i nnm []]), by go_num, by have := unhide HI; omega, by omega, (unhide HC0).1.up (by omega) (by omega), ((unhide E10).take 2).more (below_new _ _)⟩
                      · rw [if_neg hyn, alike_law (.inl rfl) hok hyn] at hsc
                        obtain ⟨j, _, hji, hjk, hjn, _, _⟩ : ∃ j : Nat, 1 ≤ j ∧ j < i + 1 ∧ keyAt ks (j : Int) = some ⟨1, 0, y.nm⟩ ∧ y.node = (j : Int) ∧ y.sp = 0 ∧ (y.tok.attrs = [] ∨ y.tok.attrs = [attX]) := hok.resolve_left (fun e => hyn (by rw [e]; rfl))
                        have HNO : Hid (∀ wx o2, Env w wx [arOb _ bA ks, liOb _ bL bA (C ++ [entA i nnm []]), FO, o2] → Calls Try.prog 30 #[.pointer (some ⟨bA, 0, none⟩), .int .i64 (j : Int)] wx fun e w' => ∃ (n : NodeM) (ao : Option Addr) (m c : Nat), e = .returned (.tuple #[nodeV n (.slice ao m c), .int .i64 0]) ∧ keyN n = ⟨1, 0, y.nm⟩ ∧ Env w w' [arOb _ bA ks, liOb _ bL bA (C ++ [entA i nnm []]), FO, o2]) := hide (fun wx o2 hv => env_node hv (i := 0) (bA := bA) rfl hjk)
                        obtain ⟨y0, y1, y2, t0, t1, t2, t3, t4, t5, t6, t7, yl⟩ := y
                        simp only at hjn hsc HNO
                        subst hjn
                        have hjm : ¬ (j : Int) = -1 := by omega
                        have hHC : Hid (c + 1 + (n : Int) ≤ (C.length : Int) + 1) := hide (by omega)
                        have hcz : c ≤ 400 := by omega
                        clear hcg hm1 hok hy hyn hji hjk
                        have hscT : (y2 = nnm ∧ yl.length = 0) → (scanE (entA i nnm []) (C ++ [entA i nnm []]) n ((n : Int), c + 1)).2 ≤ 3 := fun h => by
                          have h2 := hsc
                          rw [if_pos (by simp only [Bool.and_eq_true, decide_eq_true_eq]; exact h)] at h2
                          exact h2
                        have hscF : ¬ (y2 = nnm ∧ yl.length = 0) → (scanE (entA i nnm []) (C ++ [entA i nnm []]) n (e0, c)).2 ≤ 3 := fun h => by
                          have h2 := hsc
                          rw [if_neg (by simp only [Bool.and_eq_true, decide_eq_true_eq]; exact h)] at h2
                          exact h2
                        have hnz : (n : Int) ≤ 400 := by have := unhide hHC; omega
                        clear hsc
                        by_cases hnm : y2 = nnm
                        · have hbt : (y2.toList == nnm.toList) = true := by rw [hnm]; exact beq_self_eq_true _
                          by_cases hln : yl.length = 0
                          · have HS := hide (hscT ⟨hnm, hln⟩)
                            have hlz : (yl.length : Int) = 0 := by omega
                            clear hscT hscF hln hnm
                            go_wp2_with (first | (go_at_call 25; refine ((unhide HAT) _ _ (unhide EV)).mono ?_; rintro e w10 ⟨ya, yc, rfl, _, hv⟩; have E10 := hide hv; simp only [entV, TokM.cells]; clear hv) | (go_at_call 30; refine ((unhide HNO) _ _ ((unhide E10).boxed _ _)).mono ?_; rintro e w11 ⟨n, ao2, mm2, cc2, rfl, hq, hv⟩; obtain ⟨nk2, nsp2, nnm2, nav2, nda2, nsy2, npa2, nfi2, nla2, npr2, nne2, nin2, nat2⟩ := n; have E11 := hide hv; simp only [nodeV, NodeM.cells]; simp only [keyN, Key.mk.injEq] at hq; obtain ⟨rfl, rfl, rfl⟩ := hq; have z1 := cell_old w11 (.cells #[.int .i64 1, .int .i64 0, .string nnm2, .slice ao2 mm2 cc2, .string nda2, .string nsy2, .int .i64 npa2, .int .i64 nfi2, .int .i64 nla2, .int .i64 npr2, .int .i64 nne2, .int .i64 nin2] 69) (cell_of_row _ w4.heap.size 2 _ _ _ (hv.fixed (i := 2) (congrArg some hFO) (j := 0) (by omega)) : w11.cell? ⟨w4.heap.size, 2, none⟩ = some (.string nnm)); have z2 := cell_old w11 (.cells #[.int .i64 1, .int .i64 0, .string nnm2, .slice ao2 mm2 cc2, .string nda2, .string nsy2, .int .i64 npa2, .int .i64 nfi2, .int .i64 nla2, .int .i64 npr2, .int .i64 nne2, .int .i64 nin2] 69) (cell_of_row _ (w4.heap.size + 1) 8 _ _ _ (hv.fixed (i := 2) (congrArg some hFO) (j := 1) (by omega)) : w11.cell? ⟨w4.heap.size + 1, 8, none⟩ = some (.slice none 0 0)); have z3 := cell_old w11 (.cells #[.int .i64 1, .int .i64 0, .string nnm2, .slice ao2 mm2 cc2, .string nda2, .string nsy2, .int .i64 npa2, .int .i64 nfi2, .int .i64 nla2, .int .i64 npr2, .int .i64 nne2, .int .i64 nin2] 69) (cell_of_row _ w10.heap.size 9 _ _ _ (hv.block (i := 3) rfl) : w11.cell? ⟨w10.heap.size, 9, none⟩ = some (.slice ya yl.length yc)); clear hv))
                            go_roundg n
                            case measure => omega
                            case rel => exact ⟨c + 1, n, by go_num, by go_num, by omega, by have := unhide hHC; omega, unhide HS, ((unhide E11).take 3).more (below_new _ _)⟩
                          · have HS := hide (hscF (fun h => hln h.2))
                            have hlz : ¬ (yl.length : Int) = 0 := by omega
                            clear hscT hscF hln hnm
                            go_wp2_with (first | (go_at_call 25; refine ((unhide HAT) _ _ (unhide EV)).mono ?_; rintro e w10 ⟨ya, yc, rfl, _, hv⟩; have E10 := hide hv; simp only [entV, TokM.cells]; clear hv) | (go_at_call 30; refine ((unhide HNO) _ _ ((unhide E10).boxed _ _)).mono ?_; rintro e w11 ⟨n, ao2, mm2, cc2, rfl, hq, hv⟩; obtain ⟨nk2, nsp2, nnm2, nav2, nda2, nsy2, npa2, nfi2, nla2, npr2, nne2, nin2, nat2⟩ := n; have E11 := hide hv; simp only [nodeV, NodeM.cells]; simp only [keyN, Key.mk.injEq] at hq; obtain ⟨rfl, rfl, rfl⟩ := hq; have z1 := cell_old w11 (.cells #[.int .i64 1, .int .i64 0, .string nnm2, .slice ao2 mm2 cc2, .string nda2, .string nsy2, .int .i64 npa2, .int .i64 nfi2, .int .i64 nla2, .int .i64 npr2, .int .i64 nne2, .int .i64 nin2] 69) (cell_of_row _ w4.heap.size 2 _ _ _ (hv.fixed (i := 2) (congrArg some hFO) (j := 0) (by omega)) : w11.cell? ⟨w4.heap.size, 2, none⟩ = some (.string nnm)); have z2 := cell_old w11 (.cells #[.int .i64 1, .int .i64 0, .string nnm2, .slice ao2 mm2 cc2, .string nda2, .string nsy2, .int .i64 npa2, .int .i64 nfi2, .int .i64 nla2, .int .i64 npr2, .int .i64 nne2, .int .i64 nin2] 69) (cell_of_row _ (w4.heap.size + 1) 8 _ _ _ (hv.fixed (i := 2) (congrArg some hFO) (j := 1) (by omega)) : w11.cell? ⟨w4.heap.size + 1, 8, none⟩ = some (.slice none 0 0)); have z3 := cell_old w11 (.cells #[.int .i64 1, .int .i64 0, .string nnm2, .slice ao2 mm2 cc2, .string nda2, .string nsy2, .int .i64 npa2, .int .i64 nfi2, .int .i64 nla2, .int .i64 npr2, .int .i64 nne2, .int .i64 nin2] 69) (cell_of_row _ w10.heap.size 9 _ _ _ (hv.block (i := 3) rfl) : w11.cell? ⟨w10.heap.size, 9, none⟩ = some (.slice ya yl.length yc)); clear hv))
                            go_roundg n
                            case measure => omega
                            case rel => exact ⟨c, e0, by go_num, rfl, by omega, by have := unhide hHC; omega, unhide HS, ((unhide E11).take 3).more (below_new _ _)⟩
                        · have HS := hide (hscF (fun h => hnm h.1))
                          have hbn : (y2.toList == nnm.toList) = false := beq_eq_false_iff_ne.2 (fun h => hnm (bytes_ext h))
                          clear hscT hscF hnm
                          go_wp2_with (first | (go_at_call 25; refine ((unhide HAT) _ _ (unhide EV)).mono ?_; rintro e w10 ⟨ya, yc, rfl, _, hv⟩; have E10 := hide hv; simp only [entV, TokM.cells]; clear hv) | (go_at_call 30; refine ((unhide HNO) _ _ ((unhide E10).boxed _ _)).mono ?_; rintro e w11 ⟨n, ao2, mm2, cc2, rfl, hq, hv⟩; obtain ⟨nk2, nsp2, nnm2, nav2, nda2, nsy2, npa2, nfi2, nla2, npr2, nne2, nin2, nat2⟩ := n; have E11 := hide hv; simp only [nodeV, NodeM.cells]; simp only [keyN, Key.mk.injEq] at hq; obtain ⟨rfl, rfl, rfl⟩ := hq; have z1 := cell_old w11 (.cells #[.int .i64 1, .int .i64 0, .string nnm2, .slice ao2 mm2 cc2, .string nda2, .string nsy2, .int .i64 npa2, .int .i64 nfi2, .int .i64 nla2, .int .i64 npr2, .int .i64 nne2, .int .i64 nin2] 69) (cell_of_row _ w4.heap.size 2 _ _ _ (hv.fixed (i := 2) (congrArg some hFO) (j := 0) (by omega)) : w11.cell? ⟨w4.heap.size, 2, none⟩ = some (.string nnm)); have z2 := cell_old w11 (.cells #[.int .i64 1, .int .i64 0, .string nnm2, .slice ao2 mm2 cc2, .string nda2, .string nsy2, .int .i64 npa2, .int .i64 nfi2, .int .i64 nla2, .int .i64 npr2, .int .i64 nne2, .int .i64 nin2] 69) (cell_of_row _ (w4.heap.size + 1) 8 _ _ _ (hv.fixed (i := 2) (congrArg some hFO) (j := 1) (by omega)) : w11.cell? ⟨w4.heap.size + 1, 8, none⟩ = some (.slice none 0 0)); have z3 := cell_old w11 (.cells #[.int .i64 1, .int .i64 0, .string nnm2, .slice ao2 mm2 cc2, .string nda2, .string nsy2, .int .i64 npa2, .int .i64 nfi2, .int .i64 nla2, .int .i64 npr2, .int .i64 nne2, .int .i64 nin2] 69) (cell_of_row _ w10.heap.size 9 _ _ _ (hv.block (i := 3) rfl) : w11.cell? ⟨w10.heap.size, 9, none⟩ = some (.slice ya yl.length yc)); clear hv))
                          go_roundg n
                          case measure => omega
                          case rel => exact ⟨c, e0, by go_num, rfl, by omega, by have := unhide hHC; omega, unhide HS, ((unhide E11).take 3).more (below_new _ _)⟩
            · have hlmz : ¬ (i : Int) < (lm.length : Int) := by omega
              clear hlm
              as_aux_lemma =>
                obtain ⟨he0, C, hpu, hark2, hpl, hla, hsc⟩ := ark_push (unhide HK) (unhide HI).2.1 (unhide HKEY) (l := []) (.inl rfl)
                have HC0 := hide (And.intro hark2 hsc)
                have HP : Hid (∀ wx o at0 cp0, Env w wx [arOb _ bA ks, liOb _ bL bA es, o] → AttrsIn wx at0 [] → Calls Try.prog 32 #[.pointer (some ⟨bL, 0, none⟩), .int .i64 (i : Int), .agg #[.int .i64 1, .string qn, .string ⟨#[]⟩, .string ⟨#[]⟩, .int .i64 0, .bool false, .int .i32 0, .bool false, .slice at0 0 cp0]] wx fun e w' => e = .returned (.int .i64 0) ∧ Env w w' [arOb _ bA ks, liOb _ bL bA (C ++ [entA i qn []]), o]) := hide (fun wx o at0 cp0 hv hat => by
                  have h := env_lpush hv (i := 0) (j := 1) (bA := bA) (bL := bL) (es := es) rfl rfl (by have := ((unhide HK)).len; omega) (i : Int) (tokA qn []) at0 cp0 hat (by simp [tokA])
                  rw [he0, hpu] at h
                  exact h)
                have HF : Hid (∀ wx o, Env w wx [arOb _ bA ks, liOb _ bL bA (C ++ [entA i qn []]), o] → Calls Try.prog 23 #[.pointer (some ⟨bL, 0, none⟩), .int .i64 (i : Int)] wx fun e w' => e = .returned (.int .i64 C.length) ∧ Env w w' [arOb _ bA ks, liOb _ bL bA (C ++ [entA i qn []]), o]) := hide (fun wx o hv => by
                  have h := env_lfind hv (j := 1) (bA := bA) (bL := bL) (es := (C ++ [entA i qn []])) rfl (by have := (unhide HC0).1.len; omega) (i : Int)
                  rw [hpl] at h
                  exact h)
                have HLE : Hid (∀ wx o, Env w wx [arOb _ bA ks, liOb _ bL bA (C ++ [entA i qn []]), o] → Calls Try.prog 22 #[.pointer (some ⟨bL, 0, none⟩)] wx fun e w' => e = .returned (.int .i64 ((C.length : Int) + 1)) ∧ wx = w') := hide (fun wx o hv => by
                  have h := env_llen hv (j := 1) (bA := bA) (bL := bL) (es := (C ++ [entA i qn []])) rfl
                  rw [List.length_append] at h
                  exact h)
                have HLA : Hid (∀ wx o, Env w wx [arOb _ bA ks, liOb _ bL bA (C ++ [entA i qn []]), o] → Calls Try.prog 33 #[.pointer (some ⟨bL, 0, none⟩), .string qn] wx fun e w' => e = .returned (.int .i64 i) ∧ Env w w' [arOb _ bA ks, liOb _ bL bA (C ++ [entA i qn []]), o]) := hide (fun wx o hv => by
                  have h := env_llast hv (j := 1) (bA := bA) (bL := bL) (es := (C ++ [entA i qn []])) rfl (by have := (unhide HC0).1.len; omega) qn
                  rw [List.length_append] at h
                  rw [show (C.length + [entA i qn []].length) = C.length + 1 from rfl, hla] at h
                  exact h)
                have hcl : (C.length : Int) ≤ 300 := by have h1 := (unhide HC0).1.len; have h2 := (unhide HI).2.2; rw [List.length_append] at h1; simp at h1; omega
                have hcl0 : (0 : Int) ≤ (C.length : Int) := by omega
                clear he0 hpu hark2 hpl hla hsc
                go_wp2_with (first | (go_at_call 29; refine ((unhide HLN) _ (unhide HV)).mono ?_; rintro e w3 ⟨rfl, rfl⟩) | (go_at_call 30; refine ((unhide HN) _ (unhide HV)).mono ?_; rintro e w4 ⟨n, ao, mm, cc, rfl, hq, hv⟩; obtain ⟨nk, nsp, nnm, nav, nda, nsy, npa, nfi, nla, npr, nne, nin, nat⟩ := n; have E4 := hide hv; simp only [nodeV, NodeM.cells]; simp only [keyN, Key.mk.injEq] at hq; obtain ⟨rfl, rfl, rfl⟩ := hq; clear hv) | (go_at_call 32; have hv5 := (show Env w _ [arOb _ bA ks, liOb _ bL bA es, (fixOb _ w4.heap.size 2 (fun j => if j = 0 then (.cells #[.int .i64 1, .int .i64 0, .string nnm, .slice ao mm cc, .string nda, .string nsy, .int .i64 npa, .int .i64 nfi, .int .i64 nla, .int .i64 npr, .int .i64 nne, .int .i64 nin] 69) else (.cells #[.int .i64 1, .string nnm, .string ⟨#[]⟩, .string ⟨#[]⟩, .int .i64 0, .bool false, .int .i32 0, .bool false, .slice none 0 0] 52)))] from (env_fix (unhide E4) (below_two _ _ _) 2 _ (two_fix _ _ _))); refine ((unhide HP) _ (fixOb _ w4.heap.size 2 (fun j => if j = 0 then (.cells #[.int .i64 1, .int .i64 0, .string nnm, .slice ao mm cc, .string nda, .string nsy, .int .i64 npa, .int .i64 nfi, .int .i64 nla, .int .i64 npr, .int .i64 nne, .int .i64 nin] 69) else (.cells #[.int .i64 1, .string nnm, .string ⟨#[]⟩, .string ⟨#[]⟩, .int .i64 0, .bool false, .int .i32 0, .bool false, .slice none 0 0] 52))) _ _ hv5 (attrs_none _)).mono ?_; clear hv5; rintro e w5 ⟨rfl, hv⟩; have E5 := hide hv; have n2 : w5.cell? ⟨w4.heap.size, 2, none⟩ = some (.string nnm) := (cell_of_row _ _ 2 _ _ _ (hv.fixed (i := 2) rfl (j := 0) (by omega))); have t8 : w5.cell? ⟨w4.heap.size + 1, 8, none⟩ = some (.slice none 0 0) := (cell_of_row _ _ 8 _ _ _ (hv.fixed (i := 2) rfl (j := 1) (by omega))); clear hv) | (go_at_call 23; refine ((unhide HF) _ _ (unhide E5)).mono ?_; rintro e w6 ⟨rfl, hv⟩; have E6 := hide hv; have n3 : w6.cell? ⟨w4.heap.size, 2, none⟩ = some (.string nnm) := (cell_of_row _ _ 2 _ _ _ (hv.fixed (i := 2) rfl (j := 0) (by omega))); clear hv) | (go_at_call 22; refine ((unhide HLE) _ _ (by first | exact unhide E7 | exact unhide E6)).mono ?_; rintro e w8 ⟨rfl, rfl⟩) | (go_at_call 33; refine ((unhide HLA) _ _ (unhide E6)).mono ?_; rintro e w7 ⟨rfl, hv⟩; have E7 := hide hv; have n4 : w7.cell? ⟨w4.heap.size, 2, none⟩ = some (.string nnm) := (cell_of_row _ _ 2 _ _ _ (hv.fixed (i := 2) rfl (j := 0) (by omega))); have t4 : w7.cell? ⟨w4.heap.size + 1, 8, none⟩ = some (.slice none 0 0) := (cell_of_row _ _ 8 _ _ _ (hv.fixed (i := 2) rfl (j := 1) (by omega))); clear hv))
                obtain ⟨FO, hFO⟩ : ∃ FO, FO = (fixOb w.heap.size w4.heap.size 2 (fun j => if j = 0 then (.cells #[.int .i64 1, .int .i64 0, .string nnm, .slice ao mm cc, .string nda, .string nsy, .int .i64 npa, .int .i64 nfi, .int .i64 nla, .int .i64 npr, .int .i64 nne, .int .i64 nin] 69) else (.cells #[.int .i64 1, .string nnm, .string ⟨#[]⟩, .string ⟨#[]⟩, .int .i64 0, .bool false, .int .i32 0, .bool false, .slice none 0 0] 52))) := ⟨_, rfl⟩
                rw [← hFO] at E7
                have HFO : Hid ((entA i nnm []) = (entA i nnm [])) := hide rfl
                clear HFO
                go_loopg [15, 16, 17, 18, 19, 20] (C.length + 1) (fun g s15 s16 _ _ _ _ wr2 => ∃ (c e : Int), s16 = .int .i64 ((g : Int) - 1) ∧ s15 = .int .i64 c ∧ 0 ≤ c ∧ c + (g : Int) ≤ (C.length : Int) + 1 ∧ (scanE (entA i nnm []) (C ++ [entA i nnm []]) g (e, c)).2 ≤ 3 ∧ Env w wr2 [arOb _ bA ks, liOb _ bL bA (C ++ [entA i nnm []]), FO])
                case atStart => exact ⟨0, 0, by go_num, rfl, by omega, by omega, (unhide HC0).2, unhide E7⟩
                case round =>
                  obtain ⟨c, e0, rfl, rfl, hc0, hcg, hsc, hv⟩ := hrel
                  have EV := hide hv
                  clear hv
                  cases gk with
                  | zero =>
                    have hc3 : c ≤ 3 := hsc
                    have hm1 : ((0 : Nat) : Int) - 1 = -1 := by omega
                    rw [hm1]
                    clear hm1 hsc hcg
                    go_wp2
                    go_roundg (100 - (i + 1))
                    case measure => have := unhide HI; omega
                    case rel => exact ⟨i + 1, (C ++ [entA i nnm []]), by go_num, by have := unhide HI; omega, by omega, (unhide HC0).1.up (by omega) (by omega), (unhide EV).take 2⟩
                  | succ n =>
                    have hm1 : ((n + 1 : Nat) : Int) - 1 = (n : Int) := by omega
                    rw [hm1]
                    have hn0 : (0 : Int) ≤ (n : Int) := by omega
                    obtain ⟨y, hy⟩ : ∃ y, (C ++ [entA i nnm []])[n]? = some y := ⟨_, List.getElem?_eq_getElem (by rw [List.length_append]; simp; omega)⟩
                    have hok := ark_at (unhide HC0).1 hy
                    have HAT : Hid (∀ wx o, Env w wx [arOb _ bA ks, liOb _ bL bA (C ++ [entA i nnm []]), o] → Calls Try.prog 25 #[.pointer (some ⟨bL, 0, none⟩), .int .i64 (n : Int)] wx fun e w' => ∃ ao ac, e = .returned (.tuple #[entV y (.slice ao y.tok.attrs.length ac), .int .i64 0]) ∧ AtrS w' wx.heap.size ao y.tok.attrs ∧ Env w w' [arOb _ bA ks, liOb _ bL bA (C ++ [entA i nnm []]), o]) := hide (fun wx o hv => env_lat hv (j := 1) (bL := bL) (bA := bA) (es := (C ++ [entA i nnm []])) rfl n hy)
                    rw [scanE, hy] at hsc
                    simp only at hsc
                    by_cases hyn : y.node = -1
                    · rw [if_pos hyn] at hsc
                      have hc3 : c ≤ 3 := hsc
                      obtain ⟨y0, y1, y2, t0, t1, t2, t3, t4, t5, t6, t7, yl⟩ := y
                      simp only at hyn
                      subst hyn
                      clear hsc hcg hm1 hok hy
                      go_wp2_with (first | (go_at_call 25; refine ((unhide HAT) _ _ (unhide EV)).mono ?_; rintro e w10 ⟨ya, yc, rfl, _, hv⟩; have E10 := hide hv; simp only [entV, TokM.cells]; clear hv))
                      go_roundg (100 - (i + 1))
                      case measure => have := unhide HI; omega
                      case rel => exact ⟨i + 1, (C ++ [entA i nnm []]), by go_num, by have := unhide HI; omega, by omega, (unhide HC0).1.up (by omega) (by omega), ((unhide E10).take 2).more (below_new _ _)⟩
                    · rw [if_neg hyn, alike_law (.inl rfl) hok hyn] at hsc
                      obtain ⟨j, _, hji, hjk, hjn, _, _⟩ : ∃ j : Nat, 1 ≤ j ∧ j < i + 1 ∧ keyAt ks (j : Int) = some ⟨1, 0, y.nm⟩ ∧ y.node = (j : Int) ∧ y.sp = 0 ∧ (y.tok.attrs = [] ∨ y.tok.attrs = [attX]) := hok.resolve_left (fun e => hyn (by rw [e]; rfl))
                      have HNO : Hid (∀ wx o2, Env w wx [arOb _ bA ks, liOb _ bL bA (C ++ [entA i nnm []]), FO, o2] → Calls Try.prog 30 #[.pointer (some ⟨bA, 0, none⟩), .int .i64 (j : Int)] wx fun e w' => ∃ (n : NodeM) (ao : Option Addr) (m c : Nat), e = .returned (.tuple #[nodeV n (.slice ao m c), .int .i64 0]) ∧ keyN n = ⟨1, 0, y.nm⟩ ∧ Env w w' [arOb _ bA ks, liOb _ bL bA (C ++ [entA i nnm []]), FO, o2]) := hide (fun wx o2 hv => env_node hv (i := 0) (bA := bA) rfl hjk)
                      obtain ⟨y0, y1, y2, t0, t1, t2, t3, t4, t5, t6, t7, yl⟩ := y
                      simp only at hjn hsc HNO
                      subst hjn
                      have hjm : ¬ (j : Int) = -1 := by omega
                      have hHC : Hid (c + 1 + (n : Int) ≤ (C.length : Int) + 1) := hide (by omega)
                      have hcz : c ≤ 400 := by omega
                      clear hcg hm1 hok hy hyn hji hjk
                      have hscT : (y2 = nnm ∧ yl.length = 0) → (scanE (entA i nnm []) (C ++ [entA i nnm []]) n ((n : Int), c + 1)).2 ≤ 3 := fun h => by
                        have h2 := hsc
                        rw [if_pos (by simp only [Bool.and_eq_true, decide_eq_true_eq]; exact h)] at h2
                        exact h2
                      have hscF : ¬ (y2 = nnm ∧ yl.length = 0) → (scanE (entA i nnm []) (C ++ [entA i nnm []]) n (e0, c)).2 ≤ 3 := fun h => by
                        have h2 := hsc
                        rw [if_neg (by simp only [Bool.and_eq_true, decide_eq_true_eq]; exact h)] at h2
                        exact h2
                      have hnz : (n : Int) ≤ 400 := by have := unhide hHC; omega
                      clear hsc
                      by_cases hnm : y2 = nnm
                      · have hbt : (y2.toList == nnm.toList) = true := by rw [hnm]; exact beq_self_eq_true _
                        by_cases hln : yl.length = 0
                        · have HS := hide (hscT ⟨hnm, hln⟩)
                          have hlz : (yl.length : Int) = 0 := by omega
                          clear hscT hscF hln hnm
                          go_wp2_with (first | (go_at_call 25; refine ((unhide HAT) _ _ (unhide EV)).mono ?_; rintro e w10 ⟨ya, yc, rfl, _, hv⟩; have E10 := hide hv; simp only [entV, TokM.cells]; clear hv) | (go_at_call 30; refine ((unhide HNO) _ _ ((unhide E10).boxed _ _)).mono ?_; rintro e w11 ⟨n, ao2, mm2, cc2, rfl, hq, hv⟩; obtain ⟨nk2, nsp2, nnm2, nav2, nda2, nsy2, npa2, nfi2, nla2, npr2, nne2, nin2, nat2⟩ := n; have E11 := hide hv; simp only [nodeV, NodeM.cells]; simp only [keyN, Key.mk.injEq] at hq; obtain ⟨rfl, rfl, rfl⟩ := hq; have z1 := cell_old w11 (.cells #[.int .i64 1, .int .i64 0, .string nnm2, .slice ao2 mm2 cc2, .string nda2, .string nsy2, .int .i64 npa2, .int .i64 nfi2, .int .i64 nla2, .int .i64 npr2, .int .i64 nne2, .int .i64 nin2] 69) (cell_of_row _ w4.heap.size 2 _ _ _ (hv.fixed (i := 2) (congrArg some hFO) (j := 0) (by omega)) : w11.cell? ⟨w4.heap.size, 2, none⟩ = some (.string nnm)); have z2 := cell_old w11 (.cells #[.int .i64 1, .int .i64 0, .string nnm2, .slice ao2 mm2 cc2, .string nda2, .string nsy2, .int .i64 npa2, .int .i64 nfi2, .int .i64 nla2, .int .i64 npr2, .int .i64 nne2, .int .i64 nin2] 69) (cell_of_row _ (w4.heap.size + 1) 8 _ _ _ (hv.fixed (i := 2) (congrArg some hFO) (j := 1) (by omega)) : w11.cell? ⟨w4.heap.size + 1, 8, none⟩ = some (.slice none 0 0)); have z3 := cell_old w11 (.cells #[.int .i64 1, .int .i64 0, .string nnm2, .slice ao2 mm2 cc2, .string nda2, .string nsy2, .int .i64 npa2, .int .i64 nfi2, .int .i64 nla2, .int .i64 npr2, .int .i64 nne2, .int .i64 nin2] 69) (cell_of_row _ w10.heap.size 9 _ _ _ (hv.block (i := 3) rfl) : w11.cell? ⟨w10.heap.size, 9, none⟩ = some (.slice ya yl.length yc)); clear hv))
                          go_roundg n
                          case measure => omega
                          case rel => exact ⟨c + 1, n, by go_num, by go_num, by omega, by have := unhide hHC; omega, unhide HS, ((unhide E11).take 3).more (below_new _ _)⟩
                        · have HS := hide (hscF (fun h => hln h.2))
                          have hlz : ¬ (yl.length : Int) = 0 := by omega
                          clear hscT hscF hln hnm
                          go_wp2_with (first | (go_at_call 25; refine ((unhide HAT) _ _ (unhide EV)).mono ?_; rintro e w10 ⟨ya, yc, rfl, _, hv⟩; have E10 := hide hv; simp only [entV, TokM.cells]; clear hv) | (go_at_call 30; refine ((unhide HNO) _ _ ((unhide E10).boxed _ _)).mono ?_; rintro e w11 ⟨n, ao2, mm2, cc2, rfl, hq, hv⟩; obtain ⟨nk2, nsp2, nnm2, nav2, nda2, nsy2, npa2, nfi2, nla2, npr2, nne2, nin2, nat2⟩ := n; have E11 := hide hv; simp only [nodeV, NodeM.cells]; simp only [keyN, Key.mk.injEq] at hq; obtain ⟨rfl, rfl, rfl⟩ := hq; have z1 := cell_old w11 (.cells #[.int .i64 1, .int .i64 0, .string nnm2, .slice ao2 mm2 cc2, .string nda2, .string nsy2, .int .i64 npa2, .int .i64 nfi2, .int .i64 nla2, .int .i64 npr2, .int .i64 nne2, .int .i64 nin2] 69) (cell_of_row _ w4.heap.size 2 _ _ _ (hv.fixed (i := 2) (congrArg some hFO) (j := 0) (by omega)) : w11.cell? ⟨w4.heap.size, 2, none⟩ = some (.string nnm)); have z2 := cell_old w11 (.cells #[.int .i64 1, .int .i64 0, .string nnm2, .slice ao2 mm2 cc2, .string nda2, .string nsy2, .int .i64 npa2, .int .i64 nfi2, .int .i64 nla2, .int .i64 npr2, .int .i64 nne2, .int .i64 nin2] 69) (cell_of_row _ (w4.heap.size + 1) 8 _ _ _ (hv.fixed (i := 2) (congrArg some hFO) (j := 1) (by omega)) : w11.cell? ⟨w4.heap.size + 1, 8, none⟩ = some (.slice none 0 0)); have z3 := cell_old w11 (.cells #[.int .i64 1, .int .i64 0, .string nnm2, .slice ao2 mm2 cc2, .string nda2, .string nsy2, .int .i64 npa2, .int .i64 nfi2, .int .i64 nla2, .int .i64 npr2, .int .i64 nne2, .int .i64 nin2] 69) (cell_of_row _ w10.heap.size 9 _ _ _ (hv.block (i := 3) rfl) : w11.cell? ⟨w10.heap.size, 9, none⟩ = some (.slice ya yl.length yc)); clear hv))
                          go_roundg n
                          case measure => omega
                          case rel => exact ⟨c, e0, by go_num, rfl, by omega, by have := unhide hHC; omega, unhide HS, ((unhide E11).take 3).more (below_new _ _)⟩
                      · have HS := hide (hscF (fun h => hnm h.1))
                        have hbn : (y2.toList == nnm.toList) = false := beq_eq_false_iff_ne.2 (fun h => hnm (bytes_ext h))
                        clear hscT hscF hnm
                        go_wp2_with (first | (go_at_call 25; refine ((unhide HAT) _ _ (unhide EV)).mono ?_; rintro e w10 ⟨ya, yc, rfl, _, hv⟩; have E10 := hide hv; simp only [entV, TokM.cells]; clear hv) | (go_at_call 30; refine ((unhide HNO) _ _ ((unhide E10).boxed _ _)).mono ?_; rintro e w11 ⟨n, ao2, mm2, cc2, rfl, hq, hv⟩; obtain ⟨nk2, nsp2, nnm2, nav2, nda2, nsy2, npa2, nfi2, nla2, npr2, nne2, nin2, nat2⟩ := n; have E11 := hide hv; simp only [nodeV, NodeM.cells]; simp only [keyN, Key.mk.injEq] at hq; obtain ⟨rfl, rfl, rfl⟩ := hq; have z1 := cell_old w11 (.cells #[.int .i64 1, .int .i64 0, .string nnm2, .slice ao2 mm2 cc2, .string nda2, .string nsy2, .int .i64 npa2, .int .i64 nfi2, .int .i64 nla2, .int .i64 npr2, .int .i64 nne2, .int .i64 nin2] 69) (cell_of_row _ w4.heap.size 2 _ _ _ (hv.fixed (i := 2) (congrArg some hFO) (j := 0) (by omega)) : w11.cell? ⟨w4.heap.size, 2, none⟩ = some (.string nnm)); have z2 := cell_old w11 (.cells #[.int .i64 1, .int .i64 0, .string nnm2, .slice ao2 mm2 cc2, .string nda2, .string nsy2, .int .i64 npa2, .int .i64 nfi2, .int .i64 nla2, .int .i64 npr2, .int .i64 nne2, .int .i64 nin2] 69) (cell_of_row _ (w4.heap.size + 1) 8 _ _ _ (hv.fixed (i := 2) (congrArg some hFO) (j := 1) (by omega)) : w11.cell? ⟨w4.heap.size + 1, 8, none⟩ = some (.slice none 0 0)); have z3 := cell_old w11 (.cells #[.int .i64 1, .int .i64 0, .string nnm2, .slice ao2 mm2 cc2, .string nda2, .string nsy2, .int .i64 npa2, .int .i64 nfi2, .int .i64 nla2, .int .i64 npr2, .int .i64 nne2, .int .i64 nin2] 69) (cell_of_row _ w10.heap.size 9 _ _ _ (hv.block (i := 3) rfl) : w11.cell? ⟨w10.heap.size, 9, none⟩ = some (.slice ya yl.length yc)); clear hv))
                        go_roundg n
                        case measure => omega
                        case rel => exact ⟨c, e0, by go_num, rfl, by omega, by have := unhide hHC; omega, unhide HS, ((unhide E11).take 3).more (below_new _ _)⟩
        · have hkn : (qk != 1) = true := by simpa using hk
          have HI := hide (And.intro hig (And.intro hi1 h100))
          generalize hle : ks.length = N at *
          clear hq hkey hig hi hi1 h100 hle hk
          go_wp2_with (first | (go_at_call 29; refine ((unhide HLN) _ (unhide HV)).mono ?_; rintro e w3 ⟨rfl, rfl⟩) | (go_at_call 30; refine ((unhide HN) _ (unhide HV)).mono ?_; rintro e w4 ⟨n, ao, mm, cc, rfl, hq, hv⟩; obtain ⟨nk, nsp, nnm, nav, nda, nsy, npa, nfi, nla, npr, nne, nin, nat⟩ := n; have E4 := hide hv; simp only [nodeV, NodeM.cells]; simp only [keyN, Key.mk.injEq] at hq; obtain ⟨rfl, rfl, rfl⟩ := hq; clear hv))
          go_roundg (gk - 1)
          case measure => have := unhide HI; omega
          case rel => exact ⟨i + 1, es, by go_num, by have := unhide HI; omega, by omega, (unhide HK).up (by omega) (by omega), (unhide E4).more (below_new _ _)⟩
      · obtain rfl : i = 100 := by omega
        generalize ks.length = N at *
        clear hig hi1 h100 hi
        go_wp2_with (first | (go_at_call 29; refine ((unhide HLN) _ (unhide HV)).mono ?_; rintro e w3 ⟨rfl, rfl⟩) | (go_at_call 28; refine (lawake_any _).mono ?_; rintro e w5 ⟨rfl, hb⟩; have E5 := hide ((unhide HV).bel.trans (hb.mono (unhide HV).bel.size)); clear hb))
        go_ret
        exact ⟨rfl, unhide E5⟩
    · have hiz : ¬ (i : Int) < (ks.length : Int) := by omega
      generalize ks.length = N at *
      clear hig hi1 hi
      go_wp2_with (first | (go_at_call 29; refine ((unhide HLN) _ (unhide HV)).mono ?_; rintro e w3 ⟨rfl, rfl⟩) | (go_at_call 28; refine (lawake_any _).mono ?_; rintro e w5 ⟨rfl, hb⟩; have E5 := hide ((unhide HV).bel.trans (hb.mono (unhide HV).bel.size)); clear hb))
      go_ret
      exact ⟨rfl, unhide E5⟩
end Go.Proofs.Ytdabgeippkmgaaa
