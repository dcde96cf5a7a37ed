/-
  The agency: its run, eight rounds at most. The adoption agency, whole.
-/
import Derived.Test.YtkakncngkmoegaaGreatYXJl
import Derived.Test.YtkakncngkmoegaaGreatZHa
import Derived.Test.YtkakncngkmoegaaGreatZHb
namespace Go.Proofs.YtkakncngkmoegaaGreat
open Go.RowKit Go.Sort

section
variable {w wx : World} {P : Pt} {s : St} {c : Ct} {rest : List (Ob w.heap.size)} {N : Nat}
/-- The variable for the error is written: nothing is changed. -/
theorem AE.setE {W : World} (h : AE w W P s c ((rest ++ [blkOb _ wx.heap.size #[.pointer (some ⟨P.bG, 0, none⟩)] 83]) ++ [blkOb _ (wx.heap.size + 1) #[.int .i64 0] 36])) : AE w (W.setCell ⟨wx.heap.size + 1, 0, none⟩ (.int .i64 0)) P s c ((rest ++ [blkOb _ wx.heap.size #[.pointer (some ⟨P.bG, 0, none⟩)] 83]) ++ [blkOb _ (wx.heap.size + 1) #[.int .i64 0] 36]) := h.setLast 0 (.int .i64 0)
theorem AE.boxe_ne {W : World} (h : AE w W P s c ((rest ++ [blkOb _ wx.heap.size #[.pointer (some ⟨P.bG, 0, none⟩)] 83]) ++ [blkOb _ (wx.heap.size + 1) #[.int .i64 0] 36])) : ¬ P.bG = wx.heap.size ∧ ¬ wx.heap.size = P.bG ∧ ¬ P.bG = wx.heap.size + 1 ∧ ¬ wx.heap.size + 1 = P.bG := by
  have h1 := h.block (i := rest.length) (K := wx.heap.size) (cs := #[.pointer (some ⟨P.bG, 0, none⟩)]) (t := 83) (by simp)
  have h2 := h.block (i := rest.length + 1) (K := wx.heap.size + 1) (cs := #[.int .i64 0]) (t := 36) (by simp)
  obtain ⟨v, hm, _⟩ := h.ag
  have hb := hm.box
  have k1 : ¬ P.bG = wx.heap.size := fun e => by
    rw [e, h1] at hb
    simp [agCells] at hb
  have k2 : ¬ P.bG = wx.heap.size + 1 := fun e => by
    rw [e, h2] at hb
    simp [agCells] at hb
  exact ⟨k1, fun e => k1 e.symm, k2, fun e => k2 e.symm⟩
/-- What a round asks. -/
structure RoI (w : World) (P : Pt) (name : ByteArray) (R : St × Bool × Int) (c : Ct) (N g : Nat) (st : St) (er : Int) (W : World) (r : List (Ob w.heap.size)) : Prop where
  ae : AE w W P st ⟨false, er, c.cnt + 350000 * (8 - g)⟩ r
  inv : Inv st (N + 8 * (8 - g))
  mrk : st.mark ≤ 1000000
  lo : c.errs ≤ er
  hi : er ≤ c.errs + (8 - g : Nat)
  out : roundsP name P.foster g st er = R
  le : g ≤ 8
set_option maxHeartbeats 8000000 in
set_option maxRecDepth 20000 in
theorem grun_any (h : AE w wx P s c rest) (hi : Inv s N) (hN : N + 64 ≤ 32768) (hc : c.cnt < 500000000) (hmk : s.mark ≤ 1000000) (hca : c.another = false) (he0 : -1000 ≤ c.errs ∧ c.errs ≤ 1000) (name : ByteArray) :
    Calls Tryz.prog 39 #[.pointer (some ⟨P.bG, 0, none⟩), .string name] wx fun e w' => e = .returned (.int .i64 0) ∧ AE w w' P (roundsP name P.foster 8 s c.errs).1 ⟨(roundsP name P.foster 8 s c.errs).2.1, (roundsP name P.foster 8 s c.errs).2.2, c.cnt + 3000000⟩ rest := by
  obtain ⟨R, hR⟩ : ∃ R, roundsP name P.foster 8 s c.errs = R := ⟨_, rfl⟩
  rw [hR]
  have HC := hide (fun W (s' : St) (c' : Ct) (hW : AE w W P s' c' ((rest ++ [blkOb _ wx.heap.size #[.pointer (some ⟨P.bG, 0, none⟩)] 83]) ++ [blkOb _ (wx.heap.size + 1) #[.int .i64 0] 36])) => And.intro hW.boxe_cells hW.cells)
  have HFIN := hide (fun W W' (s' : St) (c' : Ct) (hW : AE w W P s' c' ((rest ++ [blkOb _ wx.heap.size #[.pointer (some ⟨P.bG, 0, none⟩)] 83]) ++ [blkOb _ (wx.heap.size + 1) #[.int .i64 0] 36])) (hm : Mod (fun k => k = wx.heap.size + 1) W W') => (hW.wrote hm).drop1)
  have HSE := hide (fun W (s' : St) (c' : Ct) (hW : AE w W P s' c' ((rest ++ [blkOb _ wx.heap.size #[.pointer (some ⟨P.bG, 0, none⟩)] 83]) ++ [blkOb _ (wx.heap.size + 1) #[.int .i64 0] 36])) => hW.setE)
  have HNE := hide (fun W (s' : St) (c' : Ct) (hW : AE w W P s' c' ((rest ++ [blkOb _ wx.heap.size #[.pointer (some ⟨P.bG, 0, none⟩)] 83]) ++ [blkOb _ (wx.heap.size + 1) #[.int .i64 0] 36])) => hW.boxe_ne)
  have hbx := h.boxe
  obtain ⟨⟨z0, z1, z2⟩, g0, g1, g2, g3, g4, g5, g6⟩ := (unhide HC) _ _ _ hbx
  have HRO : Hid (RoI w P name R c N 8 s c.errs _ ((rest ++ [blkOb _ wx.heap.size #[.pointer (some ⟨P.bG, 0, none⟩)] 83]) ++ [blkOb _ (wx.heap.size + 1) #[.int .i64 0] 36])) := hide ⟨by rw [← hca]; exact hbx, hi.mono (by omega), hmk, Int.le_refl _, by simp, hR, Nat.le_refl _⟩
  generalize hRR : ((rest ++ [blkOb w.heap.size wx.heap.size #[.pointer (some ⟨P.bG, 0, none⟩)] 83]) ++ [blkOb w.heap.size (wx.heap.size + 1) #[.int .i64 0] 36]) = rest2 at *
  generalize hW0 : (wx.alloc (.cells #[.pointer (some ⟨P.bG, 0, none⟩)] 83)).alloc (.cells #[.int .i64 0] 36) = W0 at *
  have HCC := hide hc
  have HNN := hide hN
  have HE0 := hide he0
  clear h hi hc hmk hca hbx hRR hR hN he0
  go_enter_defers Tryz.func39, Tryz.ntmps39
  go_wp2
  clear hW0
  refine wp_scope_jumps 0 (fun a' w' => AE w w' P R.1 ⟨R.2.1, R.2.2, c.cnt + 3000000⟩ rest2 ∧ ∃ u3 u5 u6 u7 u8 u9 u10 u11 u12 u13 u14 u15 u16 u17 u18 u19 u20 u21 u22 u23 u24 u25 u26 u27 u28 u29 u30 u31 u32 u33 u34 u35 u36 u37 u38 u39 u40 u41 u42 u43 u44 u45 u46 u47 u48 u49 u50 u51 u52 u53 u54 u55 u56 u57 u58 u59 u60 u61 u62 u63 u64 u65 u66 u67 u68 u69 u70 u71 u72 u73 u74 u75 u76 u77 u78 u79 u80 u81 u82 u83 u84 : Value, a' = { tmps := List.toArray ((.pointer (some ⟨P.bG, 0, none⟩)) :: (.string name) :: (.pointer (some ⟨wx.heap.size, 0, none⟩)) :: u3 :: (.pointer (some ⟨wx.heap.size + 1, 0, none⟩)) :: u5 :: u6 :: u7 :: u8 :: u9 :: u10 :: u11 :: u12 :: u13 :: u14 :: u15 :: u16 :: u17 :: u18 :: u19 :: u20 :: u21 :: u22 :: u23 :: u24 :: u25 :: u26 :: u27 :: u28 :: u29 :: u30 :: u31 :: u32 :: u33 :: u34 :: u35 :: u36 :: u37 :: u38 :: u39 :: u40 :: u41 :: u42 :: u43 :: u44 :: u45 :: u46 :: u47 :: u48 :: u49 :: u50 :: u51 :: u52 :: u53 :: u54 :: u55 :: u56 :: u57 :: u58 :: u59 :: u60 :: u61 :: u62 :: u63 :: u64 :: u65 :: u66 :: u67 :: u68 :: u69 :: u70 :: u71 :: u72 :: u73 :: u74 :: u75 :: u76 :: u77 :: u78 :: u79 :: u80 :: u81 :: u82 :: u83 :: u84 :: []), defers := [{ target := Target.fn (.func 86) #[.pointer (some ⟨wx.heap.size + 1, 0, none⟩), .pointer (some ⟨wx.heap.size, 0, none⟩)], args := #[] }] }) (fun _ _ => 0) rfl ?_ ?_
  · go_wp2
    go_loopg [5, 6, 8] 8 (fun g _ _ s8 wr => ∃ (st : St) (er : Int), s8 = .int .i64 ((8 - g : Nat) : Int) ∧ RoI w P name R c N g st er wr rest2)
    case atStart => exact ⟨s, c.errs, rfl, unhide HRO⟩
    case round =>
      obtain ⟨st, er, rfl, hro⟩ := hrel
      cases gk with
      | zero =>
        have hR := hro.out
        unfold roundsP at hR
        subst hR
        have hcn := hro.ae.cnt (c.cnt + 3000000) (by simp only; omega)
        clear z0 z1 z2 g0 g1 g2 g3 g4 g5 g6
        obtain ⟨⟨z0, z1, z2⟩, _⟩ := (unhide HC) _ _ _ hcn
        have HA := hide hcn
        clear hro hcn
        go_wp2
        go_step3
        go_wp2
        refine leaves_cons (f := 86) (args := #[.pointer (some ⟨wx.heap.size + 1, 0, none⟩), .pointer (some ⟨wx.heap.size, 0, none⟩)]) (by simp) (by simp [go_sem]) ?_
        refine (grun_deferred _ _ _ .returning ?_).mono ?_
        · exact World.cell?_setCell_same _ _ _ z1
        rintro e u' w2 ⟨rfl, rfl, rfl⟩
        have hm : Mod (fun k => k = wx.heap.size + 1) wr (wr.setCell ⟨wx.heap.size + 1, 0, none⟩ (.int .i64 0)) := Mod.setCell _ _ _ rfl
        have hfin := (unhide HFIN) _ _ _ _ (unhide HA) hm
        have hcl : (wr.setCell ⟨wx.heap.size + 1, 0, none⟩ (.int .i64 0)).cell? ⟨wx.heap.size + 1, 0, none⟩ = some (.int .i64 0) := World.cell?_setCell_same _ _ _ z1
        exact ⟨.int .i64 0, err_ret Tryz.results39 hcl _ rfl, rfl, hfin⟩
      | succ g =>
        obtain ⟨j, hj⟩ : ∃ j : Nat, 8 - (g + 1) = j := ⟨_, rfl⟩
        have hg8 := hro.le
        have hj8 : (j : Int) < 8 := by omega
        have hjw : IntKind.i64.wrap ((j : Int) + 1) = (j : Int) + 1 := wrap_small (by omega) (by omega)
        have HJ : Hid (8 - g = j + 1) := hide (by omega)
        obtain ⟨cs, hcs⟩ : ∃ cs : Ct, (⟨false, er, c.cnt + 350000 * j⟩ : Ct) = cs := ⟨_, rfl⟩
        have hae : AE w wr P st cs rest2 := by have := hro.ae; rw [hj, hcs] at this; exact this
        have HINV : Hid (Inv st (N + 8 * j)) := hide (by have := hro.inv; rwa [hj] at this)
        have HAD : Hid (N + 8 * j + 8 ≤ 32768) := hide (by have := unhide HNN; omega)
        have HMRK := hide hro.mrk
        have HK : Hid (cs.cnt < 700000000) := hide (by rw [← hcs]; have := unhide HCC; simp only; omega)
        have hel := hro.lo
        have heh := hro.hi
        rw [hj] at heh
        have HER := hide (And.intro hel heh)
        have hew : IntKind.i64.wrap (er + 1) = er + 1 := by have := unhide HE0; exact wrap_small (by omega) (by omega)
        have HOUT : Hid (roundsP name P.foster (g + 1) st er = R) := hide hro.out
        have HCN : Hid (∀ W (s' : St) (b : Bool) (e : Int) (m : Nat), AE w W P s' ⟨b, e, m⟩ rest2 → m ≤ cs.cnt + 10 → AE w W P s' ⟨b, e, c.cnt + 3000000⟩ rest2) := hide (fun W s' b e m hW hm => hW.cnt _ (by rw [← hcs] at hm; simp only at hm ⊢; omega))
        have HNX : Hid (∀ W (s' : St) (e : Int), AE w W P s' ⟨cs.another, e, cs.cnt + 300000⟩ rest2 → AE w W P s' ⟨false, e, c.cnt + 350000 * (8 - g)⟩ rest2) := hide (fun W s' e hW => by
          rw [unhide HJ]
          have h2 := hW.cnt (c.cnt + 350000 * (j + 1)) (by rw [← hcs]; simp only; omega)
          rw [← hcs] at h2
          exact h2)
        have hcs1 : cs.another = false := by rw [← hcs]
        have hcs2 : cs.errs = er := by rw [← hcs]
        have HCS := hide (And.intro hcs1 hcs2)
        rw [hj]
        clear hro hj hg8 hel heh hcs hcs1 hcs2 HRO
        obtain ⟨f, hf⟩ : ∃ f, lastE name st.es st.es.length = f := ⟨_, rfl⟩
        have HLA := hide (fun W (hW : AE w W P st cs rest2) => ae_llast hW (unhide HINV) name)
        rw [hf] at HLA
        have hrd := unhide HOUT
        unfold roundsP roundP at hrd
        rw [hf] at hrd
        have HPL : Hid (f ≠ -1 → 0 ≤ placeE st.es f) := hide (fun h => by rw [← hf]; exact place_last (by rw [hf]; exact h))
        clear hf
        have HA := hide hae
        clear z0 z1 z2 g0 g1 g2 g3 g4 g5 g6
        obtain ⟨⟨z0, z1, z2⟩, g0, g1, g2, g3, g4, g5, g6⟩ := (unhide HC) _ _ _ hae
        have HFR := hide (fun W (s' : St) (c' : Ct) (hW : AE w W P s' c' rest2) => And.intro (hW.free 4) (hW.free 5))
        obtain ⟨n1, n2, n3, n4⟩ := (unhide HNE) _ _ _ hae
        obtain ⟨f4, f5⟩ := (unhide HFR) _ _ _ hae
        clear hae
        by_cases hf1 : f = -1
        · rw [if_pos hf1] at hrd
          simp only [Bool.false_eq_true, if_false] at hrd
          have HRD := hide hrd
          have hf2 : (f == -1) = true := by simpa using hf1
          subst hf1
          have HAN := hide (fun W (hW : AE w W P st cs rest2) => hW.setAnother true)
          clear hrd
          go_wp2_with (first
            | (go_at_call 88; refine ((unhide HLA) _ (unhide HA)).mono ?_; rintro e w1 ⟨rfl, he1⟩; have HA1 := hide he1; clear z0 z1 z2 g0 g1 g2 g3 g4 g5 g6 f4 f5; obtain ⟨⟨z0, z1, z2⟩, g0, g1, g2, g3, g4, g5, g6⟩ := (unhide HC) _ _ _ he1; obtain ⟨f4, f5⟩ := (unhide HFR) _ _ _ he1; (try rw [(unhide HCS).2] at g5); clear he1))
          go_step3
          have e2 := unhide HRD
          subst e2
          exact ⟨rfl, by have h2 := (unhide HCN) _ _ _ _ _ ((unhide HAN) _ (unhide HA1)) (by omega); rw [(unhide HCS).2] at h2; exact h2, _, _, _, _, _, _, _, _, _, _, _, _, _, _, _, _, _, _, _, _, _, _, _, _, _, _, _, _, _, _, _, _, _, _, _, _, _, _, _, _, _, _, _, _, _, _, _, _, _, _, _, _, _, _, _, _, _, _, _, _, _, _, _, _, _, _, _, _, _, _, _, _, _, _, _, _, _, _, _, _, _, rfl⟩
        · rw [if_neg hf1] at hrd
          have hf2 : (f == -1) = false := by simpa using hf1
          have HPF := hide ((unhide HPL) hf1)
          have HFI := hide (fun W (hW : AE w W P st cs rest2) => ae_sfind hW (unhide HINV) f)
          have HSER := hide (fun W (hW : AE w W P st cs rest2) => hW.setErrs (er + 1))
          have HERR := hide (fun W (hW : AE w W P st cs rest2) => hW.cells.2.2.2.2.2.1)
          rw [(unhide HCS).2] at HERR g5
          clear hf1 HPL
          by_cases hfd : findM st.L f < 0
          · rw [if_pos hfd] at hrd
            simp only [Bool.false_eq_true, if_false] at hrd
            have HRD := hide hrd
            have HDR := hide (fun W (hW : AE w W P st ⟨cs.another, er + 1, cs.cnt⟩ rest2) => gdrop_any hW (unhide HINV) (by have := unhide HK; simp only; omega) (unhide HMRK) f (unhide HPF))
            clear hrd
            go_wp2_with (first
              | (go_at_call 88; refine ((unhide HLA) _ (unhide HA)).mono ?_; rintro e w1 ⟨rfl, he1⟩; have HA1 := hide he1; clear z0 z1 z2 g0 g1 g2 g3 g4 g5 g6 f4 f5; obtain ⟨⟨z0, z1, z2⟩, g0, g1, g2, g3, g4, g5, g6⟩ := (unhide HC) _ _ _ he1; obtain ⟨f4, f5⟩ := (unhide HFR) _ _ _ he1; (try rw [(unhide HCS).2] at g5); clear he1)
              | (go_at_call 89; refine ((unhide HFI) _ (unhide HA1)).mono ?_; rintro e w2 ⟨rfl, rfl⟩)
              | (go_at_call 90; refine ((unhide HDR) _ ((unhide HSER) _ (unhide HA1))).mono ?_; rintro e w7 ⟨rfl, he7⟩; have HA7 := hide he7; clear he7 f4 f5 z0 z1 z2 g0 g1 g2 g3 g4 g5 g6))
            go_step3
            have e2 := unhide HRD
            subst e2
            exact ⟨rfl, by have h2 := (unhide HCN) _ _ _ _ _ (unhide HA7) (by first | omega | (simp only; omega)); simp only [(unhide HCS).1] at h2; exact h2, _, _, _, _, _, _, _, _, _, _, _, _, _, _, _, _, _, _, _, _, _, _, _, _, _, _, _, _, _, _, _, _, _, _, _, _, _, _, _, _, _, _, _, _, _, _, _, _, _, _, _, _, _, _, _, _, _, _, _, _, _, _, _, _, _, _, _, _, _, _, _, _, _, _, _, _, _, _, _, _, _, rfl⟩
          · rw [if_neg hfd] at hrd
            have HFD := hide (show 0 ≤ findM st.L f by omega)
            have HNS := hide (fun W (hW : AE w W P st cs rest2) => ae_nodeScope hW (unhide HINV) f 0)
            cases hsc : nodeScopeM (keysO st.os) st.L f 0 with
            | false =>
              rw [hsc, if_pos (show false = false from rfl)] at hrd
              simp only [Bool.false_eq_true, if_false] at hrd
              rw [hsc] at HNS
              have HRD := hide hrd
              clear hrd hsc
              go_wp2_with (first
                | (go_at_call 88; refine ((unhide HLA) _ (unhide HA)).mono ?_; rintro e w1 ⟨rfl, he1⟩; have HA1 := hide he1; clear z0 z1 z2 g0 g1 g2 g3 g4 g5 g6 f4 f5; obtain ⟨⟨z0, z1, z2⟩, g0, g1, g2, g3, g4, g5, g6⟩ := (unhide HC) _ _ _ he1; obtain ⟨f4, f5⟩ := (unhide HFR) _ _ _ he1; (try rw [(unhide HCS).2] at g5); clear he1)
                | (go_at_call 89; refine ((unhide HFI) _ (unhide HA1)).mono ?_; rintro e w2 ⟨rfl, rfl⟩)
                | (go_at_call 91; refine ((unhide HNS) _ (unhide HA1)).mono ?_; rintro e w3 ⟨rfl, he3⟩; have HA3 := hide he3; clear z0 z1 z2 g0 g1 g2 g3 g4 g5 g6 f4 f5; obtain ⟨⟨z0, z1, z2⟩, g0, g1, g2, g3, g4, g5, g6⟩ := (unhide HC) _ _ _ he3; obtain ⟨f4, f5⟩ := (unhide HFR) _ _ _ he3; (try rw [(unhide HCS).2] at g5); clear he3))
              go_step3
              have e2 := unhide HRD
              subst e2
              exact ⟨rfl, by have h2 := (unhide HCN) _ _ _ _ _ ((unhide HSER) _ (unhide HA3)) (by omega); simp only [(unhide HCS).1] at h2; exact h2, _, _, _, _, _, _, _, _, _, _, _, _, _, _, _, _, _, _, _, _, _, _, _, _, _, _, _, _, _, _, _, _, _, _, _, _, _, _, _, _, _, _, _, _, _, _, _, _, _, _, _, _, _, _, _, _, _, _, _, _, _, _, _, _, _, _, _, _, _, _, _, _, _, _, _, _, _, _, _, _, _, rfl⟩
            | true =>
              rw [hsc, if_neg (show ¬ (true = false) by simp)] at hrd
              rw [hsc] at HNS
              have HTO := hide (fun W (hW : AE w W P st cs rest2) => ae_stop hW (unhide HINV))
              have HPO : Hid (∀ W (c' : Ct), AE w W P st c' rest2 → _) := hide (fun W c' hW => gpopTo_any hW (unhide HINV) f (unhide HFD))
              have HDR : Hid (∀ W (c' : Ct), c'.cnt < 1000000000 → AE w W P ⟨st.os, st.L.take (findM st.L f).toNat, st.es, st.mark⟩ c' rest2 → _) := hide (fun W c' hc' hW => gdrop_any hW ((unhide HINV).takeL _) hc' (unhide HMRK) f (unhide HPF))
              have HSP : Hid (∀ W (c' : Ct), AE w W P st c' rest2 → _) := hide (fun W c' hW => gspecial_any hW (unhide HINV) f (unhide HFD))
              clear hsc
              generalize hbl : blockP (keysO st.os) st.L f = b at *
              have HBL := hide hbl
              clear hbl
              by_cases hb1 : b = -1
              · rw [if_pos hb1] at hrd
                simp only [Bool.false_eq_true, if_false] at hrd
                have hb2 : (b == -1) = true := by simpa using hb1
                subst hb1
                by_cases htp : f = topM st.L
                · rw [if_pos htp] at hrd
                  have HRD := hide hrd
                  have htp2 : (f != topM st.L) = false := by simpa using htp
                  clear hrd htp
                  go_wp2_with (first
                    | (go_at_call 88; refine ((unhide HLA) _ (unhide HA)).mono ?_; rintro e w1 ⟨rfl, he1⟩; have HA1 := hide he1; clear z0 z1 z2 g0 g1 g2 g3 g4 g5 g6 f4 f5; obtain ⟨⟨z0, z1, z2⟩, g0, g1, g2, g3, g4, g5, g6⟩ := (unhide HC) _ _ _ he1; obtain ⟨f4, f5⟩ := (unhide HFR) _ _ _ he1; (try rw [(unhide HCS).2] at g5); clear he1)
                    | (go_at_call 89; refine ((unhide HFI) _ (unhide HA1)).mono ?_; rintro e w2 ⟨rfl, rfl⟩)
                    | (go_at_call 91; refine ((unhide HNS) _ (unhide HA1)).mono ?_; rintro e w3 ⟨rfl, he3⟩; have HA3 := hide he3; clear z0 z1 z2 g0 g1 g2 g3 g4 g5 g6 f4 f5; obtain ⟨⟨z0, z1, z2⟩, g0, g1, g2, g3, g4, g5, g6⟩ := (unhide HC) _ _ _ he3; obtain ⟨f4, f5⟩ := (unhide HFR) _ _ _ he3; (try rw [(unhide HCS).2] at g5); clear he3)
                    | (go_at_call 83; refine ((unhide HTO) _ (unhide HA3)).mono ?_; rintro e w4 ⟨rfl, rfl⟩)
                    | (go_at_call 92; refine ((unhide HSP) _ _ (unhide HA3)).mono ?_; rintro e w5 ⟨rfl, he5⟩; have HA5 := hide he5; clear z0 z1 z2 g0 g1 g2 g3 g4 g5 g6 f4 f5; obtain ⟨⟨z0, z1, z2⟩, g0, g1, g2, g3, g4, g5, g6⟩ := (unhide HC) _ _ _ he5; obtain ⟨f4, f5⟩ := (unhide HFR) _ _ _ he5; clear he5)
                    | (go_at_call 93; refine ((unhide HPO) _ _ (unhide HA5)).mono ?_; rintro e w6 ⟨rfl, he6⟩; have HA6 := hide he6; clear z0 z1 z2 g0 g1 g2 g3 g4 g5 g6 f4 f5; obtain ⟨⟨z0, z1, z2⟩, g0, g1, g2, g3, g4, g5, g6⟩ := (unhide HC) _ _ _ he6; obtain ⟨f4, f5⟩ := (unhide HFR) _ _ _ he6; clear he6)
                    | (go_at_call 90; refine ((unhide HDR) _ _ (by have := unhide HK; first | omega | (simp only; omega)) (unhide HA6)).mono ?_; rintro e w7 ⟨rfl, he7⟩; have HA7 := hide he7; clear he7 z0 z1 z2 g0 g1 g2 g3 g4 g5 g6 f4 f5))
                  go_step3
                  have e2 := unhide HRD
                  subst e2
                  exact ⟨rfl, by have h2 := (unhide HCN) _ _ _ _ _ (unhide HA7) (by first | omega | (simp only; omega)); simp only [(unhide HCS).1, (unhide HCS).2] at h2; exact h2, _, _, _, _, _, _, _, _, _, _, _, _, _, _, _, _, _, _, _, _, _, _, _, _, _, _, _, _, _, _, _, _, _, _, _, _, _, _, _, _, _, _, _, _, _, _, _, _, _, _, _, _, _, _, _, _, _, _, _, _, _, _, _, _, _, _, _, _, _, _, _, _, _, _, _, _, _, _, _, _, _, rfl⟩
                · rw [if_neg htp] at hrd
                  have HRD := hide hrd
                  have htp2 : (f != topM st.L) = true := by simpa using htp
                  clear hrd htp
                  go_wp2_with (first
                    | (go_at_call 88; refine ((unhide HLA) _ (unhide HA)).mono ?_; rintro e w1 ⟨rfl, he1⟩; have HA1 := hide he1; clear z0 z1 z2 g0 g1 g2 g3 g4 g5 g6 f4 f5; obtain ⟨⟨z0, z1, z2⟩, g0, g1, g2, g3, g4, g5, g6⟩ := (unhide HC) _ _ _ he1; obtain ⟨f4, f5⟩ := (unhide HFR) _ _ _ he1; (try rw [(unhide HCS).2] at g5); clear he1)
                    | (go_at_call 89; refine ((unhide HFI) _ (unhide HA1)).mono ?_; rintro e w2 ⟨rfl, rfl⟩)
                    | (go_at_call 91; refine ((unhide HNS) _ (unhide HA1)).mono ?_; rintro e w3 ⟨rfl, he3⟩; have HA3 := hide he3; clear z0 z1 z2 g0 g1 g2 g3 g4 g5 g6 f4 f5; obtain ⟨⟨z0, z1, z2⟩, g0, g1, g2, g3, g4, g5, g6⟩ := (unhide HC) _ _ _ he3; obtain ⟨f4, f5⟩ := (unhide HFR) _ _ _ he3; (try rw [(unhide HCS).2] at g5); clear he3)
                    | (go_at_call 83; refine ((unhide HTO) _ (unhide HA3)).mono ?_; rintro e w4 ⟨rfl, rfl⟩)
                    | (go_at_call 92; refine ((unhide HSP) _ _ ((unhide HSER) _ (unhide HA3))).mono ?_; rintro e w5 ⟨rfl, he5⟩; have HA5 := hide he5; clear z0 z1 z2 g0 g1 g2 g3 g4 g5 g6 f4 f5; obtain ⟨⟨z0, z1, z2⟩, g0, g1, g2, g3, g4, g5, g6⟩ := (unhide HC) _ _ _ he5; obtain ⟨f4, f5⟩ := (unhide HFR) _ _ _ he5; clear he5)
                    | (go_at_call 93; refine ((unhide HPO) _ _ (unhide HA5)).mono ?_; rintro e w6 ⟨rfl, he6⟩; have HA6 := hide he6; clear z0 z1 z2 g0 g1 g2 g3 g4 g5 g6 f4 f5; obtain ⟨⟨z0, z1, z2⟩, g0, g1, g2, g3, g4, g5, g6⟩ := (unhide HC) _ _ _ he6; obtain ⟨f4, f5⟩ := (unhide HFR) _ _ _ he6; clear he6)
                    | (go_at_call 90; refine ((unhide HDR) _ _ (by have := unhide HK; first | omega | (simp only; omega)) (unhide HA6)).mono ?_; rintro e w7 ⟨rfl, he7⟩; have HA7 := hide he7; clear he7 z0 z1 z2 g0 g1 g2 g3 g4 g5 g6 f4 f5))
                  go_step3
                  have e2 := unhide HRD
                  subst e2
                  exact ⟨rfl, by have h2 := (unhide HCN) _ _ _ _ _ (unhide HA7) (by first | omega | (simp only; omega)); simp only [(unhide HCS).1] at h2; exact h2, _, _, _, _, _, _, _, _, _, _, _, _, _, _, _, _, _, _, _, _, _, _, _, _, _, _, _, _, _, _, _, _, _, _, _, _, _, _, _, _, _, _, _, _, _, _, _, _, _, _, _, _, _, _, _, _, _, _, _, _, _, _, _, _, _, _, _, _, _, _, _, _, _, _, _, _, _, _, _, _, _, rfl⟩
              · rw [if_neg hb1] at hrd
                simp only [if_true] at hrd
                have hb2 : (b == -1) = false := by simpa using hb1
                have hai : AdI st f b (N + 8 * j) := by
                  have := adI_of (unhide HINV) (unhide HAD) (unhide HPF) (unhide HFD) (by rw [unhide HBL]; exact hb1)
                  rwa [unhide HBL] at this
                have HOK := hide (hai.out P.foster)
                have HADO : Hid (∀ W (c' : Ct), c'.cnt < 800000000 → AE w W P st c' rest2 → _) := hide (fun W c' hc' hW => gadopt_any hW hai hc')
                clear hai hb1 HPO HDR
                generalize adoptP st f b P.foster = sA at *
                by_cases htp : f = topM st.L
                · rw [if_pos htp] at hrd
                  have HRD := hide hrd
                  have htp2 : (f != topM st.L) = false := by simpa using htp
                  clear hrd htp
                  go_wp2_with (first
                    | (go_at_call 88; refine ((unhide HLA) _ (unhide HA)).mono ?_; rintro e w1 ⟨rfl, he1⟩; have HA1 := hide he1; clear z0 z1 z2 g0 g1 g2 g3 g4 g5 g6 f4 f5; obtain ⟨⟨z0, z1, z2⟩, g0, g1, g2, g3, g4, g5, g6⟩ := (unhide HC) _ _ _ he1; obtain ⟨f4, f5⟩ := (unhide HFR) _ _ _ he1; (try rw [(unhide HCS).2] at g5); clear he1)
                    | (go_at_call 89; refine ((unhide HFI) _ (unhide HA1)).mono ?_; rintro e w2 ⟨rfl, rfl⟩)
                    | (go_at_call 91; refine ((unhide HNS) _ (unhide HA1)).mono ?_; rintro e w3 ⟨rfl, he3⟩; have HA3 := hide he3; clear z0 z1 z2 g0 g1 g2 g3 g4 g5 g6 f4 f5; obtain ⟨⟨z0, z1, z2⟩, g0, g1, g2, g3, g4, g5, g6⟩ := (unhide HC) _ _ _ he3; obtain ⟨f4, f5⟩ := (unhide HFR) _ _ _ he3; (try rw [(unhide HCS).2] at g5); clear he3)
                    | (go_at_call 83; refine ((unhide HTO) _ (unhide HA3)).mono ?_; rintro e w4 ⟨rfl, rfl⟩)
                    | (go_at_call 92; refine ((unhide HSP) _ _ (unhide HA3)).mono ?_; rintro e w5 ⟨rfl, he5⟩; have HA5 := hide he5; clear z0 z1 z2 g0 g1 g2 g3 g4 g5 g6 f4 f5; obtain ⟨⟨z0, z1, z2⟩, g0, g1, g2, g3, g4, g5, g6⟩ := (unhide HC) _ _ _ he5; obtain ⟨f4, f5⟩ := (unhide HFR) _ _ _ he5; clear he5)
                    | (go_at_call 94; refine ((unhide HADO) _ _ (by have := unhide HK; first | omega | (simp only; omega)) (unhide HA5)).mono ?_; rintro e w7 ⟨rfl, he7⟩; have HA7 := hide he7; clear z0 z1 z2 g0 g1 g2 g3 g4 g5 g6 f4 f5; obtain ⟨⟨z0, z1, z2⟩, g0, g1, g2, g3, g4, g5, g6⟩ := (unhide HC) _ _ _ he7; obtain ⟨f4, f5⟩ := (unhide HFR) _ _ _ he7; clear he7))
                  go_roundg g
                  case measure => omega
                  case rel =>
                    refine ⟨sA, er, by rw [unhide HJ]; simp, ⟨?_, ?_, (unhide HOK).2.1, (unhide HER).1, ?_, unhide HRD, by have := unhide HJ; omega⟩⟩
                    · have h2 := (unhide HSE) _ _ _ (unhide HA7)
                      rw [(unhide HCS).2] at h2
                      exact (unhide HNX) _ _ _ h2
                    · have h2 := (unhide HOK).1
                      rw [unhide HJ]
                      exact h2.mono (by omega)
                    · have := (unhide HER).2
                      rw [unhide HJ]
                      push_cast
                      omega
                · rw [if_neg htp] at hrd
                  have HRD := hide hrd
                  have htp2 : (f != topM st.L) = true := by simpa using htp
                  clear hrd htp
                  go_wp2_with (first
                    | (go_at_call 88; refine ((unhide HLA) _ (unhide HA)).mono ?_; rintro e w1 ⟨rfl, he1⟩; have HA1 := hide he1; clear z0 z1 z2 g0 g1 g2 g3 g4 g5 g6 f4 f5; obtain ⟨⟨z0, z1, z2⟩, g0, g1, g2, g3, g4, g5, g6⟩ := (unhide HC) _ _ _ he1; obtain ⟨f4, f5⟩ := (unhide HFR) _ _ _ he1; (try rw [(unhide HCS).2] at g5); clear he1)
                    | (go_at_call 89; refine ((unhide HFI) _ (unhide HA1)).mono ?_; rintro e w2 ⟨rfl, rfl⟩)
                    | (go_at_call 91; refine ((unhide HNS) _ (unhide HA1)).mono ?_; rintro e w3 ⟨rfl, he3⟩; have HA3 := hide he3; clear z0 z1 z2 g0 g1 g2 g3 g4 g5 g6 f4 f5; obtain ⟨⟨z0, z1, z2⟩, g0, g1, g2, g3, g4, g5, g6⟩ := (unhide HC) _ _ _ he3; obtain ⟨f4, f5⟩ := (unhide HFR) _ _ _ he3; (try rw [(unhide HCS).2] at g5); clear he3)
                    | (go_at_call 83; refine ((unhide HTO) _ (unhide HA3)).mono ?_; rintro e w4 ⟨rfl, rfl⟩)
                    | (go_at_call 92; refine ((unhide HSP) _ _ ((unhide HSER) _ (unhide HA3))).mono ?_; rintro e w5 ⟨rfl, he5⟩; have HA5 := hide he5; clear z0 z1 z2 g0 g1 g2 g3 g4 g5 g6 f4 f5; obtain ⟨⟨z0, z1, z2⟩, g0, g1, g2, g3, g4, g5, g6⟩ := (unhide HC) _ _ _ he5; obtain ⟨f4, f5⟩ := (unhide HFR) _ _ _ he5; clear he5)
                    | (go_at_call 94; refine ((unhide HADO) _ _ (by have := unhide HK; first | omega | (simp only; omega)) (unhide HA5)).mono ?_; rintro e w7 ⟨rfl, he7⟩; have HA7 := hide he7; clear z0 z1 z2 g0 g1 g2 g3 g4 g5 g6 f4 f5; obtain ⟨⟨z0, z1, z2⟩, g0, g1, g2, g3, g4, g5, g6⟩ := (unhide HC) _ _ _ he7; obtain ⟨f4, f5⟩ := (unhide HFR) _ _ _ he7; clear he7))
                  go_roundg g
                  case measure => omega
                  case rel =>
                    refine ⟨sA, er + 1, by rw [unhide HJ]; simp, ⟨?_, ?_, (unhide HOK).2.1, by have := (unhide HER).1; omega, ?_, unhide HRD, by have := unhide HJ; omega⟩⟩
                    · exact (unhide HNX) _ _ _ ((unhide HSE) _ _ _ (unhide HA7))
                    · have h2 := (unhide HOK).1
                      rw [unhide HJ]
                      exact h2.mono (by omega)
                    · have := (unhide HER).2
                      rw [unhide HJ]
                      push_cast
                      omega
  · rintro a' w' ⟨hae, u3, u5, u6, u7, u8, u9, u10, u11, u12, u13, u14, u15, u16, u17, u18, u19, u20, u21, u22, u23, u24, u25, u26, u27, u28, u29, u30, u31, u32, u33, u34, u35, u36, u37, u38, u39, u40, u41, u42, u43, u44, u45, u46, u47, u48, u49, u50, u51, u52, u53, u54, u55, u56, u57, u58, u59, u60, u61, u62, u63, u64, u65, u66, u67, u68, u69, u70, u71, u72, u73, u74, u75, u76, u77, u78, u79, u80, u81, u82, u83, u84, rfl⟩
    obtain ⟨⟨z0, z1, z2⟩, _⟩ := (unhide HC) _ _ _ hae
    have HA := hide hae
    clear hae
    go_wp2
    refine leaves_cons (f := 86) (args := #[.pointer (some ⟨wx.heap.size + 1, 0, none⟩), .pointer (some ⟨wx.heap.size, 0, none⟩)]) (by simp) (by simp [go_sem]) ?_
    refine (grun_deferred _ _ _ .returning ?_).mono ?_
    · exact World.cell?_setCell_same _ _ _ z1
    rintro e u' w2 ⟨rfl, rfl, rfl⟩
    have hm : Mod (fun k => k = wx.heap.size + 1) w' (w'.setCell ⟨wx.heap.size + 1, 0, none⟩ (.int .i64 0)) := Mod.setCell _ _ _ rfl
    have hfin := (unhide HFIN) _ _ _ _ (unhide HA) hm
    have hcl : (w'.setCell ⟨wx.heap.size + 1, 0, none⟩ (.int .i64 0)).cell? ⟨wx.heap.size + 1, 0, none⟩ = some (.int .i64 0) := World.cell?_setCell_same _ _ _ z1
    exact ⟨.int .i64 0, err_ret Tryz.results39 hcl _ rfl, rfl, hfin⟩
end
end Go.Proofs.YtkakncngkmoegaaGreat

namespace Go.Proofs.YtkakncngkmoegaaGreat
open Go.RowKit Go.Sort

def topX (s : St) (name : ByteArray) : Bool := decide (s.L ≠ []) && topN s name
/-- What a call of the agency leaves; whether the tag is another one; how many errors. -/
def runP (name : ByteArray) (fo : Bool) (s : St) : St × Bool × Int := if topX s name = true then (⟨s.os, popL s.L, s.es, s.mark⟩, false, 0) else roundsP name fo 8 s 0
section
variable {w wx : World} {P : Pt} {s : St} {c : Ct} {rest : List (Ob w.heap.size)} {n : Nat}
set_option maxHeartbeats 1000000 in
theorem gtop_none (h : AE w wx P s c rest) (hi : Inv s n) (name : ByteArray) (hne : s.L = []) : Calls Tryz.prog 37 #[.pointer (some ⟨P.bG, 0, none⟩), .string name] wx fun e w' => e = .returned (.bool false) ∧ AE w w' P s c rest := by
  have HT := hide (ae_stop h hi)
  have htm : topM s.L = -1 := by rw [hne]; rfl
  rw [htm] at HT
  have HN := hide (fun W (hW : AE w W P s c rest) => ae_node_no hW (k := -1) (by simp [hasO]))
  obtain ⟨g0, g1, g2, _⟩ := h.cells
  have HE := hide h
  clear h hi hne htm
  unfold nodeZ at HN
  go_enter Tryz.func37, Tryz.ntmps37
  go_wp2_with (first
    | (go_at_call 83; refine (unhide HT).mono ?_; rintro e w1 ⟨rfl, rfl⟩)
    | (go_at_call 14; refine ((unhide HN) _ (unhide HE)).mono ?_; rintro e w2 ⟨rfl, he2⟩; have HE2 := hide he2; clear he2))
  go_ret
  exact ⟨rfl, (unhide HE2).more (below_newAc _ _)⟩
theorem gtop_all (h : AE w wx P s c rest) (hi : Inv s n) (name : ByteArray) : Calls Tryz.prog 37 #[.pointer (some ⟨P.bG, 0, none⟩), .string name] wx fun e w' => e = .returned (.bool (topX s name)) ∧ AE w w' P s c rest := by
  by_cases hL : s.L = []
  · have e : topX s name = false := by simp [topX, hL]
    rw [e]
    exact gtop_none h hi name hL
  · have e : topX s name = topN s name := by simp [topX, hL]
    rw [e]
    exact gtop_any h hi name hL
end
section
variable {w wx : World} {bA bK bL : Nat} {os : List OneM} {L : List Int} {es : List EntM} {tail : List (Ob w.heap.size)} {n : Nat}
set_option maxHeartbeats 2000000 in
theorem aRun_any (h : Env w wx (aO _ bA os :: stOb _ bK bA (keysO os) L :: liOb _ bL bA es :: tail)) (hi : Inv ⟨os, L, es, 0⟩ n) (hn : n + 64 ≤ 32768) (name : ByteArray) (fo : Bool) :
    Calls Tryz.prog 8 #[.pointer (some ⟨bA, 0, none⟩), .pointer (some ⟨bK, 0, none⟩), .pointer (some ⟨bL, 0, none⟩), .string name, .bool fo] wx fun e w' => e = .returned (.tuple #[.bool (runP name fo ⟨os, L, es, 0⟩).2.1, .int .i64 (runP name fo ⟨os, L, es, 0⟩).2.2, .int .i64 0]) ∧ Env w w' (aO _ bA (runP name fo ⟨os, L, es, 0⟩).1.os :: stOb _ bK bA (keysO (runP name fo ⟨os, L, es, 0⟩).1.os) (runP name fo ⟨os, L, es, 0⟩).1.L :: liOb _ bL bA (runP name fo ⟨os, L, es, 0⟩).1.es :: tail) := by
  have HA := hide (gmadeA (i := 0) h rfl)
  have HS := hide (gmadeS (i := 0) (j := 1) h rfl rfl (by decide) hi.good)
  have HL := hide (gmadeL h hi.lt12)
  have HLEN := hide (fun W (hW : Env w W (aO _ bA os :: stOb _ bK bA (keysO os) L :: liOb _ bL bA es :: tail)) => alen_any (i := 0) hW rfl)
  have HMK := hide (fun W (hW : Env w W (aO _ bA os :: stOb _ bK bA (keysO os) L :: liOb _ bL bA es :: tail)) => AE.make hW fo)
  have HTP := hide (fun W (P : Pt) (hW : AE w W P ⟨os, L, es, 0⟩ ⟨false, 0, 0⟩ tail) => gtop_all hW hi name)
  have HRN := hide (fun W (P : Pt) (hW : AE w W P ⟨os, L, es, 0⟩ ⟨false, 0, 0⟩ tail) => grun_any hW hi hn (by show 0 < 500000000; decide) (by show (0 : Int) ≤ 1000000; decide) rfl ⟨by show (-1000 : Int) ≤ 0; decide, by show (0 : Int) ≤ 1000; decide⟩ name)
  have HPOP := hide (fun W (P : Pt) (hW : AE w W P ⟨os, L, es, 0⟩ ⟨false, 0, 0⟩ tail) => ae_spop hW hi)
  have HCE := hide (fun W (P : Pt) (s : St) (c : Ct) (hW : AE w W P s c tail) => hW.cells)
  have HUN := hide (fun W (P : Pt) (s : St) (c : Ct) (hW : AE w W P s c tail) => hW.unmake)
  have hnn : ¬ (32704 : Int) < (os.length : Int) := by have := hi.few; simp only at this; omega
  generalize hnl : (os.length : Int) = nl at *
  unfold runP
  clear h hi hn hnl
  cases htx : topX ⟨os, L, es, 0⟩ name with
  | true =>
    rw [htx] at HTP
    simp only [if_true]
    clear htx
    go_enter Tryz.func8, Tryz.ntmps8
    go_wp2_with (first
      | (go_at_call 34; refine (unhide HA).mono ?_; rintro e w1 ⟨rfl, rfl⟩)
      | (go_at_call 35; refine (unhide HS).mono ?_; rintro e w2 ⟨rfl, rfl⟩)
      | (go_at_call 36; refine (unhide HL).mono ?_; rintro e w3 ⟨rfl, he3⟩; have HE3 := hide he3; clear he3)
      | (go_at_call 12; refine ((unhide HLEN) _ (unhide HE3)).mono ?_; rintro e w4 ⟨rfl, rfl⟩; have HE4 := hide ((unhide HMK) _ (unhide HE3)))
      | (go_at_call 37; refine ((unhide HTP) _ _ (unhide HE4)).mono ?_; rintro e w5 ⟨rfl, he5⟩; have HE5 := hide he5; clear he5)
      | (go_at_call 38; refine ((unhide HPOP) _ _ (unhide HE5)).mono ?_; rintro e w6 ⟨rfl, he6⟩; have HE6 := hide he6; clear he6))
    go_ret3
    exact ⟨rfl, (unhide HUN) _ _ _ _ (unhide HE6)⟩
  | false =>
    rw [htx] at HTP
    simp only [Bool.false_eq_true, if_false]
    clear htx
    simp only at HRN
    generalize hR : roundsP name fo 8 ⟨os, L, es, 0⟩ 0 = R at *
    have HRX : Hid (∀ W (P : Pt), P.foster = fo → AE w W P ⟨os, L, es, 0⟩ ⟨false, 0, 0⟩ tail → Calls Tryz.prog 39 #[.pointer (some ⟨P.bG, 0, none⟩), .string name] W fun e w' => e = .returned (.int .i64 0) ∧ AE w w' P R.1 ⟨R.2.1, R.2.2, 0 + 3000000⟩ tail) := hide (fun W P hf hW => by
      have := (unhide HRN) W P hW
      rw [hf, hR] at this
      exact this)
    clear HRN hR
    go_enter Tryz.func8, Tryz.ntmps8
    go_wp2_with (first
      | (go_at_call 34; refine (unhide HA).mono ?_; rintro e w1 ⟨rfl, rfl⟩)
      | (go_at_call 35; refine (unhide HS).mono ?_; rintro e w2 ⟨rfl, rfl⟩)
      | (go_at_call 36; refine (unhide HL).mono ?_; rintro e w3 ⟨rfl, he3⟩; have HE3 := hide he3; clear he3)
      | (go_at_call 12; refine ((unhide HLEN) _ (unhide HE3)).mono ?_; rintro e w4 ⟨rfl, rfl⟩; have HE4 := hide ((unhide HMK) _ (unhide HE3)))
      | (go_at_call 37; refine ((unhide HTP) _ _ (unhide HE4)).mono ?_; rintro e w5 ⟨rfl, he5⟩; have HE5 := hide he5; clear he5)
      | (go_at_call 39; refine ((unhide HRX) _ _ rfl (unhide HE5)).mono ?_; rintro e w6 ⟨rfl, he6⟩; have HE6 := hide he6; obtain ⟨g0, g1, g2, g3, g4, g5, g6⟩ := (unhide HCE) _ _ _ _ he6; clear he6))
    go_region
    all_goals go_wp2
    all_goals go_ret3
    all_goals exact ⟨rfl, ((unhide HUN) _ _ _ _ (unhide HE6)).more (Below.refl _ _).drew⟩
end
/-- What a call of the agency keeps. -/
theorem runP_ok {s : St} {N : Nat} (h : Inv s N) (hN : N + 64 ≤ 32768) (hm : s.mark ≤ 1000000) (name : ByteArray) (fo : Bool) : Inv (runP name fo s).1 (N + 64) ∧ 0 ≤ (runP name fo s).2.2 ∧ (runP name fo s).2.2 ≤ 8 := by
  unfold runP
  split
  · refine ⟨⟨h.good.sub (List.take_sublist _ _), h.ent, by have := h.few; simp only; omega, h.less, h.one⟩, by simp, by simp⟩
  · have := rounds_ok name fo 8 h hN hm 0
    refine ⟨this.1, this.2.1, ?_⟩
    have h2 := this.2.2
    simpa using h2
end Go.Proofs.YtkakncngkmoegaaGreat
