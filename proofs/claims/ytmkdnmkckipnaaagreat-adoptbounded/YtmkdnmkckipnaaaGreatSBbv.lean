/-
   
-/
import Derived.Test.YtmkdnmkckipnaaaGreatSBbu
import Derived.Deep.LoopGhost
import Derived.WalkMore
import Derived.ScopeJumps
namespace Go.Proofs.YtmkdnmkckipnaaaGreat
open Go.RowKit Go.Sort

section
variable {w wx : World} {P : Pt} {s : St} {c : Ct} {rest : List (Ob w.heap.size)} {N : Nat}
set_option maxRecDepth 20000 in
set_option maxHeartbeats 4000000 in
theorem grenew_any (h : AE w wx P s c rest) {f b : Int} {i0 : Nat} (hfb : findM s.L b = (i0 : Int)) (hR : RI f b N i0 1 s.L s.os.length s b) (hN : N + 8 ≤ 32768) (hc : c.cnt < 900000000) : Calls Tryz.prog 131 #[.pointer (some ⟨P.bG, 0, none⟩), .int .i64 f, .int .i64 b] wx fun e w' => e = .returned (.tuple #[.int .i64 (renewP f b i0 1 s b).2, .int .i64 0]) ∧ AE w w' P (renewP f b i0 1 s b).1 ⟨c.another, c.errs, c.cnt + 4 * i0⟩ rest := by
  have hL := h.few hR.inv
  have hi0 : i0 ≤ 32768 := by have := hR.lt; omega
  have HFB := hide (ae_sfind h hR.inv b)
  rw [hfb] at HFB
  have HE := hide h
  have HRI := hide hR
  obtain ⟨g0, g1, g2, g3, g4, g5, g6⟩ := h.cells
  obtain ⟨R, hRR⟩ : ∃ R, renewP f b i0 1 s b = R := ⟨_, rfl⟩
  rw [hRR]
  have HRR := hide hRR
  clear h hR hfb hRR hL
  go_enter Tryz.func131, Tryz.ntmps131
  go_wp2
  go_step3
  go_wp2_with (first
    | (go_at_call 89; refine (unhide HFB).mono ?_; rintro e w1 ⟨rfl, rfl⟩))
  go_step3
  go_wp2
  go_loopg [8, 9, 10, 11, 12, 13, 14] i0 (fun g s8 s9 s10 _ _ _ _ wr => ∃ (cn : Nat) (st : St) (last : Int), s8 = .int .i64 last ∧ s9 = .int .i64 g ∧ s10 = .int .i64 cn ∧ 1 ≤ cn ∧ cn + g = i0 + 1 ∧ AE w wr P st ⟨c.another, c.errs, c.cnt + 4 * (i0 - g)⟩ rest ∧ RI f b N g cn s.L s.os.length st last ∧ renewP f b g cn st last = R)
  case atStart => exact ⟨1, s, b, rfl, rfl, rfl, Nat.le_refl _, by omega, by rw [Nat.sub_self]; exact unhide HE, unhide HRI, unhide HRR⟩
  case round =>
    obtain ⟨cn, st, last, rfl, rfl, rfl, hcn1, hcn, hae, hri, hrr⟩ := hrel
    obtain ⟨i, rfl⟩ : ∃ i, gk = i + 1 := ⟨gk - 1, by have := hri.pos; omega⟩
    have hw1 : IntKind.i64.wrap (((i + 1 : Nat) : Int) - 1) = (i : Int) := by
      rw [show ((i + 1 : Nat) : Int) - 1 = (i : Int) by omega]
      exact wrap_small (by omega) (by omega)
    have hw1b : IntKind.i64.wrap (i : Int) = (i : Int) := wrap_small (by omega) (by omega)
    have hw1c : IntKind.i64.wrap ((i : Int) + 1 - 1) = (i : Int) := by
      rw [show (i : Int) + 1 - 1 = (i : Int) by omega]
      exact hw1b
    have hw2 : IntKind.i64.wrap ((cn : Int) + 1) = (cn : Int) + 1 := wrap_small (by omega) (by omega)
    clear HE HRI HRR HFB g0 g1 g2 g3 g4 g5 g6
    have hcl : i + 1 ≤ i0 := by omega
    obtain ⟨cs, hcs⟩ : ∃ cs : Ct, (⟨c.another, c.errs, c.cnt + 4 * (i0 - (i + 1))⟩ : Ct) = cs := ⟨_, rfl⟩
    have hk1 : cs.cnt < 950000000 := by rw [← hcs]; simp only; omega
    have HOUT : Hid (∀ W (s' : St) (m : Nat), AE w W P s' ⟨cs.another, cs.errs, m⟩ rest → m ≤ cs.cnt + 4 → AE w W P s' ⟨c.another, c.errs, c.cnt + 4 * (i0 - i)⟩ rest) := hide (fun W s' m hW hm => by
      have h2 := hW.cnt (c.cnt + 4 * (i0 - i)) (by simp only; rw [← hcs] at hm; simp only at hm; omega)
      rw [← hcs] at h2
      exact h2)
    have HOUT0 : Hid (∀ W (s' : St), AE w W P s' cs rest → AE w W P s' ⟨c.another, c.errs, c.cnt + 4 * i0⟩ rest) := hide (fun W s' hW => by
      have h2 := hW.cnt (c.cnt + 4 * i0) (by rw [← hcs]; simp only; omega)
      rw [← hcs] at h2
      exact h2)
    rw [hcs] at hae
    clear hcs
    have HAT := hide (fun W (hW : AE w W P st cs rest) => ae_sat hW (i : Int))
    have HA := hide hae
    have HRI := hide hri
    have HRR := hide hrr
    obtain ⟨g0, g1, g2, g3, g4, g5, g6⟩ := hae.cells
    clear hae hri hrr
    have HI0 := hide hi0
    have HNN := hide hN
    have HK1 := hide hk1
    have HCN := hide (And.intro hcn1 hcn)
    clear hi0 hN hc hk1 hcn hcl hcn1
    by_cases hnf : atM st.L (i : Int) = f
    · have HNF := hide hnf
      rw [hnf] at HAT
      have hff : (f == f) = true := by simp
      clear hnf
      go_wp2_with (first
        | (go_at_call 15; refine ((unhide HAT) _ (unhide HA)).mono ?_; rintro e w1 ⟨rfl, rfl⟩))
      rw [Exit.noGoto_ret]
      go_ret2
      have h2 := unhide HRR
      unfold renewP at h2
      rw [if_pos (unhide HNF)] at h2
      subst h2
      exact ⟨rfl, (unhide HOUT0) _ _ (unhide HA)⟩
    · have hnf2 : (atM st.L (i : Int) == f) = false := by simpa using hnf
      have hrr2 := unhide HRR
      unfold renewP at hrr2
      rw [if_neg hnf] at hrr2
      have HNF := hide hnf
      have HLF := hide (fun W (hW : AE w W P st cs rest) => ae_lfind hW (unhide HRI).inv (atM st.L (i : Int)))
      by_cases hp : 0 ≤ placeE st.es (atM st.L (i : Int))
      · have hge : decide (0 ≤ placeE st.es (atM st.L (i : Int))) = true := by simpa using hp
        by_cases hc3 : cn ≤ 3
        · rw [if_pos ⟨hp, hc3⟩] at hrr2
          have HR2 := hide hrr2
          have HNEW := hide ((unhide HRI).new (unhide HNN) hc3 hp)
          have HNX := hide ((unhide HRI).again (unhide HNN) hc3 hnf hp)
          have HSWI := hide ((unhide HRI).swapped (unhide HNN) hc3 hp)
          have hc4 : ¬ ((3 : Int) < (cn : Int)) := by omega
          have hc5 : decide ((3 : Int) < (cn : Int)) = false := by simp; omega
          have HANEW := hide (fun W (hW : AE w W P st cs rest) => gnew_any hW (unhide HRI).inv (atM st.L (i : Int)) hp)
          rw [(unhide HNEW).1.err] at HANEW
          have HSWAP := hide (fun W (hW : AE w W P (newP st (atM st.L (i : Int))) cs rest) => gswap_any hW (unhide HNEW).2 (by have := unhide HK1; omega) (atM st.L (i : Int)) (newI st (atM st.L (i : Int))) (.inr (unhide HNEW).1.key))
          have HF2 := hide (fun W (hW : AE w W P (swapP (newP st (atM st.L (i : Int))) (atM st.L (i : Int)) (newI st (atM st.L (i : Int)))) ⟨cs.another, cs.errs, cs.cnt + 1 + 1⟩ rest) => ae_lfind hW (unhide HSWI) (newI st (atM st.L (i : Int))))
          have hwm : IntKind.i64.wrap (placeE (swapP (newP st (atM st.L (i : Int))) (atM st.L (i : Int)) (newI st (atM st.L (i : Int)))).es (newI st (atM st.L (i : Int))) + 1) = placeE (swapP (newP st (atM st.L (i : Int))) (atM st.L (i : Int)) (newI st (atM st.L (i : Int)))).es (newI st (atM st.L (i : Int))) + 1 := by
            have h1 := place_mk (unhide HSWI).less (newI st (atM st.L (i : Int)))
            exact wrap_small (placeE_low _ _) (by omega)
          have HPUT : Hid (∀ W (s' : St), AE w W P s' ⟨cs.another, cs.errs, cs.cnt + 1 + 1⟩ rest → s'.os = (newP st (atM st.L (i : Int))).os → Calls Tryz.prog 133 #[.pointer (some ⟨P.bG, 0, none⟩), spotV (newI st (atM st.L (i : Int))) (-1), .int .i64 last] W fun e w' => e = .returned (.tuple #[]) ∧ AE w w' P (putP s' (newI st (atM st.L (i : Int))) (-1) last) ⟨cs.another, cs.errs, cs.cnt + 1 + 1 + 1⟩ rest) := hide (fun W s' hW he => gput_any hW (by have := unhide HK1; simp only; omega) _ _ _ (by rw [he]; exact (unhide HNEW).1.has) (by rw [he]; exact hasO_le (unhide HNEW).1.more.1 (unhide HRI).hl) (.inl rfl))
          have HAG : Hid (againP b st (atM st.L (i : Int)) last = putP (if last = b then markP (swapP (newP st (atM st.L (i : Int))) (atM st.L (i : Int)) (newI st (atM st.L (i : Int)))) (placeE (swapP (newP st (atM st.L (i : Int))) (atM st.L (i : Int)) (newI st (atM st.L (i : Int)))).es (newI st (atM st.L (i : Int))) + 1) else swapP (newP st (atM st.L (i : Int))) (atM st.L (i : Int)) (newI st (atM st.L (i : Int)))) (newI st (atM st.L (i : Int))) (-1) last) := hide rfl
          have HOS : Hid ((swapP (newP st (atM st.L (i : Int))) (atM st.L (i : Int)) (newI st (atM st.L (i : Int)))).os = (newP st (atM st.L (i : Int))).os) := hide rfl
          clear hnf hrr2 hc3 hp HRR HNF
          unfold spotV at HPUT
          generalize newI st (atM st.L (i : Int)) = ni at *
          generalize swapP (newP st (atM st.L (i : Int))) (atM st.L (i : Int)) ni = sw at *
          generalize againP b st (atM st.L (i : Int)) last = sag at *
          generalize newP st (atM st.L (i : Int)) = sn at *
          clear HNEW HSWI
          generalize atM st.L (i : Int) = na at *
          by_cases hlb : last = b
          · have hlb2 : (last == b) = true := by simpa using hlb
            have hag := unhide HAG
            rw [if_pos hlb] at hag
            have HAG2 := hide hag
            have HLB := hide hlb
            clear hag HAG
            have HSET := hide (fun W (hW : AE w W P sw ⟨cs.another, cs.errs, cs.cnt + 1 + 1⟩ rest) => hW.setMark (placeE sw.es ni + 1))
            have HFR := hide (fun W (hW : AE w W P sw ⟨cs.another, cs.errs, cs.cnt + 1 + 1⟩ rest) => hW.free 6)
            clear hlb
            go_wp2_with (first
              | (go_at_call 15; refine ((unhide HAT) _ (unhide HA)).mono ?_; rintro e w1 ⟨rfl, rfl⟩)
              | (have _x := unhide HA3; clear _x; go_at_call 84; refine ((unhide HF2) _ (unhide HA3)).mono ?_; rintro e w5 ⟨rfl, he5⟩; have HA5 := hide ((unhide HSET) _ he5); have f6 := (unhide HFR) _ he5; clear g0 g1 g2 g3 g4 g5 g6; obtain ⟨g0, g1, g2, g3, g4, g5, g6⟩ := he5.cells; clear he5)
              | (go_at_call 84; refine ((unhide HLF) _ (unhide HA)).mono ?_; rintro e w2 ⟨rfl, he2⟩; have HA1 := hide he2; clear g0 g1 g2 g3 g4 g5 g6; obtain ⟨g0, g1, g2, g3, g4, g5, g6⟩ := he2.cells; clear he2)
              | (go_at_call 159; refine ((unhide HANEW) _ (unhide HA1)).mono ?_; rintro e w3 ⟨rfl, he3⟩; have HA2 := hide he3; clear g0 g1 g2 g3 g4 g5 g6; obtain ⟨g0, g1, g2, g3, g4, g5, g6⟩ := he3.cells; clear he3)
              | (go_at_call 160; refine ((unhide HSWAP) _ (unhide HA2)).mono ?_; rintro e w4 ⟨rfl, he4⟩; have HA3 := hide he4; clear g0 g1 g2 g3 g4 g5 g6; obtain ⟨g0, g1, g2, g3, g4, g5, g6⟩ := he4.cells; clear he4)
              | (go_at_call 161; refine (gatEnd_any _ _).mono ?_; unfold spotV; rintro e w6 ⟨rfl, he6⟩; have HA6 := hide ((unhide HA5).more he6); clear he6)
              | (go_at_call 133; refine ((unhide HPUT) _ _ (unhide HA6) (unhide HOS)).mono ?_; rintro e w7 ⟨rfl, he7⟩; have HA7 := hide he7; clear he7))
            go_roundg i
            case measure => omega
            case rel =>
              refine ⟨cn + 1, sag, ni, rfl, rfl, by simp, by omega, by have := unhide HCN; omega, ?_, unhide HNX, unhide HR2⟩
              rw [unhide HAG2]
              exact (unhide HOUT) _ _ _ (unhide HA7) (by omega)
          · have hlb2 : (last == b) = false := by simpa using hlb
            have hag := unhide HAG
            rw [if_neg hlb] at hag
            have HAG2 := hide hag
            clear hag HAG HF2 hwm
            go_wp2_with (first
              | (go_at_call 15; refine ((unhide HAT) _ (unhide HA)).mono ?_; rintro e w1 ⟨rfl, rfl⟩)
              | (go_at_call 84; refine ((unhide HLF) _ (unhide HA)).mono ?_; rintro e w2 ⟨rfl, he2⟩; have HA1 := hide he2; clear g0 g1 g2 g3 g4 g5 g6; obtain ⟨g0, g1, g2, g3, g4, g5, g6⟩ := he2.cells; clear he2)
              | (go_at_call 159; refine ((unhide HANEW) _ (unhide HA1)).mono ?_; rintro e w3 ⟨rfl, he3⟩; have HA2 := hide he3; clear g0 g1 g2 g3 g4 g5 g6; obtain ⟨g0, g1, g2, g3, g4, g5, g6⟩ := he3.cells; clear he3)
              | (go_at_call 160; refine ((unhide HSWAP) _ (unhide HA2)).mono ?_; rintro e w4 ⟨rfl, he4⟩; have HA3 := hide he4; clear g0 g1 g2 g3 g4 g5 g6; obtain ⟨g0, g1, g2, g3, g4, g5, g6⟩ := he4.cells; clear he4)
              | (go_at_call 161; refine (gatEnd_any _ _).mono ?_; unfold spotV; rintro e w6 ⟨rfl, he6⟩; have HA6 := hide ((unhide HA3).more he6); clear he6)
              | (go_at_call 133; refine ((unhide HPUT) _ _ (unhide HA6) (unhide HOS)).mono ?_; rintro e w7 ⟨rfl, he7⟩; have HA7 := hide he7; clear he7))
            go_roundg i
            case measure => omega
            case rel =>
              refine ⟨cn + 1, sag, ni, rfl, rfl, by simp, by omega, by have := unhide HCN; omega, ?_, unhide HNX, unhide HR2⟩
              rw [unhide HAG2]
              exact (unhide HOUT) _ _ _ (unhide HA7) (by omega)
        · rw [if_neg (fun e => hc3 e.2)] at hrr2
          have HR2 := hide hrr2
          have HNX := hide ((unhide HRI).go hnf)
          have hc4 : (3 : Int) < (cn : Int) := by omega
          have hc5 : decide ((3 : Int) < (cn : Int)) = true := by simp; omega
          have HDROP := hide (fun W (hW : AE w W P st cs rest) => gdrop_any hW (unhide HRI).inv (by have := unhide HK1; omega) (unhide HRI).mrk (atM st.L (i : Int)) hp)
          have HLEAVE := hide (fun W (hW : AE w W P (dropP st (atM st.L (i : Int))) ⟨cs.another, cs.errs, cs.cnt + 1⟩ rest) => gleave_any hW ((unhide HRI).inv.drop _) (by have := unhide HK1; simp only; omega) (atM st.L (i : Int)))
          have HGO : Hid (goP st (atM st.L (i : Int)) = leaveP (dropP st (atM st.L (i : Int))) (atM st.L (i : Int))) := hide (by unfold goP; rw [if_pos hp])
          clear hnf hrr2 hc3 hp HRR HNF
          generalize goP st (atM st.L (i : Int)) = sg at *
          generalize dropP st (atM st.L (i : Int)) = sd at *
          generalize atM st.L (i : Int) = na at *
          go_wp2_with (first
              | (go_at_call 15; refine ((unhide HAT) _ (unhide HA)).mono ?_; rintro e w1 ⟨rfl, rfl⟩)
              | (go_at_call 84; refine ((unhide HLF) _ (unhide HA)).mono ?_; rintro e w2 ⟨rfl, he2⟩; have HA1 := hide he2; clear g0 g1 g2 g3 g4 g5 g6; obtain ⟨g0, g1, g2, g3, g4, g5, g6⟩ := he2.cells; clear he2)
              | (go_at_call 90; refine ((unhide HDROP) _ (unhide HA1)).mono ?_; rintro e w3 ⟨rfl, he3⟩; have HA2 := hide he3; clear g0 g1 g2 g3 g4 g5 g6; obtain ⟨g0, g1, g2, g3, g4, g5, g6⟩ := he3.cells; clear he3)
              | (go_at_call 158; refine ((unhide HLEAVE) _ (unhide HA2)).mono ?_; rintro e w4 ⟨rfl, he4⟩; have HA7 := hide he4; clear he4))
          go_roundg i
          case measure => omega
          case rel =>
            refine ⟨cn + 1, sg, last, rfl, rfl, by simp, by omega, by have := unhide HCN; omega, ?_, unhide HNX, unhide HR2⟩
            rw [unhide HGO]
            exact (unhide HOUT) _ _ _ (unhide HA7) (by omega)
      · have hge : decide (0 ≤ placeE st.es (atM st.L (i : Int))) = false := by simpa using hp
        rw [if_neg (fun e => hp e.1)] at hrr2
        have HR2 := hide hrr2
        have HNX := hide ((unhide HRI).go hnf)
        have HLEAVE := hide (fun W (hW : AE w W P st cs rest) => gleave_any hW (unhide HRI).inv (by have := unhide HK1; omega) (atM st.L (i : Int)))
        have HGO : Hid (goP st (atM st.L (i : Int)) = leaveP st (atM st.L (i : Int))) := hide (by unfold goP; rw [if_neg hp])
        clear hnf hrr2 HRR HNF
        generalize goP st (atM st.L (i : Int)) = sg at *
        generalize atM st.L (i : Int) = na at *
        go_wp2_with (first
            | (go_at_call 15; refine ((unhide HAT) _ (unhide HA)).mono ?_; rintro e w1 ⟨rfl, rfl⟩)
            | (go_at_call 84; refine ((unhide HLF) _ (unhide HA)).mono ?_; rintro e w2 ⟨rfl, he2⟩; have HA1 := hide he2; clear g0 g1 g2 g3 g4 g5 g6; obtain ⟨g0, g1, g2, g3, g4, g5, g6⟩ := he2.cells; clear he2)
            | (go_at_call 158; refine ((unhide HLEAVE) _ (unhide HA1)).mono ?_; rintro e w4 ⟨rfl, he4⟩; have HA7 := hide he4; clear he4))
        go_roundg i
        case measure => omega
        case rel =>
          refine ⟨cn + 1, sg, last, rfl, rfl, by simp, by omega, by have := unhide HCN; omega, ?_, unhide HNX, unhide HR2⟩
          rw [unhide HGO]
          exact (unhide HOUT) _ _ _ (unhide HA7) (by omega)
end
end Go.Proofs.YtmkdnmkckipnaaaGreat

namespace Go.Proofs.YtmkdnmkckipnaaaGreat
open Go.RowKit Go.Sort

section
variable {w wx : World} {P : Pt} {s : St} {c : Ct} {rest : List (Ob w.heap.size)} {n : Nat}
theorem AE.sim (h : AE w wx P s c rest) : ∃ ns, Sim ns s.os := by
  obtain ⟨ns, F, h1, hs, h2⟩ := Env.a (i := 0) h rfl
  exact ⟨ns, hs⟩
theorem AE.kidsF (h : AE w wx P s c rest) (b : Int) : (kidsO s.os b).length ≤ s.os.length ∧ ∀ k ∈ kidsO s.os b, hasO s.os (k : Int) = true := by
  obtain ⟨ns, hs⟩ := h.sim
  cases hh : hasO s.os b with
  | false =>
    have e : kidsO s.os b = [] := by simp [kidsO, hh]
    rw [e]
    exact ⟨by simp, fun k hk => by simp at hk⟩
  | true =>
    have hk2 : 0 ≤ b ∧ b < s.os.length := by simpa [hasO] using hh
    obtain ⟨k, rfl⟩ : ∃ k : Nat, b = k := ⟨b.toNat, by omega⟩
    have ho : s.os[k]? = some s.os[k] := List.getElem?_eq_getElem (by omega)
    rw [kidsO_of ho]
    have hk := hs.kids k _ ho
    refine ⟨?_, fun j hj => ?_⟩
    · have := List.Nodup.length_le_of_subset hk.nodup (l₂ := List.range ns.length) (fun x hx => by simpa using hk.mem x hx)
      have hl := hs.len
      rw [List.length_range] at this
      omega
    · have := hk.mem j hj
      rw [hs.len] at this
      simp [hasO]
      omega
theorem outP_at {os : List OneM} {p : Nat} {o : OneM} (ho : os[p]? = some o) (q : Int) : spotV (outP os ((p : Int), q)).1 (outP os ((p : Int), q)).2 = if isOfO o [tmplB] then spotV o.inner (-1) else spotV p q := by
  unfold outP
  simp only
  rw [qK_of ho, innerO_of ho]
  split <;> rfl
theorem ae_spot (h : AE w wx P s c rest) (hi : Inv s n) {k : Nat} (hk : k < s.os.length) : Calls Tryz.prog 132 #[.pointer (some ⟨P.bA, 0, none⟩), .pointer (some ⟨P.bK, 0, none⟩), .int .i64 k, .bool P.foster] wx fun e w' => e = .returned (.tuple #[spotV (spotF s.os s.L (k : Int) P.foster).1 (spotF s.os s.L (k : Int) P.foster).2, .int .i64 0]) ∧ AE w w' P s c rest := by
  have ho : s.os[k]? = some s.os[k] := List.getElem?_eq_getElem hk
  obtain ⟨ns, hs⟩ := h.sim
  unfold spotF
  cases hfo : P.foster with
  | false =>
    simp only [Bool.false_eq_true, if_false]
    rw [outP_at ho]
    exact spot_plain (i := 0) (j := 1) h rfl rfl (by decide) hi.good ho
  | true =>
    simp only [if_true, Int.toNat_natCast]
    unfold spotP
    rw [qK_of ho]
    obtain ⟨p, q, hpq, hp⟩ : ∃ (p : Nat) (q : Int), (if isOfO s.os[k] partsB then progF s.os s.L (k : Int) else ((k : Int), -1)) = ((p : Int), q) ∧ p < s.os.length := by
      split
      · obtain ⟨_, p, hp, hpl⟩ := ways_same hs hi.good hi.one hk
        exact ⟨p, _, by rw [← hp], hpl⟩
      · exact ⟨k, -1, rfl, hk⟩
    have hoq : s.os[p]? = some s.os[p] := List.getElem?_eq_getElem hp
    rw [hpq, outP_at hoq]
    exact spot_foster (i := 0) (j := 1) h rfl rfl (by decide) hi.good ho hpq hoq
end
end Go.Proofs.YtmkdnmkckipnaaaGreat
