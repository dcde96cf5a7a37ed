/-
  The agency: from B down to F. The agency: what is in B comes into a new element, which stands for F. The agency: a round.
-/
import Derived.Test.YtkakncngkmoegaaGreatYXJl0
import Derived.Test.YtkakncngkmoegaaGreatYXJc
import Derived.Deep.LoopGhost
import Derived.WalkMore
import Derived.ScopeJumps
import Derived.Test.YtkakncngkmoegaaGreatTZbd
namespace Go.Proofs.YtkakncngkmoegaaGreat
open Go.RowKit Go.Sort

section
variable {w wx : World} {P : Pt} {s : St} {c : Ct} {rest : List (Ob w.heap.size)} {N : Nat}
set_option maxRecDepth 20000 in
set_option maxHeartbeats 4000000 in
theorem grenew_any (h : AE w wx P s c rest) {f b : Int} {i0 : Nat} (hfb : findM s.L b = (i0 : Int)) (hR : RI f b N i0 1 s.L s.os.length s b) (hN : N + 8 ≤ 32768) (hc : c.cnt < 900000000) : Calls Tryz.prog 131 #[.pointer (some ⟨P.bG, 0, none⟩), .int .i64 f, .int .i64 b] wx fun e w' => e = .returned (.tuple #[.int .i64 (renewP f b i0 1 s b).2, .int .i64 0]) ∧ AE w w' P (renewP f b i0 1 s b).1 ⟨c.another, c.errs, c.cnt + 4 * i0⟩ rest := by
  have hL := h.few hR.inv
  have hi0 : i0 ≤ 32768 := by have := hR.lt; omega
  have HFB := hide (ae_sfind h hR.inv b)
  rw [hfb] at HFB
  have HE := hide h
  have HRI := hide hR
  obtain ⟨g0, g1, g2, g3, g4, g5, g6⟩ := h.cells
  obtain ⟨R, hRR⟩ : ∃ R, renewP f b i0 1 s b = R := ⟨_, rfl⟩
  rw [hRR]
  have HRR := hide hRR
  clear h hR hfb hRR hL
  go_enter Tryz.func131, Tryz.ntmps131
  go_wp2
  go_step3
  go_wp2_with (first
    | (go_at_call 89; refine (unhide HFB).mono ?_; rintro e w1 ⟨rfl, rfl⟩))
  go_step3
  go_wp2
  go_loopg [8, 9, 10, 11, 12, 13, 14] i0 (fun g s8 s9 s10 _ _ _ _ wr => ∃ (cn : Nat) (st : St) (last : Int), s8 = .int .i64 last ∧ s9 = .int .i64 g ∧ s10 = .int .i64 cn ∧ 1 ≤ cn ∧ cn + g = i0 + 1 ∧ AE w wr P st ⟨c.another, c.errs, c.cnt + 4 * (i0 - g)⟩ rest ∧ RI f b N g cn s.L s.os.length st last ∧ renewP f b g cn st last = R)
  case atStart => exact ⟨1, s, b, rfl, rfl, rfl, Nat.le_refl _, by omega, by rw [Nat.sub_self]; exact unhide HE, unhide HRI, unhide HRR⟩
  case round =>
    obtain ⟨cn, st, last, rfl, rfl, rfl, hcn1, hcn, hae, hri, hrr⟩ := hrel
    obtain ⟨i, rfl⟩ : ∃ i, gk = i + 1 := ⟨gk - 1, by have := hri.pos; omega⟩
    have hw1 : IntKind.i64.wrap (((i + 1 : Nat) : Int) - 1) = (i : Int) := by
      rw [show ((i + 1 : Nat) : Int) - 1 = (i : Int) by omega]
      exact wrap_small (by omega) (by omega)
    have hw1b : IntKind.i64.wrap (i : Int) = (i : Int) := wrap_small (by omega) (by omega)
    have hw1c : IntKind.i64.wrap ((i : Int) + 1 - 1) = (i : Int) := by
      rw [show (i : Int) + 1 - 1 = (i : Int) by omega]
      exact hw1b
    have hw2 : IntKind.i64.wrap ((cn : Int) + 1) = (cn : Int) + 1 := wrap_small (by omega) (by omega)
    clear HE HRI HRR HFB g0 g1 g2 g3 g4 g5 g6
    have hcl : i + 1 ≤ i0 := by omega
    obtain ⟨cs, hcs⟩ : ∃ cs : Ct, (⟨c.another, c.errs, c.cnt + 4 * (i0 - (i + 1))⟩ : Ct) = cs := ⟨_, rfl⟩
    have hk1 : cs.cnt < 950000000 := by rw [← hcs]; simp only; omega
    have HOUT : Hid (∀ W (s' : St) (m : Nat), AE w W P s' ⟨cs.another, cs.errs, m⟩ rest → m ≤ cs.cnt + 4 → AE w W P s' ⟨c.another, c.errs, c.cnt + 4 * (i0 - i)⟩ rest) := hide (fun W s' m hW hm => by
      have h2 := hW.cnt (c.cnt + 4 * (i0 - i)) (by simp only; rw [← hcs] at hm; simp only at hm; omega)
      rw [← hcs] at h2
      exact h2)
    have HOUT0 : Hid (∀ W (s' : St), AE w W P s' cs rest → AE w W P s' ⟨c.another, c.errs, c.cnt + 4 * i0⟩ rest) := hide (fun W s' hW => by
      have h2 := hW.cnt (c.cnt + 4 * i0) (by rw [← hcs]; simp only; omega)
      rw [← hcs] at h2
      exact h2)
    rw [hcs] at hae
    clear hcs
    have HAT := hide (fun W (hW : AE w W P st cs rest) => ae_sat hW (i : Int))
    have HA := hide hae
    have HRI := hide hri
    have HRR := hide hrr
    obtain ⟨g0, g1, g2, g3, g4, g5, g6⟩ := hae.cells
    clear hae hri hrr
    have HI0 := hide hi0
    have HNN := hide hN
    have HK1 := hide hk1
    have HCN := hide (And.intro hcn1 hcn)
    clear hi0 hN hc hk1 hcn hcl hcn1
    by_cases hnf : atM st.L (i : Int) = f
    · have HNF := hide hnf
      rw [hnf] at HAT
      have hff : (f == f) = true := by simp
      clear hnf
      go_wp2_with (first
        | (go_at_call 15; refine ((unhide HAT) _ (unhide HA)).mono ?_; rintro e w1 ⟨rfl, rfl⟩))
      rw [Exit.noGoto_ret]
      go_ret2
      have h2 := unhide HRR
      unfold renewP at h2
      rw [if_pos (unhide HNF)] at h2
      subst h2
      exact ⟨rfl, (unhide HOUT0) _ _ (unhide HA)⟩
    · have hnf2 : (atM st.L (i : Int) == f) = false := by simpa using hnf
      have hrr2 := unhide HRR
      unfold renewP at hrr2
      rw [if_neg hnf] at hrr2
      have HNF := hide hnf
      have HLF := hide (fun W (hW : AE w W P st cs rest) => ae_lfind hW (unhide HRI).inv (atM st.L (i : Int)))
      by_cases hp : 0 ≤ placeE st.es (atM st.L (i : Int))
      · have hge : decide (0 ≤ placeE st.es (atM st.L (i : Int))) = true := by simpa using hp
        by_cases hc3 : cn ≤ 3
        · rw [if_pos ⟨hp, hc3⟩] at hrr2
          have HR2 := hide hrr2
          have HNEW := hide ((unhide HRI).new (unhide HNN) hc3 hp)
          have HNX := hide ((unhide HRI).again (unhide HNN) hc3 hnf hp)
          have HSWI := hide ((unhide HRI).swapped (unhide HNN) hc3 hp)
          have hc4 : ¬ ((3 : Int) < (cn : Int)) := by omega
          have hc5 : decide ((3 : Int) < (cn : Int)) = false := by simp; omega
          have HANEW := hide (fun W (hW : AE w W P st cs rest) => gnew_any hW (unhide HRI).inv (atM st.L (i : Int)) hp)
          rw [(unhide HNEW).1.err] at HANEW
          have HSWAP := hide (fun W (hW : AE w W P (newP st (atM st.L (i : Int))) cs rest) => gswap_any hW (unhide HNEW).2 (by have := unhide HK1; omega) (atM st.L (i : Int)) (newI st (atM st.L (i : Int))) (.inr (unhide HNEW).1.key))
          have HF2 := hide (fun W (hW : AE w W P (swapP (newP st (atM st.L (i : Int))) (atM st.L (i : Int)) (newI st (atM st.L (i : Int)))) ⟨cs.another, cs.errs, cs.cnt + 1 + 1⟩ rest) => ae_lfind hW (unhide HSWI) (newI st (atM st.L (i : Int))))
          have hwm : IntKind.i64.wrap (placeE (swapP (newP st (atM st.L (i : Int))) (atM st.L (i : Int)) (newI st (atM st.L (i : Int)))).es (newI st (atM st.L (i : Int))) + 1) = placeE (swapP (newP st (atM st.L (i : Int))) (atM st.L (i : Int)) (newI st (atM st.L (i : Int)))).es (newI st (atM st.L (i : Int))) + 1 := by
            have h1 := place_mk (unhide HSWI).less (newI st (atM st.L (i : Int)))
            exact wrap_small (placeE_low _ _) (by omega)
          have HPUT : Hid (∀ W (s' : St), AE w W P s' ⟨cs.another, cs.errs, cs.cnt + 1 + 1⟩ rest → s'.os = (newP st (atM st.L (i : Int))).os → Calls Tryz.prog 133 #[.pointer (some ⟨P.bG, 0, none⟩), spotV (newI st (atM st.L (i : Int))) (-1), .int .i64 last] W fun e w' => e = .returned (.tuple #[]) ∧ AE w w' P (putP s' (newI st (atM st.L (i : Int))) (-1) last) ⟨cs.another, cs.errs, cs.cnt + 1 + 1 + 1⟩ rest) := hide (fun W s' hW he => gput_any hW (by have := unhide HK1; simp only; omega) _ _ _ (by rw [he]; exact (unhide HNEW).1.has) (by rw [he]; exact hasO_le (unhide HNEW).1.more.1 (unhide HRI).hl) (.inl rfl))
          have HAG : Hid (againP b st (atM st.L (i : Int)) last = putP (if last = b then markP (swapP (newP st (atM st.L (i : Int))) (atM st.L (i : Int)) (newI st (atM st.L (i : Int)))) (placeE (swapP (newP st (atM st.L (i : Int))) (atM st.L (i : Int)) (newI st (atM st.L (i : Int)))).es (newI st (atM st.L (i : Int))) + 1) else swapP (newP st (atM st.L (i : Int))) (atM st.L (i : Int)) (newI st (atM st.L (i : Int)))) (newI st (atM st.L (i : Int))) (-1) last) := hide rfl
          have HOS : Hid ((swapP (newP st (atM st.L (i : Int))) (atM st.L (i : Int)) (newI st (atM st.L (i : Int)))).os = (newP st (atM st.L (i : Int))).os) := hide rfl
          clear hnf hrr2 hc3 hp HRR HNF
          unfold spotV at HPUT
          generalize newI st (atM st.L (i : Int)) = ni at *
          generalize swapP (newP st (atM st.L (i : Int))) (atM st.L (i : Int)) ni = sw at *
          generalize againP b st (atM st.L (i : Int)) last = sag at *
          generalize newP st (atM st.L (i : Int)) = sn at *
          clear HNEW HSWI
          generalize atM st.L (i : Int) = na at *
          by_cases hlb : last = b
          · have hlb2 : (last == b) = true := by simpa using hlb
            have hag := unhide HAG
            rw [if_pos hlb] at hag
            have HAG2 := hide hag
            have HLB := hide hlb
            clear hag HAG
            have HSET := hide (fun W (hW : AE w W P sw ⟨cs.another, cs.errs, cs.cnt + 1 + 1⟩ rest) => hW.setMark (placeE sw.es ni + 1))
            have HFR := hide (fun W (hW : AE w W P sw ⟨cs.another, cs.errs, cs.cnt + 1 + 1⟩ rest) => hW.free 6)
            clear hlb
            go_wp2_with (first
              | (go_at_call 15; refine ((unhide HAT) _ (unhide HA)).mono ?_; rintro e w1 ⟨rfl, rfl⟩)
              | (have _x := unhide HA3; clear _x; go_at_call 84; refine ((unhide HF2) _ (unhide HA3)).mono ?_; rintro e w5 ⟨rfl, he5⟩; have HA5 := hide ((unhide HSET) _ he5); have f6 := (unhide HFR) _ he5; clear g0 g1 g2 g3 g4 g5 g6; obtain ⟨g0, g1, g2, g3, g4, g5, g6⟩ := he5.cells; clear he5)
              | (go_at_call 84; refine ((unhide HLF) _ (unhide HA)).mono ?_; rintro e w2 ⟨rfl, he2⟩; have HA1 := hide he2; clear g0 g1 g2 g3 g4 g5 g6; obtain ⟨g0, g1, g2, g3, g4, g5, g6⟩ := he2.cells; clear he2)
              | (go_at_call 158; refine ((unhide HANEW) _ (unhide HA1)).mono ?_; rintro e w3 ⟨rfl, he3⟩; have HA2 := hide he3; clear g0 g1 g2 g3 g4 g5 g6; obtain ⟨g0, g1, g2, g3, g4, g5, g6⟩ := he3.cells; clear he3)
              | (go_at_call 159; refine ((unhide HSWAP) _ (unhide HA2)).mono ?_; rintro e w4 ⟨rfl, he4⟩; have HA3 := hide he4; clear g0 g1 g2 g3 g4 g5 g6; obtain ⟨g0, g1, g2, g3, g4, g5, g6⟩ := he4.cells; clear he4)
              | (go_at_call 160; refine (gatEnd_any _ _).mono ?_; unfold spotV; rintro e w6 ⟨rfl, he6⟩; have HA6 := hide ((unhide HA5).more he6); clear he6)
              | (go_at_call 133; refine ((unhide HPUT) _ _ (unhide HA6) (unhide HOS)).mono ?_; rintro e w7 ⟨rfl, he7⟩; have HA7 := hide he7; clear he7))
            go_roundg i
            case measure => omega
            case rel =>
              refine ⟨cn + 1, sag, ni, rfl, rfl, by simp, by omega, by have := unhide HCN; omega, ?_, unhide HNX, unhide HR2⟩
              rw [unhide HAG2]
              exact (unhide HOUT) _ _ _ (unhide HA7) (by omega)
          · have hlb2 : (last == b) = false := by simpa using hlb
            have hag := unhide HAG
            rw [if_neg hlb] at hag
            have HAG2 := hide hag
            clear hag HAG HF2 hwm
            go_wp2_with (first
              | (go_at_call 15; refine ((unhide HAT) _ (unhide HA)).mono ?_; rintro e w1 ⟨rfl, rfl⟩)
              | (go_at_call 84; refine ((unhide HLF) _ (unhide HA)).mono ?_; rintro e w2 ⟨rfl, he2⟩; have HA1 := hide he2; clear g0 g1 g2 g3 g4 g5 g6; obtain ⟨g0, g1, g2, g3, g4, g5, g6⟩ := he2.cells; clear he2)
              | (go_at_call 158; refine ((unhide HANEW) _ (unhide HA1)).mono ?_; rintro e w3 ⟨rfl, he3⟩; have HA2 := hide he3; clear g0 g1 g2 g3 g4 g5 g6; obtain ⟨g0, g1, g2, g3, g4, g5, g6⟩ := he3.cells; clear he3)
              | (go_at_call 159; refine ((unhide HSWAP) _ (unhide HA2)).mono ?_; rintro e w4 ⟨rfl, he4⟩; have HA3 := hide he4; clear g0 g1 g2 g3 g4 g5 g6; obtain ⟨g0, g1, g2, g3, g4, g5, g6⟩ := he4.cells; clear he4)
              | (go_at_call 160; refine (gatEnd_any _ _).mono ?_; unfold spotV; rintro e w6 ⟨rfl, he6⟩; have HA6 := hide ((unhide HA3).more he6); clear he6)
              | (go_at_call 133; refine ((unhide HPUT) _ _ (unhide HA6) (unhide HOS)).mono ?_; rintro e w7 ⟨rfl, he7⟩; have HA7 := hide he7; clear he7))
            go_roundg i
            case measure => omega
            case rel =>
              refine ⟨cn + 1, sag, ni, rfl, rfl, by simp, by omega, by have := unhide HCN; omega, ?_, unhide HNX, unhide HR2⟩
              rw [unhide HAG2]
              exact (unhide HOUT) _ _ _ (unhide HA7) (by omega)
        · rw [if_neg (fun e => hc3 e.2)] at hrr2
          have HR2 := hide hrr2
          have HNX := hide ((unhide HRI).go hnf)
          have hc4 : (3 : Int) < (cn : Int) := by omega
          have hc5 : decide ((3 : Int) < (cn : Int)) = true := by simp; omega
          have HDROP := hide (fun W (hW : AE w W P st cs rest) => gdrop_any hW (unhide HRI).inv (by have := unhide HK1; omega) (unhide HRI).mrk (atM st.L (i : Int)) hp)
          have HLEAVE := hide (fun W (hW : AE w W P (dropP st (atM st.L (i : Int))) ⟨cs.another, cs.errs, cs.cnt + 1⟩ rest) => gleave_any hW ((unhide HRI).inv.drop _) (by have := unhide HK1; simp only; omega) (atM st.L (i : Int)))
          have HGO : Hid (goP st (atM st.L (i : Int)) = leaveP (dropP st (atM st.L (i : Int))) (atM st.L (i : Int))) := hide (by unfold goP; rw [if_pos hp])
          clear hnf hrr2 hc3 hp HRR HNF
          generalize goP st (atM st.L (i : Int)) = sg at *
          generalize dropP st (atM st.L (i : Int)) = sd at *
          generalize atM st.L (i : Int) = na at *
          go_wp2_with (first
              | (go_at_call 15; refine ((unhide HAT) _ (unhide HA)).mono ?_; rintro e w1 ⟨rfl, rfl⟩)
              | (go_at_call 84; refine ((unhide HLF) _ (unhide HA)).mono ?_; rintro e w2 ⟨rfl, he2⟩; have HA1 := hide he2; clear g0 g1 g2 g3 g4 g5 g6; obtain ⟨g0, g1, g2, g3, g4, g5, g6⟩ := he2.cells; clear he2)
              | (go_at_call 90; refine ((unhide HDROP) _ (unhide HA1)).mono ?_; rintro e w3 ⟨rfl, he3⟩; have HA2 := hide he3; clear g0 g1 g2 g3 g4 g5 g6; obtain ⟨g0, g1, g2, g3, g4, g5, g6⟩ := he3.cells; clear he3)
              | (go_at_call 157; refine ((unhide HLEAVE) _ (unhide HA2)).mono ?_; rintro e w4 ⟨rfl, he4⟩; have HA7 := hide he4; clear he4))
          go_roundg i
          case measure => omega
          case rel =>
            refine ⟨cn + 1, sg, last, rfl, rfl, by simp, by omega, by have := unhide HCN; omega, ?_, unhide HNX, unhide HR2⟩
            rw [unhide HGO]
            exact (unhide HOUT) _ _ _ (unhide HA7) (by omega)
      · have hge : decide (0 ≤ placeE st.es (atM st.L (i : Int))) = false := by simpa using hp
        rw [if_neg (fun e => hp e.1)] at hrr2
        have HR2 := hide hrr2
        have HNX := hide ((unhide HRI).go hnf)
        have HLEAVE := hide (fun W (hW : AE w W P st cs rest) => gleave_any hW (unhide HRI).inv (by have := unhide HK1; omega) (atM st.L (i : Int)))
        have HGO : Hid (goP st (atM st.L (i : Int)) = leaveP st (atM st.L (i : Int))) := hide (by unfold goP; rw [if_neg hp])
        clear hnf hrr2 HRR HNF
        generalize goP st (atM st.L (i : Int)) = sg at *
        generalize atM st.L (i : Int) = na at *
        go_wp2_with (first
            | (go_at_call 15; refine ((unhide HAT) _ (unhide HA)).mono ?_; rintro e w1 ⟨rfl, rfl⟩)
            | (go_at_call 84; refine ((unhide HLF) _ (unhide HA)).mono ?_; rintro e w2 ⟨rfl, he2⟩; have HA1 := hide he2; clear g0 g1 g2 g3 g4 g5 g6; obtain ⟨g0, g1, g2, g3, g4, g5, g6⟩ := he2.cells; clear he2)
            | (go_at_call 157; refine ((unhide HLEAVE) _ (unhide HA1)).mono ?_; rintro e w4 ⟨rfl, he4⟩; have HA7 := hide he4; clear he4))
        go_roundg i
        case measure => omega
        case rel =>
          refine ⟨cn + 1, sg, last, rfl, rfl, by simp, by omega, by have := unhide HCN; omega, ?_, unhide HNX, unhide HR2⟩
          rw [unhide HGO]
          exact (unhide HOUT) _ _ _ (unhide HA7) (by omega)
end
end Go.Proofs.YtkakncngkmoegaaGreat

namespace Go.Proofs.YtkakncngkmoegaaGreat
open Go.RowKit Go.Sort

theorem findM_le (L : List Int) (x : Int) : -1 ≤ findM L x ∧ findM L x ≤ L.length := by
  unfold findM
  split
  · rename_i h
    have := List.idxOf_lt_length_iff.2 h
    omega
  · omega
theorem nums_val {w : World} {base : Nat} {v : Value} {l : List Nat} (h : w.ownsRow base 3 1 v l.length (intsV l)) : ∃ a cap, v = .slice a l.length cap ∧ ∀ (i : Nat) x, l[i]? = some x → ∃ g, a = some ⟨g, 0, none⟩ := by
  rcases h.2 with ⟨e, h0⟩ | ⟨g, cap, cur, e, _⟩
  · have : l = [] := List.eq_nil_of_length_eq_zero h0
    subst this
    exact ⟨none, 0, e, fun i x hi => by simp at hi⟩
  · exact ⟨_, cap, e, fun _ _ _ => ⟨g, rfl⟩⟩
theorem nums_cell {w : World} {base g cap : Nat} {l : List Nat} (h : w.ownsRow base 3 1 (.slice (some ⟨g, 0, none⟩) l.length cap) l.length (intsV l)) {i x : Nat} (hi : l[i]? = some x) : w.cell? ⟨g, i, none⟩ = some (.int .i64 (x : Int)) := by
  have hlt := (List.getElem?_eq_some_iff.1 hi).1
  rw [h.cellAt i (by omega)]
  simp [intsV, hi]
section
variable {w wx : World} {P : Pt} {s : St} {c : Ct} {rest : List (Ob w.heap.size)} {N : Nat}
theorem AE.nums {v : Value} {l : List Nat} (h : AE w wx P s c (rest ++ [numOb _ v l])) : wx.ownsRow w.heap.size 3 1 v l.length (intsV l) := Env.nums (i := rest.length + 4) h (show (rest ++ [numOb _ v l])[rest.length]? = some (numOb _ v l) by simp)
set_option maxRecDepth 20000 in
set_option maxHeartbeats 4000000 in
theorem greplace_any (h : AE w wx P s c rest) {f b : Int} (hr : RpI s f b N) (hc : c.cnt < 900000000) : Calls Tryz.prog 134 #[.pointer (some ⟨P.bG, 0, none⟩), .int .i64 f, .int .i64 b] wx fun e w' => e = .returned (.int .i64 0) ∧ AE w w' P (replaceP s f b) ⟨c.another, c.errs, c.cnt + 40000⟩ rest := by
  have HANEW := hide (gnew_any h hr.inv f hr.plc)
  rw [hr.new.1.err] at HANEW
  have HKIDS := hide (fun W (hW : AE w W P (newP s f) c rest) => ae_kids hW b)
  have HKF := hide (fun W (hW : AE w W P (newP s f) c rest) => hW.kidsF b)
  have HPUT : Hid (∀ W (s' : St) (c' : Ct) (r : List (Ob w.heap.size)) (p id : Int), AE w W P s' c' r → c'.cnt < 1000000000 → hasO s'.os p = true → hasO s'.os id = true → Calls Tryz.prog 133 #[.pointer (some ⟨P.bG, 0, none⟩), spotV p (-1), .int .i64 id] W fun e w' => e = .returned (.tuple #[]) ∧ AE w w' P (putP s' p (-1) id) ⟨c'.another, c'.errs, c'.cnt + 1⟩ r) := hide (fun W s' c' r p id hW hc' h1 h2 => gput_any hW hc' p (-1) id h1 h2 (.inl rfl))
  have HMH : Hid (∀ l : List Nat, hasO (kidsP (newI s f) (newP s f) l).os (newI s f) = true) := hide (fun l => hasO_le (Nat.le_of_eq (kidsP_as (newI s f) l (newP s f)).2.2.2.len.symm) hr.new.1.has)
  have HKH : Hid (∀ (l : List Nat) (k : Nat), hasO (newP s f).os (k : Int) = true → hasO (kidsP (newI s f) (newP s f) l).os (k : Int) = true) := hide (fun l k hk => hasO_le (Nat.le_of_eq (kidsP_as (newI s f) l (newP s f)).2.2.2.len.symm) hk)
  have HBH : Hid (∀ l : List Nat, hasO (kidsP (newI s f) (newP s f) l).os b = true) := hide (fun l => hasO_le (Nat.le_trans hr.new.1.more.1 (Nat.le_of_eq (kidsP_as (newI s f) l (newP s f)).2.2.2.len.symm)) hr.hb)
  have HFILL : Hid (putP (kidsP (newI s f) (newP s f) (kidsO (newP s f).os b)) b (-1) (newI s f) = fillP s f b) := hide rfl
  have HLEN : Hid ((newP s f).os.length ≤ 32768) := hide (by have h1 := hr.new.1.more.2; have h2 := hr.room; omega)
  have HTK : Hid (∀ W (c' : Ct) (r : List (Ob w.heap.size)), AE w W P (fillP s f b) c' r → Calls Tryz.prog 123 #[.pointer (some ⟨P.bG, 0, none⟩), .int .i64 f] W fun e w' => ∃ ao ac, e = .returned (.agg ((tokE (fillP s f b).es f).cells (.slice ao (tokE (fillP s f b).es f).attrs.length ac)).toArray) ∧ AE w w' P (fillP s f b) c' r) := hide (fun W c' r hW => (gtoken_any hW hr.fill f hr.plc2).mono fun _ _ ⟨a, b, c, _, e⟩ => ⟨a, b, c, hW.more e⟩)
  have HDR : Hid (∀ W (c' : Ct) (r : List (Ob w.heap.size)), c'.cnt < 1000000000 → AE w W P (fillP s f b) c' r → Calls Tryz.prog 90 #[.pointer (some ⟨P.bG, 0, none⟩), .int .i64 f] W fun e w' => e = .returned (.tuple #[]) ∧ AE w w' P (dropP (fillP s f b) f) ⟨c'.another, c'.errs, c'.cnt + 1⟩ r) := hide (fun W c' r hc' hW => gdrop_any hW hr.fill hc' hr.mrk2 f hr.plc2)
  have HEN : Hid (∀ W (c' : Ct) (r : List (Ob w.heap.size)) (ao : Option Addr) (ac : Nat), c'.cnt < 1000000000 → AE w W P (dropP (fillP s f b) f) c' r → Calls Tryz.prog 172 #[.pointer (some ⟨P.bG, 0, none⟩), .int .i64 (newI s f), .agg ((tokE (fillP s f b).es f).cells (.slice ao (tokE (fillP s f b).es f).attrs.length ac)).toArray] W fun e w' => e = .returned (.tuple #[]) ∧ AE w w' P (enterP (dropP (fillP s f b) f) (newI s f) (tokE (fillP s f b).es f)) ⟨c'.another, c'.errs, c'.cnt + 1⟩ r) := hide (fun W c' r ao ac hc' hW => genter_any hW hr.drop.1 hc' (newI s f) (tokE (fillP s f b).es f) hr.none.1 ao ac)
  have HLV : Hid (∀ W (c' : Ct) (r : List (Ob w.heap.size)), c'.cnt < 1000000000 → AE w W P (enterP (dropP (fillP s f b) f) (newI s f) (tokE (fillP s f b).es f)) c' r → Calls Tryz.prog 157 #[.pointer (some ⟨P.bG, 0, none⟩), .int .i64 f] W fun e w' => e = .returned (.tuple #[]) ∧ AE w w' P (leaveP (enterP (dropP (fillP s f b) f) (newI s f) (tokE (fillP s f b).es f)) f) ⟨c'.another, c'.errs, c'.cnt + 1⟩ r) := hide (fun W c' r hc' hW => gleave_any hW hr.enter hc' f)
  have HFI : Hid (∀ W (c' : Ct) (r : List (Ob w.heap.size)), AE w W P (leaveP (enterP (dropP (fillP s f b) f) (newI s f) (tokE (fillP s f b).es f)) f) c' r → Calls Tryz.prog 89 #[.pointer (some ⟨P.bK, 0, none⟩), .int .i64 b] W fun e w' => e = .returned (.int .i64 (findM (leaveP (enterP (dropP (fillP s f b) f) (newI s f) (tokE (fillP s f b).es f)) f).L b)) ∧ W = w') := hide (fun W c' r hW => ae_sfind hW hr.leave b)
  have HST : Hid (∀ W (c' : Ct) (r : List (Ob w.heap.size)), c'.cnt < 1000000000 → AE w W P (leaveP (enterP (dropP (fillP s f b) f) (newI s f) (tokE (fillP s f b).es f)) f) c' r → Calls Tryz.prog 173 #[.pointer (some ⟨P.bG, 0, none⟩), .int .i64 (findM (leaveP (enterP (dropP (fillP s f b) f) (newI s f) (tokE (fillP s f b).es f)) f).L b + 1), .int .i64 (newI s f)] W fun e w' => e = .returned (.tuple #[]) ∧ AE w w' P (replaceP s f b) ⟨c'.another, c'.errs, c'.cnt + 1⟩ r) := hide (fun W c' r hc' hW => gstand_any hW hr.leave hc' _ _)
  have hwf : IntKind.i64.wrap (findM (leaveP (enterP (dropP (fillP s f b) f) (newI s f) (tokE (fillP s f b).es f)) f).L b + 1) = findM (leaveP (enterP (dropP (fillP s f b) f) (newI s f) (tokE (fillP s f b).es f)) f).L b + 1 := by
    have h1 := hr.leave.good.len
    rw [keysO_len] at h1
    have h2 := hr.leave.few
    have h3 := hr.room
    have h4 := findM_le (leaveP (enterP (dropP (fillP s f b) f) (newI s f) (tokE (fillP s f b).es f)) f).L b
    exact wrap_small (by omega) (by omega)
  obtain ⟨g0, g1, g2, g3, g4, g5, g6⟩ := h.cells
  have HC := hide hc
  clear h hr hc
  generalize replaceP s f b = sR at *
  generalize hfd : findM (leaveP (enterP (dropP (fillP s f b) f) (newI s f) (tokE (fillP s f b).es f)) f).L b = fd at *
  clear hfd
  generalize leaveP (enterP (dropP (fillP s f b) f) (newI s f) (tokE (fillP s f b).es f)) f = sL at *
  generalize enterP (dropP (fillP s f b) f) (newI s f) (tokE (fillP s f b).es f) = sE at *
  generalize dropP (fillP s f b) f = sD at *
  generalize tokE (fillP s f b).es f = tk at *
  generalize fillP s f b = sF at *
  generalize newI s f = m at *
  generalize newP s f = sN at *
  obtain ⟨t0, t1, t2, t3, t4, t5, t6, t7, ta⟩ := tk
  simp only [TokM.cells] at *
  unfold spotV at HPUT
  go_enter Tryz.func134, Tryz.ntmps134
  go_wp2_with (first
    | (go_at_call 158; refine (unhide HANEW).mono ?_; rintro e w1 ⟨rfl, he1⟩; have HA1 := hide he1; have HKF1 := hide ((unhide HKF) _ he1); clear g0 g1 g2 g3 g4 g5 g6; obtain ⟨g0, g1, g2, g3, g4, g5, g6⟩ := he1.cells; clear he1)
    | (go_at_call 171; refine ((unhide HKIDS) _ (unhide HA1)).mono ?_; rintro e w2 ⟨v, rfl, he2⟩; obtain ⟨va, vc, rfl, hva⟩ := nums_val he2.nums; have HA2 := hide he2; clear g0 g1 g2 g3 g4 g5 g6; obtain ⟨g0, g1, g2, g3, g4, g5, g6⟩ := he2.cells; have HVA := hide hva; clear he2 hva))
  generalize hl : kidsO sN.os b = l at *
  have HKL : Hid (l.length ≤ 32768) := hide (by have h1 := (unhide HKF1).1; have h2 := unhide HLEN; omega)
  clear HANEW HKIDS HKF hl
  go_loopg [10, 28] l.length (fun g _ s28 wr => ∃ k : Nat, k + g = l.length ∧ s28 = .int .i64 k ∧ AE w wr P (kidsP m sN (l.take k)) ⟨c.another, c.errs, c.cnt + k⟩ (rest ++ [numOb _ (.slice va l.length vc) l]))
  case atStart => exact ⟨0, by omega, rfl, unhide HA2⟩
  case round =>
    obtain ⟨k, hkg, rfl, hae⟩ := hrel
    clear g0 g1 g2 g3 g4 g5 g6 HA1 HA2
    by_cases hk : k < l.length
    · obtain ⟨x, hx⟩ : ∃ x, l[k]? = some x := ⟨_, List.getElem?_eq_getElem hk⟩
      obtain ⟨g, rfl⟩ := (unhide HVA) k x hx
      have hcell := nums_cell hae.nums hx
      have hkz : (k : Int) < (l.length : Int) := by omega
      have hk0 : (0 : Int) ≤ (k : Int) := by omega
      have HTK2 : Hid (l.take (k + 1) = l.take k ++ [x]) := hide (by rw [List.take_add_one, hx]; rfl)
      have HX := hide ((unhide HKF1).2 x (List.mem_of_getElem? hx))
      have HA := hide hae
      have HKK := hide hk
      have HKG := hide hkg
      have hw1 : IntKind.i64.wrap ((k : Int) + 1) = (k : Int) + 1 := by have := unhide HKL; exact wrap_small (by omega) (by omega)
      clear hae hx hk hkg
      go_wp2_with (first
        | (go_at_call 160; refine (gatEnd_any _ _).mono ?_; unfold spotV; rintro e w6 ⟨rfl, he6⟩; have HA6 := hide ((unhide HA).more he6); clear he6)
        | (go_at_call 133; refine ((unhide HPUT) _ _ _ _ _ _ (unhide HA6) (by have h1 := unhide HC; have h2 := unhide HKK; have h3 := unhide HKL; simp only; omega) ((unhide HMH) _) ((unhide HKH) _ _ (unhide HX))).mono ?_; rintro e w7 ⟨rfl, he7⟩; have HA7 := hide he7; clear he7))
      go_roundg (l.length - (k + 1))
      case measure => have := unhide HKG; have := unhide HKK; omega
      case rel =>
        refine ⟨k + 1, by have := unhide HKG; have := unhide HKK; omega, by simp, ?_⟩
        rw [unhide HTK2, kidsP_snoc]
        exact unhide HA7
    · obtain rfl : k = l.length := by omega
      rw [List.take_length] at hae
      have hkz : ¬ (l.length : Int) < (l.length : Int) := by omega
      obtain ⟨g0, g1, g2, g3, g4, g5, g6⟩ := hae.cells
      have HA := hide hae.drop1
      have HCC : Hid (c.cnt + l.length + 5 ≤ c.cnt + 40000 ∧ c.cnt + l.length + 5 < 1000000000) := hide (by have h1 := unhide HC; have h3 := unhide HKL; omega)
      clear hae hk hkg
      go_wp2_with (first
        | (go_at_call 160; refine (gatEnd_any _ _).mono ?_; unfold spotV; rintro e w6 ⟨rfl, he6⟩; have HA6 := hide ((unhide HA).more he6); clear he6)
        | (go_at_call 133; refine ((unhide HPUT) _ _ _ _ _ _ (unhide HA6) (by have h1 := unhide HCC; simp only; omega) ((unhide HBH) _) ((unhide HMH) _)).mono ?_; rintro e w7 ⟨rfl, he7⟩; rw [unhide HFILL] at he7; have HA7 := hide he7; clear g0 g1 g2 g3 g4 g5 g6; obtain ⟨g0, g1, g2, g3, g4, g5, g6⟩ := he7.cells; clear he7)
        | (go_at_call 123; refine ((unhide HTK) _ _ _ (unhide HA7)).mono ?_; rintro e w8 ⟨ao, ac, rfl, he8⟩; have he8b := he8.boxed #[.int .i64 t0, .string t1, .string t2, .string t3, .int .i64 t4, .bool t5, .int .i32 t6, .bool t7, .slice ao ta.length ac] 52; have HA8 := hide he8b; clear g0 g1 g2 g3 g4 g5 g6; obtain ⟨g0, g1, g2, g3, g4, g5, g6⟩ := he8b.cells; clear he8 he8b)
        | (go_at_call 90; refine ((unhide HDR) _ _ _ (by have h1 := unhide HCC; simp only; omega) (unhide HA8)).mono ?_; rintro e w9 ⟨rfl, he9⟩; have HA9 := hide he9; clear g0 g1 g2 g3 g4 g5 g6; obtain ⟨g0, g1, g2, g3, g4, g5, g6⟩ := he9.cells; have hb9 := he9.block (i := rest.length) (K := w8.heap.size) (cs := #[.int .i64 t0, .string t1, .string t2, .string t3, .int .i64 t4, .bool t5, .int .i32 t6, .bool t7, .slice ao ta.length ac]) (t := 52) (by simp); obtain ⟨k0, k1, k2, k3, k4, k5, k6, k7, k8, _⟩ := nine hb9; clear he9 hb9)
        | (go_at_call 172; refine ((unhide HEN) _ _ _ _ _ (by have h1 := unhide HCC; simp only; omega) (unhide HA9)).mono ?_; rintro e w10 ⟨rfl, he10⟩; have HA10 := hide he10.drop1; clear g0 g1 g2 g3 g4 g5 g6; obtain ⟨g0, g1, g2, g3, g4, g5, g6⟩ := he10.cells; clear he10)
        | (go_at_call 157; refine ((unhide HLV) _ _ _ (by have h1 := unhide HCC; simp only; omega) (unhide HA10)).mono ?_; rintro e w11 ⟨rfl, he11⟩; have HA11 := hide he11; clear g0 g1 g2 g3 g4 g5 g6; obtain ⟨g0, g1, g2, g3, g4, g5, g6⟩ := he11.cells; clear he11)
        | (go_at_call 89; refine ((unhide HFI) _ _ _ (unhide HA11)).mono ?_; rintro e w12 ⟨rfl, rfl⟩)
        | (go_at_call 173; refine ((unhide HST) _ _ _ (by have h1 := unhide HCC; simp only; omega) (unhide HA11)).mono ?_; rintro e w13 ⟨rfl, he13⟩; have HA13 := hide he13; clear he13))
      go_ret
      exact ⟨rfl, (unhide HA13).cnt _ (by have h1 := unhide HCC; simp only; omega)⟩
end
end Go.Proofs.YtkakncngkmoegaaGreat

namespace Go.Proofs.YtkakncngkmoegaaGreat
open Go.RowKit Go.Sort

section
variable {w wx : World} {P : Pt} {s : St} {c : Ct} {rest : List (Ob w.heap.size)} {N : Nat}
theorem AE.setLast {K : Nat} {cs : Array Value} {t : TypeId} (h : AE w wx P s c (rest ++ [blkOb _ K cs t])) (j : Nat) (u : Value) : AE w (wx.setCell ⟨K, j, none⟩ u) P s c (rest ++ [blkOb _ K (cs.setIfInBounds j u) t]) := by
  have h2 := Env.setBlk (i := rest.length + 4) h (show (rest ++ [blkOb _ K cs t])[rest.length]? = some (blkOb _ K cs t) by simp) j u
  have e : (rest ++ [blkOb _ K cs t]).set rest.length (blkOb _ K (cs.setIfInBounds j u) t) = rest ++ [blkOb _ K (cs.setIfInBounds j u) t] := by simp
  unfold AE
  rw [← e]
  exact h2
set_option maxRecDepth 20000 in
set_option maxHeartbeats 4000000 in
theorem gadopt_any (h : AE w wx P s c rest) {f b : Int} (ha : AdI s f b N) (hc : c.cnt < 800000000) : Calls Tryz.prog 94 #[.pointer (some ⟨P.bG, 0, none⟩), .int .i64 f, .int .i64 b] wx fun e w' => e = .returned (.int .i64 0) ∧ AE w w' P (adoptP s f b P.foster) ⟨c.another, c.errs, c.cnt + 300000⟩ rest := by
  obtain ⟨i0, hi0, hil⟩ := ha.find
  have hi1 : i0 ≤ 32768 := by have := h.few ha.inv; omega
  obtain ⟨k, hbk, hkl⟩ := below_ok ha.inv.good ha.mem
  have HBE := hide (gbelow_any h ha.inv f)
  rw [hbk] at HBE
  have HLF := hide (ae_lfind h ha.inv f)
  have HSM := hide (fun W (hW : AE w W P s c rest) => hW.setMark (placeE s.es f))
  have HFR := hide (fun W (hW : AE w W P s c rest) => hW.free 6)
  have hst := ha.start
  rw [hi0, Int.toNat_natCast] at hst
  have HRN := hide (fun W (hW : AE w W P (markP s (placeE s.es f)) c rest) => grenew_any (N := N) hW (f := f) (b := b) (i0 := i0) hi0 hst ha.room (by omega))
  have hrf : renewP f b i0 1 (markP s (placeE s.es f)) b = renewF s f b := by unfold renewF; rw [hi0, Int.toNat_natCast]
  rw [hrf] at HRN
  have hrx := ha.renew
  have HSP : Hid (∀ W (r : List (Ob w.heap.size)), AE w W P (renewF s f b).1 ⟨c.another, c.errs, c.cnt + 4 * i0⟩ r → Calls Tryz.prog 132 #[.pointer (some ⟨P.bA, 0, none⟩), .pointer (some ⟨P.bK, 0, none⟩), .int .i64 k, .bool P.foster] W fun e w' => e = .returned (.tuple #[spotV (spotF (renewF s f b).1.os (renewF s f b).1.L (k : Int) P.foster).1 (spotF (renewF s f b).1.os (renewF s f b).1.L (k : Int) P.foster).2, .int .i64 0]) ∧ AE w w' P (renewF s f b).1 ⟨c.another, c.errs, c.cnt + 4 * i0⟩ r) := hide (fun W r hW => ae_spot hW hrx.inv (by have := hrx.old; omega))
  have HPU : Hid (∀ W (r : List (Ob w.heap.size)), AE w W P (renewF s f b).1 ⟨c.another, c.errs, c.cnt + 4 * i0⟩ r → Calls Tryz.prog 133 #[.pointer (some ⟨P.bG, 0, none⟩), spotV (spotF (renewF s f b).1.os (renewF s f b).1.L (k : Int) P.foster).1 (spotF (renewF s f b).1.os (renewF s f b).1.L (k : Int) P.foster).2, .int .i64 (renewF s f b).2] W fun e w' => e = .returned (.tuple #[]) ∧ AE w w' P (moveP (renewF s f b).1 (k : Int) (renewF s f b).2 P.foster) ⟨c.another, c.errs, c.cnt + 4 * i0 + 1⟩ r) := hide (fun W r hW => by
    obtain ⟨ns, hs⟩ := hW.sim
    have ho := spotF_ok hs hrx.inv.good hrx.inv.one (k := k) (by have := hrx.old; omega) P.foster
    exact gput_any hW (by simp only; omega) _ _ _ ho.1 hrx.hl ho.2)
  have HRP : Hid (∀ W, AE w W P (moveP (renewF s f b).1 (k : Int) (renewF s f b).2 P.foster) ⟨c.another, c.errs, c.cnt + 4 * i0 + 1⟩ rest → Calls Tryz.prog 134 #[.pointer (some ⟨P.bG, 0, none⟩), .int .i64 f, .int .i64 b] W fun e w' => e = .returned (.int .i64 0) ∧ AE w w' P (adoptP s f b P.foster) ⟨c.another, c.errs, c.cnt + 300000⟩ rest) := hide (fun W hW => by
    have hm := ha.move P.foster
    unfold adoptP
    rw [hbk] at hm ⊢
    refine (greplace_any hW hm (by simp only; omega)).mono fun _ _ ⟨a, b⟩ => ⟨a, b.cnt _ (by simp only; omega)⟩)
  obtain ⟨g0, g1, g2, g3, g4, g5, g6⟩ := h.cells
  have HE := hide h
  clear h ha hc hi0 hil hi1 hbk hkl hst hrf hrx
  generalize moveP (renewF s f b).1 (k : Int) (renewF s f b).2 P.foster = sM at *
  generalize spotF (renewF s f b).1.os (renewF s f b).1.L (k : Int) P.foster = sp at *
  generalize renewF s f b = rf at *
  obtain ⟨rs, rl⟩ := rf
  obtain ⟨sp1, sp2⟩ := sp
  unfold spotV at HSP HPU
  simp only at *
  go_enter Tryz.func94, Tryz.ntmps94
  go_wp2_with (first
    | (go_at_call 130; refine (unhide HBE).mono ?_; rintro e w1 ⟨rfl, rfl⟩)
    | (go_at_call 84; refine (unhide HLF).mono ?_; rintro e w2 ⟨rfl, he2⟩; have HA2 := hide ((unhide HSM) _ he2); have f6 := (unhide HFR) _ he2; clear g0 g1 g2 g3 g4 g5 g6; obtain ⟨g0, g1, g2, g3, g4, g5, g6⟩ := he2.cells; clear he2)
    | (go_at_call 131; refine ((unhide HRN) _ (unhide HA2)).mono ?_; rintro e w3 ⟨rfl, he3⟩; have HA3 := hide he3; clear g0 g1 g2 g3 g4 g5 g6 f6; obtain ⟨g0, g1, g2, g3, g4, g5, g6⟩ := he3.cells; clear he3))
  have HZ := hide ((unhide HA3).boxed #[.int .i64 0, .int .i64 0] 159)
  have HS : Hid (∀ (W : World) (s' : St) (c' : Ct) (r : List (Ob w.heap.size)), AE w W P s' c' r → W.cell? ⟨P.bG, 0, none⟩ = some (.pointer (some ⟨P.bA, 0, none⟩)) ∧ W.cell? ⟨P.bG, 1, none⟩ = some (.pointer (some ⟨P.bK, 0, none⟩)) ∧ W.cell? ⟨P.bG, 3, none⟩ = some (.bool P.foster)) := hide (fun W s' c' r hW => ⟨hW.cells.1, hW.cells.2.1, hW.cells.2.2.2.1⟩)
  clear g2 g4 g5 g6 HE HBE HLF HSM HFR HRN HA2
  go_region_held3 (fun W' => W'.cell? ⟨P.bG, 0, none⟩ = some (.pointer (some ⟨P.bA, 0, none⟩)) ∧ W'.cell? ⟨P.bG, 1, none⟩ = some (.pointer (some ⟨P.bK, 0, none⟩)) ∧ W'.cell? ⟨P.bG, 3, none⟩ = some (.bool P.foster)) (with_reducible (first | exact (unhide HS) _ _ _ _ (unhide HA4) | exact (unhide HS) _ _ _ _ (unhide HA5) | exact (unhide HS) _ _ _ _ (unhide HA3) | exact (unhide HS) _ _ _ _ (unhide HA3).drew | exact (unhide HS) _ _ _ _ (unhide HZ) | exact (unhide HS) _ _ _ _ (unhide HZ).drew | exact (unhide HS) _ _ _ _ ((unhide HA4).boxed _ _) | exact (unhide HS) _ _ _ _ ((unhide HA4).boxed _ _).drew | exact (unhide HS) _ _ _ _ (unhide HB5))) (first
    | (go_at_call 132; (first
        | (refine ((unhide HSP) _ _ (by with_reducible (first | exact unhide HA3 | exact (unhide HA3).drew))).mono ?_; rintro e w4 ⟨rfl, he4⟩; have HA4 := hide he4; clear he4)
        | (refine ((unhide HSP) _ _ (by with_reducible (first | exact unhide HZ | exact (unhide HZ).drew))).mono ?_; rintro e w4 ⟨rfl, he4⟩; have HA5 := hide he4; have HB5 : Hid (AE w ((w4.setCell ⟨w3.heap.size, 0, none⟩ (.int .i64 sp1)).setCell ⟨w3.heap.size, 1, none⟩ (.int .i64 sp2)) P rs ⟨c.another, c.errs, c.cnt + 4 * i0⟩ (rest ++ [blkOb _ w3.heap.size #[.int .i64 sp1, .int .i64 sp2] 159])) := hide ((he4.setLast 0 (.int .i64 sp1)).setLast 1 (.int .i64 sp2)); have hb4 := he4.block (i := rest.length) (K := w3.heap.size) (cs := #[.int .i64 0, .int .i64 0]) (t := 159) (by simp); have q0 := cell_of_row _ _ 0 _ _ _ hb4; have q1 := cell_of_row _ _ 1 _ _ _ hb4; have q2 := free_row hb4 0; have q3 := free_row hb4 1; have HB4 := hide hb4; clear he4 hb4))))
  all_goals (first
    | (have hu := unhide HB5; have hbk := hu.block (i := rest.length) (K := w3.heap.size) (cs := #[.int .i64 sp1, .int .i64 sp2]) (t := 159) (by simp); have HU := hide hu; generalize (w4.setCell ⟨w3.heap.size, 0, none⟩ (.int .i64 sp1)).setCell ⟨w3.heap.size, 1, none⟩ (.int .i64 sp2) = W5 at *; clear HB5 HA5 q0 q1 q2 q3 HB4)
    | (have hu := (unhide HA4).boxed #[.int .i64 sp1, .int .i64 sp2] 159; have hbk := hu.block (i := rest.length) (K := w4.heap.size) (cs := #[.int .i64 sp1, .int .i64 sp2]) (t := 159) (by simp); have HU := hide hu; generalize w4.alloc (.cells #[.int .i64 sp1, .int .i64 sp2] 159) = W5 at *; clear HA4))
  all_goals have k0 := cell_of_row _ _ 0 _ _ _ hbk
  all_goals have k1 := cell_of_row _ _ 1 _ _ _ hbk
  all_goals clear HS HZ HA3 HSP g0 g1 g3 hbk hu
  all_goals obtain ⟨g0, g1, g2, g3, g4, g5, g6⟩ := (unhide HU).cells
  all_goals go_wp2_with (first
    | (go_at_call 133; refine ((unhide HPU) _ _ (unhide HU)).mono ?_; rintro e w5 ⟨rfl, he5⟩; have HX5 := hide he5.drop1; clear he5)
    | (go_at_call 134; refine ((unhide HRP) _ (unhide HX5)).mono ?_; rintro e w6 ⟨rfl, he6⟩; have HX6 := hide he6; clear he6))
  all_goals go_ret
  all_goals exact ⟨rfl, unhide HX6⟩
end
end Go.Proofs.YtkakncngkmoegaaGreat
