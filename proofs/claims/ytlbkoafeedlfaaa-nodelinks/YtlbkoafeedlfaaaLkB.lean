/-
  Proved: NodeLinks returns true: behind every script of calls (its first 500) each node's children have it as their parent and are each other's neighbours, in order, the ends are told, and no node is above its parent.
  Conditions: none beyond the given row's own.
-/
import Derived.Test.YtlbkoafeedlfaaaLkA
import Derived.Test.YtlbkoafeedlfaaaRows
import Derived.Lib.SmallJoins
namespace Go.Proofs.Ytlbkoafeedlfaaa
open Go.RowKit

set_option maxHeartbeats 8000000 in
theorem links_walkA {w : World} (a : Option Addr) (cap : Nat) (l : List OpM) (hs : ScriptIn w a l) (hn : l.length ≤ maxLen) (hX : l.length ≤ 500) :
    Calls Try.prog 4 #[.slice a l.length cap] w fun e w' => e = .returned (.bool true) ∧ Below w.heap.size w w' := by
  have HN := hide (new_any w w.heap.size (Nat.le_refl _))
  have HS := hide hs
  unfold maxLen at hn
  clear hs
  go_enter Try.func4, Try.ntmps4
  go_wp2_with (first
    | (go_at_call 13; refine (unhide HN).mono ?_; rintro e w1 ⟨F, rfl, h1, hb1, hF⟩; have HNR := hide (refNew_any w1 w.heap.size hb1.size); have H1 := hide h1; have HB1 := hide hb1; have HF := hide hF; clear h1 hb1 hF)
    | (go_at_call 14; refine (unhide HNR).mono ?_; rintro e w2 ⟨bR, g, cp, rfl, h2, hb2, hR, hg⟩; have HBo := hide (both_new (unhide H1) (unhide HB1) (unhide HF) h2 hb2 hR hg); clear h2 hb2 hR hg))
  go_loopg [5] l.length (fun k s wx => ∃ (j : Nat) (os : List OneM), s = .int .i64 j ∧ j + k = l.length ∧ Both w wx (w.heap.size + 3) bR os)
  case atStart => exact ⟨0, _, rfl, by omega, unhide HBo⟩
  case round =>
    obtain ⟨j, os, rfl, hjk, hB⟩ := hrel
    have HB := hide hB
    obtain ⟨ns, F0, G0, hp⟩ := hB
    have HAR := hide hp.ar
    have HSIM := hide hp.sim
    have HBW := hide hp.below
    clear hp
    by_cases hj : j < l.length
    · have hjl : j < l.length := by omega
      have hx : l[j]? = some l[j] := List.getElem?_eq_getElem hjl
      generalize l[j] = o at hx
      have hjz : (j : Int) < (l.length : Int) := by omega
      have hj5 : (j : Int) < 500 := by omega
      obtain ⟨ha, hr⟩ := (unhide HS).attrs j o hx
      obtain ⟨b, off, rfl, d0, d1, d2, d3, d4, d5, d6, d7, d8, d9, d10, d11⟩ := ((unhide HS).below (unhide HBW)).cells j o hx
      have HPL := hide (play_any (unhide HB) o ha hr)
      unfold OpM.cells at HPL
      clear ha hr hx
      go_wp2_with (go_at_call 15; refine (unhide HPL).mono ?_; rintro e w5 ⟨rfl, os5, hB5⟩; have HB5 := hide hB5; clear hB5)
      go_roundg (gk - 1)
      case measure => omega
      case rel => exact ⟨j + 1, os5, by go_num, by omega, unhide HB5⟩
    · have hjz : ¬ (j : Int) < (l.length : Int) := by omega
      have HLE := hide (unhide HSIM).len
      have hos : os.length ≤ 32768 := ArS.few (unhide HAR) (unhide HSIM)
      clear HB HBo H1 HB1 HF HNR HN HS
      obtain ⟨wo, hwo⟩ : ∃ wo, wo = wr := ⟨_, rfl⟩
      subst hwo
      go_wp2_with fail
      go_loopg [6] os.length (fun k s wy => ∃ i : Nat, s = .int .i64 i ∧ i + k = os.length ∧ Below wo.heap.size wo wy)
      case atStart => exact ⟨0, rfl, by omega, Below.refl _ _⟩
      case round =>
        obtain ⟨i, rfl, hik, hb⟩ := hrel
        have HARy := hide ((unhide HAR).below hb)
        have HBy := hide hb
        have HLEN := hide (lenS_any (unhide HARy))
        rw [unhide HLE] at HLEN
        clear hb
        obtain ⟨wy, hwy⟩ : ∃ wy, wy = wr := ⟨_, rfl⟩
        subst hwy
        by_cases hi : i < os.length
        · have hiz : (i : Int) < (os.length : Int) := by omega
          have ho : os[i]? = some os[i] := List.getElem?_eq_getElem hi
          generalize os[i] = o at ho
          obtain ⟨n, hn', _⟩ := (unhide HSIM).get ho
          obtain ⟨t1, t2, t3⟩ := (unhide HSIM).ends' hn' ho
          obtain ⟨np, hnp⟩ : ∃ x, n.parent = x := ⟨_, rfl⟩
          obtain ⟨nf, hnf⟩ : ∃ x, n.first = x := ⟨_, rfl⟩
          obtain ⟨nl, hnl⟩ : ∃ x, n.last = x := ⟨_, rfl⟩
          have HO := hide ho
          have HND := hide (node_named (unhide HARy) i n hn' hnp hnf hnl)
          obtain ⟨m, HM⟩ : ∃ m, Hid (m = o.kids.length) := ⟨_, hide rfl⟩
          have hm32 : m ≤ 32768 := by rw [unhide HM]; exact Nat.le_trans (kids_few (unhide HSIM) ho) hos
          have HKD := hide (show ∀ W, Below wy.heap.size wy W → Calls Try.prog 19 #[.pointer (some ⟨w.heap.size + 3, 0, none⟩), .int .i64 i] W fun e w' => ∃ (a : Option Addr) (cp : Nat), e = .returned (.slice a m cp) ∧ IntsIn w' a o.kids ∧ Below W.heap.size W w' from fun W hb => by
            have := kids_plain ((unhide HARy).below hb) (unhide HSIM) i o ho
            rw [← unhide HM] at this
            exact this)
          have HAB := hide (show np ≠ -1 → ∀ W, Below wy.heap.size wy W → Calls Try.prog 20 #[.pointer (some ⟨w.heap.size + 3, 0, none⟩), .int .i64 np, .int .i64 i] W fun e w' => e = .returned (.bool false) ∧ Below W.heap.size W w' from fun hu W hb => by
            have := above_sim ((unhide HARy).below hb) (unhide HSIM) np i
            rw [← hnp, t3, Sim.notAbove ho (by rw [← t3, hnp]; exact hu), ← t3, hnp] at this
            exact this)
          have hcase : ((m : Int) = 0 ∧ n.first = -1 ∧ n.last = -1) ∨ (¬ (m : Int) = 0 ∧ ¬ n.first = -1 ∧ ¬ n.last = -1) := kids_ends m (unhide HM) t1 t2
          rw [hnf, hnl] at hcase
          rw [hnf] at t1
          rw [hnl] at t2
          have HT1 := hide t1
          have HT2 := hide t2
          clear hn' ho t1 t2 t3 hnp hnf hnl
          rcases hcase with ⟨hm0, t1, t2⟩ | ⟨hm0, t1, t2⟩
          · obtain rfl : m = 0 := by omega
            subst t1 t2
            by_cases hu : np = -1
            · subst hu
              set_option maxRecDepth 10000 in
              go_wp2_with (first
                | (go_at_call 17; refine (unhide HLEN).mono ?_; rintro e w' ⟨rfl, rfl⟩)
                | (go_at_call 18; refine (unhide HND).mono ?_; rintro e w5 ⟨ao, q5, cp5, rfl, hb5⟩; have HB5 := hide hb5; clear hb5)
                | (go_at_call 19; refine ((unhide HKD) _ ((unhide HB5).alloc (unhide HB5).size _)).mono ?_; rintro e w6 ⟨ka, kc, rfl, hin, hb6⟩; have HB6 := hide (((unhide HB5).alloc (unhide HB5).size _).trans (hb6.mono (by have := (unhide HB5).size; simp; omega))); obtain ⟨c6, c7, c8, hl5⟩ := box_kept hb6; clear hin hb6))
              go_loopg [10] 0 (fun k s wz => s = .int .i64 0 ∧ wz = w6)
              case atStart => exact ⟨rfl, rfl⟩
              case round =>
                obtain ⟨rfl, rfl⟩ := hrel
                set_option maxRecDepth 10000 in
                go_wp2
                go_roundg (os.length - (i + 1))
                case measure => omega
                case rel => exact ⟨i + 1, by go_num, by omega, (unhide HBy).trans ((unhide HB6).mono (unhide HBy).size)⟩
            · have u1 : (np == -1) = false := by simpa using hu
              have u2 : decide (np = -1) = false := by simpa using hu
              set_option maxRecDepth 10000 in
              go_wp2_with (first
                | (go_at_call 17; refine (unhide HLEN).mono ?_; rintro e w' ⟨rfl, rfl⟩)
                | (go_at_call 18; refine (unhide HND).mono ?_; rintro e w5 ⟨ao, q5, cp5, rfl, hb5⟩; have HB5 := hide hb5; clear hb5)
                | (go_at_call 19; refine ((unhide HKD) _ ((unhide HB5).alloc (unhide HB5).size _)).mono ?_; rintro e w6 ⟨ka, kc, rfl, hin, hb6⟩; have HB6 := hide (((unhide HB5).alloc (unhide HB5).size _).trans (hb6.mono (by have := (unhide HB5).size; simp; omega))); obtain ⟨c6, c7, c8, hl5⟩ := box_kept hb6; clear hin hb6)
                | (go_at_call 20; refine ((unhide HAB) hu _ (unhide HB6)).mono ?_; rintro e w7 ⟨rfl, hb7⟩; have HB7 := hide hb7; clear hb7))
              go_loopg [10] 0 (fun k s wz => s = .int .i64 0 ∧ wz = w7)
              case atStart => exact ⟨rfl, rfl⟩
              case round =>
                obtain ⟨rfl, rfl⟩ := hrel
                set_option maxRecDepth 10000 in
                go_wp2
                go_roundg (os.length - (i + 1))
                case measure => omega
                case rel => exact ⟨i + 1, by go_num, by omega, (unhide HBy).trans (((unhide HB6).trans ((unhide HB7).mono (unhide HB6).size)).mono (unhide HBy).size)⟩
          · have b1 : ((m : Int) == 0) = false := by simpa using hm0
            have b2 : decide ((m : Int) = 0) = false := by simpa using hm0
            have b3 : (nf == -1) = false := by simpa using t1
            have b4 : decide (nf = -1) = false := by simpa using t1
            have b5 : (nl == -1) = false := by simpa using t2
            have b6 : decide (nl = -1) = false := by simpa using t2
            have hmz : ¬ m = 0 := by omega
            by_cases hu : np = -1
            · subst hu
              set_option maxRecDepth 10000 in
              go_wp2_with (first
                | (go_at_call 17; refine (unhide HLEN).mono ?_; rintro e w' ⟨rfl, rfl⟩)
                | (go_at_call 18; refine (unhide HND).mono ?_; rintro e w5 ⟨ao, q5, cp5, rfl, hb5⟩; have HB5 := hide hb5; clear hb5)
                | (go_at_call 19; refine ((unhide HKD) _ ((unhide HB5).alloc (unhide HB5).size _)).mono ?_; rintro e w6 ⟨ka, kc, rfl, hin, hb6⟩; have HIN := hide hin; have HB6 := hide (((unhide HB5).alloc (unhide HB5).size _).trans (hb6.mono (by have := (unhide HB5).size; simp; omega))); obtain ⟨c6, c7, c8, hl5⟩ := box_kept hb6; clear hin hb6))
              have y7 := c7
              have y8 := c8
              have hlq := hl5
              have HBq := HB6
              have HBz6 : Hid (∀ W, Below w6.heap.size w6 W → Below w6.heap.size w6 W) := hide (fun _ h => h)
              clear c6 c7 c8 b1 b2 b3 b4 b5 b6 t1 t2
              go_loopg [10] m (fun k s wz => ∃ q : Nat, s = .int .i64 q ∧ q + k = m ∧ Below w6.heap.size w6 wz)
              case atStart => exact ⟨0, rfl, by omega, Below.refl _ _⟩
              case round =>
                obtain ⟨q, rfl, hqk, hbz⟩ := hrel
                have HBz := hide ((unhide HBq).trans (hbz.mono (unhide HBq).size))
                have HBqz := hide hbz
                by_cases hq : q < m
                · have hqz : (q : Int) < (m : Int) := by omega
                  have hqk2 : q < o.kids.length := by have := unhide HM; omega
                  have hc : o.kids[q]? = some o.kids[q] := List.getElem?_eq_getElem hqk2
                  generalize o.kids[q] = c at hc
                  obtain ⟨mc, hmc, e1, e2, e3⟩ := (unhide HSIM).child (unhide HO) hc
                  obtain ⟨pv, hpv⟩ : ∃ x, mc.prev = x := ⟨_, rfl⟩
                  obtain ⟨nx, hnx⟩ : ∃ x, mc.next = x := ⟨_, rfl⟩
                  rw [hpv] at e2
                  rw [hnx] at e3
                  have HNC := hide (node_child ((unhide HARy).below (unhide HBz)) c mc hmc e1 hpv hnx)
                  obtain ⟨kb, koff, rfl, dq⟩ := ((unhide HIN).below (unhide HBz6 _ hbz)).cells q c hc
                  have dlt : kb < wr.heap.size := World.block_lt_of_cell? wr _ dq
                  have hl5z : w5.heap.size < wr.heap.size := Nat.lt_of_lt_of_le hlq hbz.size
                  have z7 := (hbz.cell (p := ⟨w5.heap.size, 7, none⟩) hlq).trans y7
                  have z8 := (hbz.cell (p := ⟨w5.heap.size, 8, none⟩) hlq).trans y8
                  have HPV := hide e2
                  have HNX := hide e3
                  have HC := hide hc
                  have HDP := hide (show ∀ p, q = p + 1 → wr.cell? ⟨kb, koff + p, none⟩ = some (.int .i64 pv) from fun p hp => by
                    obtain ⟨c', h1⟩ : ∃ c', o.kids[p]? = some c' := ⟨_, List.getElem?_eq_getElem (by omega)⟩
                    obtain ⟨kb', koff', ek, dp⟩ := ((unhide HIN).below (unhide HBz6 _ hbz)).cells p _ h1
                    cases ek
                    have e2' := e2
                    rw [hp, lastI_take h1] at e2'
                    rw [dp, e2'])
                  clear hbz hmc hc e1 e2 e3 hpv hnx
                  obtain ⟨wz, hwz⟩ : ∃ wz, wz = wr := ⟨_, rfl⟩
                  subst hwz
                  set_option maxRecDepth 10000 in
                  go_wp2_with (first
                    | (go_at_call 18; refine (unhide HNC).mono ?_; rintro e w8 ⟨ao8, q8, cp8, rfl, hb8⟩; have HB8 := hide hb8; clear hb8))
                  have hA8 := (unhide HB8).alloc (unhide HB8).size (.cells #[.int .i64 mc.kind, .int .i64 mc.space, .string mc.name, .slice ao8 q8 cp8, .string mc.data, .string mc.system, .int .i64 i, .int .i64 mc.first, .int .i64 mc.last, .int .i64 pv, .int .i64 nx, .int .i64 mc.inner] 37)
                  have x7 := (hA8.cell (p := ⟨w5.heap.size, 7, none⟩) hl5z).trans z7
                  have x8 := (hA8.cell (p := ⟨w5.heap.size, 8, none⟩) hl5z).trans z8
                  have xq := (hA8.cell (p := ⟨kb, koff + q, none⟩) dlt).trans dq
                  have HXP := hide (show ∀ p, q = p + 1 → _ from fun p hp => (hA8.cell (p := ⟨kb, koff + p, none⟩) dlt).trans (unhide HDP p hp))
                  have HA8 := hide hA8
                  have HF1 := hide (show q = 0 → nf = (c : Int) from fun hq0 => by subst hq0; rw [unhide HT1]; exact headI_at (unhide HC))
                  have HF2 := hide (show q = 0 → pv = -1 from fun hq0 => by subst hq0; exact unhide HPV)
                  have HL1 := hide (show q + 1 = m → nl = (c : Int) from fun hql => by rw [unhide HT2]; exact lastI_end (unhide HC) (by have := unhide HM; omega))
                  have HL2 := hide (show q + 1 = m → nx = -1 from fun hql => by rw [unhide HNX]; exact headI_end (by have := unhide HM; omega))
                  clear hA8
                  by_cases hq0 : q = 0
                  · have y1 := (unhide HF1) hq0
                    have y2 := (unhide HF2) hq0
                    subst hq0
                    by_cases hql : 0 + 1 = m
                    · have y3 := (unhide HL1) hql
                      have y4 := (unhide HL2) hql
                      rw [y1] at x7
                      rw [y3] at x8
                      refine child_only (p := 0) (i := i) (pv := pv) (nx := nx) (by simp) (by simp) (by simp) hm32 hql.symm y2 y4 x7 x8 xq ?_
                      intros
                      clear y1 y2 y3 y4
                      set_option maxRecDepth 10000 in
                      go_wp2
                      go_roundg (gk - 1)
                      case measure => omega
                      case rel => exact ⟨0 + 1, by go_num, by omega, drewN_below ((unhide HBqz).trans ((unhide HA8).mono (unhide HBqz).size)) _⟩
                    · rw [y1] at x7
                      refine child_first (p := 0) (i := i) (pv := pv) (nx := nx) (by simp) (by simp) (by simp) hm32 (by omega) y2 x7 xq ?_
                      intros
                      clear y1 y2
                      set_option maxRecDepth 10000 in
                      go_wp2
                      go_roundg (gk - 1)
                      case measure => omega
                      case rel => exact ⟨0 + 1, by go_num, by omega, drewN_below ((unhide HBqz).trans ((unhide HA8).mono (unhide HBqz).size)) _⟩
                  · obtain ⟨p, hp⟩ : ∃ p, q = p + 1 := ⟨q - 1, by omega⟩
                    have xp := unhide HXP p hp
                    rw [show ((q : Nat) : Int) = (p : Int) + 1 by omega]
                    by_cases hql : q + 1 = m
                    · have y3 := (unhide HL1) hql
                      have y4 := (unhide HL2) hql
                      rw [y3] at x8
                      rw [hp] at xq
                      refine child_last (i := i) (pv := pv) (nx := nx) (by simp) (by simp) (by simp) hm32 (by omega) y4 x8 xq xp ?_
                      intros
                      clear y3 y4
                      set_option maxRecDepth 10000 in
                      go_wp2
                      go_roundg (gk - 1)
                      case measure => omega
                      case rel => exact ⟨q + 1, by go_num, by omega, drewN_below ((unhide HBqz).trans ((unhide HA8).mono (unhide HBqz).size)) _⟩
                    · refine child_mid (c := 0) (i := i) (pv := pv) (nx := nx) (by simp) (by simp) (by simp) hm32 (by omega) xp ?_
                      intros
                      set_option maxRecDepth 10000 in
                      go_wp2
                      go_roundg (gk - 1)
                      case measure => omega
                      case rel => exact ⟨q + 1, by go_num, by omega, drewN_below ((unhide HBqz).trans ((unhide HA8).mono (unhide HBqz).size)) _⟩
                · have hqz : ¬ (q : Int) < (m : Int) := by omega
                  set_option maxRecDepth 10000 in
                  go_wp2
                  go_roundg (os.length - (i + 1))
                  case measure => omega
                  case rel => exact ⟨i + 1, by go_num, by omega, (unhide HBy).trans ((unhide HBz).mono (unhide HBy).size)⟩
            · have u1 : (np == -1) = false := by simpa using hu
              have u2 : decide (np = -1) = false := by simpa using hu
              set_option maxRecDepth 10000 in
              go_wp2_with (first
                | (go_at_call 17; refine (unhide HLEN).mono ?_; rintro e w' ⟨rfl, rfl⟩)
                | (go_at_call 18; refine (unhide HND).mono ?_; rintro e w5 ⟨ao, q5, cp5, rfl, hb5⟩; have HB5 := hide hb5; clear hb5)
                | (go_at_call 19; refine ((unhide HKD) _ ((unhide HB5).alloc (unhide HB5).size _)).mono ?_; rintro e w6 ⟨ka, kc, rfl, hin, hb6⟩; have HIN := hide hin; have HB6 := hide (((unhide HB5).alloc (unhide HB5).size _).trans (hb6.mono (by have := (unhide HB5).size; simp; omega))); obtain ⟨c6, c7, c8, hl5⟩ := box_kept hb6; clear hin hb6)
                | (go_at_call 20; refine ((unhide HAB) hu _ (unhide HB6)).mono ?_; rintro e w7 ⟨rfl, hb7⟩; have HB7 := hide hb7; clear hb7))
              have y7 := ((unhide HB7).cell (p := ⟨w5.heap.size, 7, none⟩) hl5).trans c7
              have y8 := ((unhide HB7).cell (p := ⟨w5.heap.size, 8, none⟩) hl5).trans c8
              have hlq := Nat.lt_of_lt_of_le hl5 (unhide HB7).size
              have HBq := hide ((unhide HB6).trans ((unhide HB7).mono (unhide HB6).size))
              have HBz6 : Hid (∀ W, Below w7.heap.size w7 W → Below w6.heap.size w6 W) := hide (fun _ h => (unhide HB7).trans (h.mono (unhide HB7).size))
              clear c6 c7 c8 b1 b2 b3 b4 b5 b6 t1 t2 u1 u2
              go_loopg [10] m (fun k s wz => ∃ q : Nat, s = .int .i64 q ∧ q + k = m ∧ Below w7.heap.size w7 wz)
              case atStart => exact ⟨0, rfl, by omega, Below.refl _ _⟩
              case round =>
                obtain ⟨q, rfl, hqk, hbz⟩ := hrel
                have HBz := hide ((unhide HBq).trans (hbz.mono (unhide HBq).size))
                have HBqz := hide hbz
                by_cases hq : q < m
                · have hqz : (q : Int) < (m : Int) := by omega
                  have hqk2 : q < o.kids.length := by have := unhide HM; omega
                  have hc : o.kids[q]? = some o.kids[q] := List.getElem?_eq_getElem hqk2
                  generalize o.kids[q] = c at hc
                  obtain ⟨mc, hmc, e1, e2, e3⟩ := (unhide HSIM).child (unhide HO) hc
                  obtain ⟨pv, hpv⟩ : ∃ x, mc.prev = x := ⟨_, rfl⟩
                  obtain ⟨nx, hnx⟩ : ∃ x, mc.next = x := ⟨_, rfl⟩
                  rw [hpv] at e2
                  rw [hnx] at e3
                  have HNC := hide (node_child ((unhide HARy).below (unhide HBz)) c mc hmc e1 hpv hnx)
                  obtain ⟨kb, koff, rfl, dq⟩ := ((unhide HIN).below (unhide HBz6 _ hbz)).cells q c hc
                  have dlt : kb < wr.heap.size := World.block_lt_of_cell? wr _ dq
                  have hl5z : w5.heap.size < wr.heap.size := Nat.lt_of_lt_of_le hlq hbz.size
                  have z7 := (hbz.cell (p := ⟨w5.heap.size, 7, none⟩) hlq).trans y7
                  have z8 := (hbz.cell (p := ⟨w5.heap.size, 8, none⟩) hlq).trans y8
                  have HPV := hide e2
                  have HNX := hide e3
                  have HC := hide hc
                  have HDP := hide (show ∀ p, q = p + 1 → wr.cell? ⟨kb, koff + p, none⟩ = some (.int .i64 pv) from fun p hp => by
                    obtain ⟨c', h1⟩ : ∃ c', o.kids[p]? = some c' := ⟨_, List.getElem?_eq_getElem (by omega)⟩
                    obtain ⟨kb', koff', ek, dp⟩ := ((unhide HIN).below (unhide HBz6 _ hbz)).cells p _ h1
                    cases ek
                    have e2' := e2
                    rw [hp, lastI_take h1] at e2'
                    rw [dp, e2'])
                  clear hbz hmc hc e1 e2 e3 hpv hnx
                  obtain ⟨wz, hwz⟩ : ∃ wz, wz = wr := ⟨_, rfl⟩
                  subst hwz
                  set_option maxRecDepth 10000 in
                  go_wp2_with (first
                    | (go_at_call 18; refine (unhide HNC).mono ?_; rintro e w8 ⟨ao8, q8, cp8, rfl, hb8⟩; have HB8 := hide hb8; clear hb8))
                  have hA8 := (unhide HB8).alloc (unhide HB8).size (.cells #[.int .i64 mc.kind, .int .i64 mc.space, .string mc.name, .slice ao8 q8 cp8, .string mc.data, .string mc.system, .int .i64 i, .int .i64 mc.first, .int .i64 mc.last, .int .i64 pv, .int .i64 nx, .int .i64 mc.inner] 37)
                  have x7 := (hA8.cell (p := ⟨w5.heap.size, 7, none⟩) hl5z).trans z7
                  have x8 := (hA8.cell (p := ⟨w5.heap.size, 8, none⟩) hl5z).trans z8
                  have xq := (hA8.cell (p := ⟨kb, koff + q, none⟩) dlt).trans dq
                  have HXP := hide (show ∀ p, q = p + 1 → _ from fun p hp => (hA8.cell (p := ⟨kb, koff + p, none⟩) dlt).trans (unhide HDP p hp))
                  have HA8 := hide hA8
                  have HF1 := hide (show q = 0 → nf = (c : Int) from fun hq0 => by subst hq0; rw [unhide HT1]; exact headI_at (unhide HC))
                  have HF2 := hide (show q = 0 → pv = -1 from fun hq0 => by subst hq0; exact unhide HPV)
                  have HL1 := hide (show q + 1 = m → nl = (c : Int) from fun hql => by rw [unhide HT2]; exact lastI_end (unhide HC) (by have := unhide HM; omega))
                  have HL2 := hide (show q + 1 = m → nx = -1 from fun hql => by rw [unhide HNX]; exact headI_end (by have := unhide HM; omega))
                  clear hA8
                  by_cases hq0 : q = 0
                  · have y1 := (unhide HF1) hq0
                    have y2 := (unhide HF2) hq0
                    subst hq0
                    by_cases hql : 0 + 1 = m
                    · have y3 := (unhide HL1) hql
                      have y4 := (unhide HL2) hql
                      rw [y1] at x7
                      rw [y3] at x8
                      refine child_only (p := 0) (i := i) (pv := pv) (nx := nx) (by simp) (by simp) (by simp) hm32 hql.symm y2 y4 x7 x8 xq ?_
                      intros
                      clear y1 y2 y3 y4
                      set_option maxRecDepth 10000 in
                      go_wp2
                      go_roundg (gk - 1)
                      case measure => omega
                      case rel => exact ⟨0 + 1, by go_num, by omega, drewN_below ((unhide HBqz).trans ((unhide HA8).mono (unhide HBqz).size)) _⟩
                    · rw [y1] at x7
                      refine child_first (p := 0) (i := i) (pv := pv) (nx := nx) (by simp) (by simp) (by simp) hm32 (by omega) y2 x7 xq ?_
                      intros
                      clear y1 y2
                      set_option maxRecDepth 10000 in
                      go_wp2
                      go_roundg (gk - 1)
                      case measure => omega
                      case rel => exact ⟨0 + 1, by go_num, by omega, drewN_below ((unhide HBqz).trans ((unhide HA8).mono (unhide HBqz).size)) _⟩
                  · obtain ⟨p, hp⟩ : ∃ p, q = p + 1 := ⟨q - 1, by omega⟩
                    have xp := unhide HXP p hp
                    rw [show ((q : Nat) : Int) = (p : Int) + 1 by omega]
                    by_cases hql : q + 1 = m
                    · have y3 := (unhide HL1) hql
                      have y4 := (unhide HL2) hql
                      rw [y3] at x8
                      rw [hp] at xq
                      refine child_last (i := i) (pv := pv) (nx := nx) (by simp) (by simp) (by simp) hm32 (by omega) y4 x8 xq xp ?_
                      intros
                      clear y3 y4
                      set_option maxRecDepth 10000 in
                      go_wp2
                      go_roundg (gk - 1)
                      case measure => omega
                      case rel => exact ⟨q + 1, by go_num, by omega, drewN_below ((unhide HBqz).trans ((unhide HA8).mono (unhide HBqz).size)) _⟩
                    · refine child_mid (c := 0) (i := i) (pv := pv) (nx := nx) (by simp) (by simp) (by simp) hm32 (by omega) xp ?_
                      intros
                      set_option maxRecDepth 10000 in
                      go_wp2
                      go_roundg (gk - 1)
                      case measure => omega
                      case rel => exact ⟨q + 1, by go_num, by omega, drewN_below ((unhide HBqz).trans ((unhide HA8).mono (unhide HBqz).size)) _⟩
                · have hqz : ¬ (q : Int) < (m : Int) := by omega
                  set_option maxRecDepth 10000 in
                  go_wp2
                  go_roundg (os.length - (i + 1))
                  case measure => omega
                  case rel => exact ⟨i + 1, by go_num, by omega, (unhide HBy).trans ((unhide HBz).mono (unhide HBy).size)⟩
        · have hiz : ¬ (i : Int) < (os.length : Int) := by omega
          set_option maxRecDepth 10000 in
          go_wp2_with (first
            | (go_at_call 17; refine (unhide HLEN).mono ?_; rintro e w' ⟨rfl, rfl⟩)
            | (go_at_call 21; refine (awake1_any _).mono ?_; rintro e w7 ⟨rfl, hb7⟩; have HB7 := hide hb7; clear hb7))
          go_ret
          exact ⟨rfl, (unhide HBW).trans (((unhide HBy).trans ((unhide HB7).mono (unhide HBy).size)).mono (unhide HBW).size)⟩
end Go.Proofs.Ytlbkoafeedlfaaa

namespace Go.Proofs.Ytlbkoafeedlfaaa
open Go.RowKit

set_option maxHeartbeats 8000000 in
theorem links_walkB {w : World} (a : Option Addr) (cap : Nat) (l : List OpM) (hs : ScriptIn w a l) (hn : l.length ≤ maxLen) (hX : 500 < l.length) :
    Calls Try.prog 4 #[.slice a l.length cap] w fun e w' => e = .returned (.bool true) ∧ Below w.heap.size w w' := by
  have HN := hide (new_any w w.heap.size (Nat.le_refl _))
  have HS := hide hs
  unfold maxLen at hn
  clear hs
  go_enter Try.func4, Try.ntmps4
  go_wp2_with (first
    | (go_at_call 13; refine (unhide HN).mono ?_; rintro e w1 ⟨F, rfl, h1, hb1, hF⟩; have HNR := hide (refNew_any w1 w.heap.size hb1.size); have H1 := hide h1; have HB1 := hide hb1; have HF := hide hF; clear h1 hb1 hF)
    | (go_at_call 14; refine (unhide HNR).mono ?_; rintro e w2 ⟨bR, g, cp, rfl, h2, hb2, hR, hg⟩; have HBo := hide (both_new (unhide H1) (unhide HB1) (unhide HF) h2 hb2 hR hg); clear h2 hb2 hR hg))
  go_loopg [5] 500 (fun k s wx => ∃ (j : Nat) (os : List OneM), s = .int .i64 j ∧ j + k = 500 ∧ Both w wx (w.heap.size + 3) bR os)
  case atStart => exact ⟨0, _, rfl, by omega, unhide HBo⟩
  case round =>
    obtain ⟨j, os, rfl, hjk, hB⟩ := hrel
    have HB := hide hB
    obtain ⟨ns, F0, G0, hp⟩ := hB
    have HAR := hide hp.ar
    have HSIM := hide hp.sim
    have HBW := hide hp.below
    clear hp
    by_cases hj : j < 500
    · have hjl : j < l.length := by omega
      have hx : l[j]? = some l[j] := List.getElem?_eq_getElem hjl
      generalize l[j] = o at hx
      have hjz : (j : Int) < (l.length : Int) := by omega
      have hj5 : (j : Int) < 500 := by omega
      obtain ⟨ha, hr⟩ := (unhide HS).attrs j o hx
      obtain ⟨b, off, rfl, d0, d1, d2, d3, d4, d5, d6, d7, d8, d9, d10, d11⟩ := ((unhide HS).below (unhide HBW)).cells j o hx
      have HPL := hide (play_any (unhide HB) o ha hr)
      unfold OpM.cells at HPL
      clear ha hr hx
      go_wp2_with (go_at_call 15; refine (unhide HPL).mono ?_; rintro e w5 ⟨rfl, os5, hB5⟩; have HB5 := hide hB5; clear hB5)
      go_roundg (gk - 1)
      case measure => omega
      case rel => exact ⟨j + 1, os5, by go_num, by omega, unhide HB5⟩
    · have hjz : (j : Int) < (l.length : Int) := by omega
      have hj5 : ¬ (j : Int) < 500 := by omega
      have HLE := hide (unhide HSIM).len
      have hos : os.length ≤ 32768 := ArS.few (unhide HAR) (unhide HSIM)
      clear HB HBo H1 HB1 HF HNR HN HS
      obtain ⟨wo, hwo⟩ : ∃ wo, wo = wr := ⟨_, rfl⟩
      subst hwo
      go_wp2_with fail
      go_loopg [6] os.length (fun k s wy => ∃ i : Nat, s = .int .i64 i ∧ i + k = os.length ∧ Below wo.heap.size wo wy)
      case atStart => exact ⟨0, rfl, by omega, Below.refl _ _⟩
      case round =>
        obtain ⟨i, rfl, hik, hb⟩ := hrel
        have HARy := hide ((unhide HAR).below hb)
        have HBy := hide hb
        have HLEN := hide (lenS_any (unhide HARy))
        rw [unhide HLE] at HLEN
        clear hb
        obtain ⟨wy, hwy⟩ : ∃ wy, wy = wr := ⟨_, rfl⟩
        subst hwy
        by_cases hi : i < os.length
        · have hiz : (i : Int) < (os.length : Int) := by omega
          have ho : os[i]? = some os[i] := List.getElem?_eq_getElem hi
          generalize os[i] = o at ho
          obtain ⟨n, hn', _⟩ := (unhide HSIM).get ho
          obtain ⟨t1, t2, t3⟩ := (unhide HSIM).ends' hn' ho
          obtain ⟨np, hnp⟩ : ∃ x, n.parent = x := ⟨_, rfl⟩
          obtain ⟨nf, hnf⟩ : ∃ x, n.first = x := ⟨_, rfl⟩
          obtain ⟨nl, hnl⟩ : ∃ x, n.last = x := ⟨_, rfl⟩
          have HO := hide ho
          have HND := hide (node_named (unhide HARy) i n hn' hnp hnf hnl)
          obtain ⟨m, HM⟩ : ∃ m, Hid (m = o.kids.length) := ⟨_, hide rfl⟩
          have hm32 : m ≤ 32768 := by rw [unhide HM]; exact Nat.le_trans (kids_few (unhide HSIM) ho) hos
          have HKD := hide (show ∀ W, Below wy.heap.size wy W → Calls Try.prog 19 #[.pointer (some ⟨w.heap.size + 3, 0, none⟩), .int .i64 i] W fun e w' => ∃ (a : Option Addr) (cp : Nat), e = .returned (.slice a m cp) ∧ IntsIn w' a o.kids ∧ Below W.heap.size W w' from fun W hb => by
            have := kids_plain ((unhide HARy).below hb) (unhide HSIM) i o ho
            rw [← unhide HM] at this
            exact this)
          have HAB := hide (show np ≠ -1 → ∀ W, Below wy.heap.size wy W → Calls Try.prog 20 #[.pointer (some ⟨w.heap.size + 3, 0, none⟩), .int .i64 np, .int .i64 i] W fun e w' => e = .returned (.bool false) ∧ Below W.heap.size W w' from fun hu W hb => by
            have := above_sim ((unhide HARy).below hb) (unhide HSIM) np i
            rw [← hnp, t3, Sim.notAbove ho (by rw [← t3, hnp]; exact hu), ← t3, hnp] at this
            exact this)
          have hcase : ((m : Int) = 0 ∧ n.first = -1 ∧ n.last = -1) ∨ (¬ (m : Int) = 0 ∧ ¬ n.first = -1 ∧ ¬ n.last = -1) := kids_ends m (unhide HM) t1 t2
          rw [hnf, hnl] at hcase
          rw [hnf] at t1
          rw [hnl] at t2
          have HT1 := hide t1
          have HT2 := hide t2
          clear hn' ho t1 t2 t3 hnp hnf hnl
          rcases hcase with ⟨hm0, t1, t2⟩ | ⟨hm0, t1, t2⟩
          · obtain rfl : m = 0 := by omega
            subst t1 t2
            by_cases hu : np = -1
            · subst hu
              set_option maxRecDepth 10000 in
              go_wp2_with (first
                | (go_at_call 17; refine (unhide HLEN).mono ?_; rintro e w' ⟨rfl, rfl⟩)
                | (go_at_call 18; refine (unhide HND).mono ?_; rintro e w5 ⟨ao, q5, cp5, rfl, hb5⟩; have HB5 := hide hb5; clear hb5)
                | (go_at_call 19; refine ((unhide HKD) _ ((unhide HB5).alloc (unhide HB5).size _)).mono ?_; rintro e w6 ⟨ka, kc, rfl, hin, hb6⟩; have HB6 := hide (((unhide HB5).alloc (unhide HB5).size _).trans (hb6.mono (by have := (unhide HB5).size; simp; omega))); obtain ⟨c6, c7, c8, hl5⟩ := box_kept hb6; clear hin hb6))
              go_loopg [10] 0 (fun k s wz => s = .int .i64 0 ∧ wz = w6)
              case atStart => exact ⟨rfl, rfl⟩
              case round =>
                obtain ⟨rfl, rfl⟩ := hrel
                set_option maxRecDepth 10000 in
                go_wp2
                go_roundg (os.length - (i + 1))
                case measure => omega
                case rel => exact ⟨i + 1, by go_num, by omega, (unhide HBy).trans ((unhide HB6).mono (unhide HBy).size)⟩
            · have u1 : (np == -1) = false := by simpa using hu
              have u2 : decide (np = -1) = false := by simpa using hu
              set_option maxRecDepth 10000 in
              go_wp2_with (first
                | (go_at_call 17; refine (unhide HLEN).mono ?_; rintro e w' ⟨rfl, rfl⟩)
                | (go_at_call 18; refine (unhide HND).mono ?_; rintro e w5 ⟨ao, q5, cp5, rfl, hb5⟩; have HB5 := hide hb5; clear hb5)
                | (go_at_call 19; refine ((unhide HKD) _ ((unhide HB5).alloc (unhide HB5).size _)).mono ?_; rintro e w6 ⟨ka, kc, rfl, hin, hb6⟩; have HB6 := hide (((unhide HB5).alloc (unhide HB5).size _).trans (hb6.mono (by have := (unhide HB5).size; simp; omega))); obtain ⟨c6, c7, c8, hl5⟩ := box_kept hb6; clear hin hb6)
                | (go_at_call 20; refine ((unhide HAB) hu _ (unhide HB6)).mono ?_; rintro e w7 ⟨rfl, hb7⟩; have HB7 := hide hb7; clear hb7))
              go_loopg [10] 0 (fun k s wz => s = .int .i64 0 ∧ wz = w7)
              case atStart => exact ⟨rfl, rfl⟩
              case round =>
                obtain ⟨rfl, rfl⟩ := hrel
                set_option maxRecDepth 10000 in
                go_wp2
                go_roundg (os.length - (i + 1))
                case measure => omega
                case rel => exact ⟨i + 1, by go_num, by omega, (unhide HBy).trans (((unhide HB6).trans ((unhide HB7).mono (unhide HB6).size)).mono (unhide HBy).size)⟩
          · have b1 : ((m : Int) == 0) = false := by simpa using hm0
            have b2 : decide ((m : Int) = 0) = false := by simpa using hm0
            have b3 : (nf == -1) = false := by simpa using t1
            have b4 : decide (nf = -1) = false := by simpa using t1
            have b5 : (nl == -1) = false := by simpa using t2
            have b6 : decide (nl = -1) = false := by simpa using t2
            have hmz : ¬ m = 0 := by omega
            by_cases hu : np = -1
            · subst hu
              set_option maxRecDepth 10000 in
              go_wp2_with (first
                | (go_at_call 17; refine (unhide HLEN).mono ?_; rintro e w' ⟨rfl, rfl⟩)
                | (go_at_call 18; refine (unhide HND).mono ?_; rintro e w5 ⟨ao, q5, cp5, rfl, hb5⟩; have HB5 := hide hb5; clear hb5)
                | (go_at_call 19; refine ((unhide HKD) _ ((unhide HB5).alloc (unhide HB5).size _)).mono ?_; rintro e w6 ⟨ka, kc, rfl, hin, hb6⟩; have HIN := hide hin; have HB6 := hide (((unhide HB5).alloc (unhide HB5).size _).trans (hb6.mono (by have := (unhide HB5).size; simp; omega))); obtain ⟨c6, c7, c8, hl5⟩ := box_kept hb6; clear hin hb6))
              have y7 := c7
              have y8 := c8
              have hlq := hl5
              have HBq := HB6
              have HBz6 : Hid (∀ W, Below w6.heap.size w6 W → Below w6.heap.size w6 W) := hide (fun _ h => h)
              clear c6 c7 c8 b1 b2 b3 b4 b5 b6 t1 t2
              go_loopg [10] m (fun k s wz => ∃ q : Nat, s = .int .i64 q ∧ q + k = m ∧ Below w6.heap.size w6 wz)
              case atStart => exact ⟨0, rfl, by omega, Below.refl _ _⟩
              case round =>
                obtain ⟨q, rfl, hqk, hbz⟩ := hrel
                have HBz := hide ((unhide HBq).trans (hbz.mono (unhide HBq).size))
                have HBqz := hide hbz
                by_cases hq : q < m
                · have hqz : (q : Int) < (m : Int) := by omega
                  have hqk2 : q < o.kids.length := by have := unhide HM; omega
                  have hc : o.kids[q]? = some o.kids[q] := List.getElem?_eq_getElem hqk2
                  generalize o.kids[q] = c at hc
                  obtain ⟨mc, hmc, e1, e2, e3⟩ := (unhide HSIM).child (unhide HO) hc
                  obtain ⟨pv, hpv⟩ : ∃ x, mc.prev = x := ⟨_, rfl⟩
                  obtain ⟨nx, hnx⟩ : ∃ x, mc.next = x := ⟨_, rfl⟩
                  rw [hpv] at e2
                  rw [hnx] at e3
                  have HNC := hide (node_child ((unhide HARy).below (unhide HBz)) c mc hmc e1 hpv hnx)
                  obtain ⟨kb, koff, rfl, dq⟩ := ((unhide HIN).below (unhide HBz6 _ hbz)).cells q c hc
                  have dlt : kb < wr.heap.size := World.block_lt_of_cell? wr _ dq
                  have hl5z : w5.heap.size < wr.heap.size := Nat.lt_of_lt_of_le hlq hbz.size
                  have z7 := (hbz.cell (p := ⟨w5.heap.size, 7, none⟩) hlq).trans y7
                  have z8 := (hbz.cell (p := ⟨w5.heap.size, 8, none⟩) hlq).trans y8
                  have HPV := hide e2
                  have HNX := hide e3
                  have HC := hide hc
                  have HDP := hide (show ∀ p, q = p + 1 → wr.cell? ⟨kb, koff + p, none⟩ = some (.int .i64 pv) from fun p hp => by
                    obtain ⟨c', h1⟩ : ∃ c', o.kids[p]? = some c' := ⟨_, List.getElem?_eq_getElem (by omega)⟩
                    obtain ⟨kb', koff', ek, dp⟩ := ((unhide HIN).below (unhide HBz6 _ hbz)).cells p _ h1
                    cases ek
                    have e2' := e2
                    rw [hp, lastI_take h1] at e2'
                    rw [dp, e2'])
                  clear hbz hmc hc e1 e2 e3 hpv hnx
                  obtain ⟨wz, hwz⟩ : ∃ wz, wz = wr := ⟨_, rfl⟩
                  subst hwz
                  set_option maxRecDepth 10000 in
                  go_wp2_with (first
                    | (go_at_call 18; refine (unhide HNC).mono ?_; rintro e w8 ⟨ao8, q8, cp8, rfl, hb8⟩; have HB8 := hide hb8; clear hb8))
                  have hA8 := (unhide HB8).alloc (unhide HB8).size (.cells #[.int .i64 mc.kind, .int .i64 mc.space, .string mc.name, .slice ao8 q8 cp8, .string mc.data, .string mc.system, .int .i64 i, .int .i64 mc.first, .int .i64 mc.last, .int .i64 pv, .int .i64 nx, .int .i64 mc.inner] 37)
                  have x7 := (hA8.cell (p := ⟨w5.heap.size, 7, none⟩) hl5z).trans z7
                  have x8 := (hA8.cell (p := ⟨w5.heap.size, 8, none⟩) hl5z).trans z8
                  have xq := (hA8.cell (p := ⟨kb, koff + q, none⟩) dlt).trans dq
                  have HXP := hide (show ∀ p, q = p + 1 → _ from fun p hp => (hA8.cell (p := ⟨kb, koff + p, none⟩) dlt).trans (unhide HDP p hp))
                  have HA8 := hide hA8
                  have HF1 := hide (show q = 0 → nf = (c : Int) from fun hq0 => by subst hq0; rw [unhide HT1]; exact headI_at (unhide HC))
                  have HF2 := hide (show q = 0 → pv = -1 from fun hq0 => by subst hq0; exact unhide HPV)
                  have HL1 := hide (show q + 1 = m → nl = (c : Int) from fun hql => by rw [unhide HT2]; exact lastI_end (unhide HC) (by have := unhide HM; omega))
                  have HL2 := hide (show q + 1 = m → nx = -1 from fun hql => by rw [unhide HNX]; exact headI_end (by have := unhide HM; omega))
                  clear hA8
                  by_cases hq0 : q = 0
                  · have y1 := (unhide HF1) hq0
                    have y2 := (unhide HF2) hq0
                    subst hq0
                    by_cases hql : 0 + 1 = m
                    · have y3 := (unhide HL1) hql
                      have y4 := (unhide HL2) hql
                      rw [y1] at x7
                      rw [y3] at x8
                      refine child_only (p := 0) (i := i) (pv := pv) (nx := nx) (by simp) (by simp) (by simp) hm32 hql.symm y2 y4 x7 x8 xq ?_
                      intros
                      clear y1 y2 y3 y4
                      set_option maxRecDepth 10000 in
                      go_wp2
                      go_roundg (gk - 1)
                      case measure => omega
                      case rel => exact ⟨0 + 1, by go_num, by omega, drewN_below ((unhide HBqz).trans ((unhide HA8).mono (unhide HBqz).size)) _⟩
                    · rw [y1] at x7
                      refine child_first (p := 0) (i := i) (pv := pv) (nx := nx) (by simp) (by simp) (by simp) hm32 (by omega) y2 x7 xq ?_
                      intros
                      clear y1 y2
                      set_option maxRecDepth 10000 in
                      go_wp2
                      go_roundg (gk - 1)
                      case measure => omega
                      case rel => exact ⟨0 + 1, by go_num, by omega, drewN_below ((unhide HBqz).trans ((unhide HA8).mono (unhide HBqz).size)) _⟩
                  · obtain ⟨p, hp⟩ : ∃ p, q = p + 1 := ⟨q - 1, by omega⟩
                    have xp := unhide HXP p hp
                    rw [show ((q : Nat) : Int) = (p : Int) + 1 by omega]
                    by_cases hql : q + 1 = m
                    · have y3 := (unhide HL1) hql
                      have y4 := (unhide HL2) hql
                      rw [y3] at x8
                      rw [hp] at xq
                      refine child_last (i := i) (pv := pv) (nx := nx) (by simp) (by simp) (by simp) hm32 (by omega) y4 x8 xq xp ?_
                      intros
                      clear y3 y4
                      set_option maxRecDepth 10000 in
                      go_wp2
                      go_roundg (gk - 1)
                      case measure => omega
                      case rel => exact ⟨q + 1, by go_num, by omega, drewN_below ((unhide HBqz).trans ((unhide HA8).mono (unhide HBqz).size)) _⟩
                    · refine child_mid (c := 0) (i := i) (pv := pv) (nx := nx) (by simp) (by simp) (by simp) hm32 (by omega) xp ?_
                      intros
                      set_option maxRecDepth 10000 in
                      go_wp2
                      go_roundg (gk - 1)
                      case measure => omega
                      case rel => exact ⟨q + 1, by go_num, by omega, drewN_below ((unhide HBqz).trans ((unhide HA8).mono (unhide HBqz).size)) _⟩
                · have hqz : ¬ (q : Int) < (m : Int) := by omega
                  set_option maxRecDepth 10000 in
                  go_wp2
                  go_roundg (os.length - (i + 1))
                  case measure => omega
                  case rel => exact ⟨i + 1, by go_num, by omega, (unhide HBy).trans ((unhide HBz).mono (unhide HBy).size)⟩
            · have u1 : (np == -1) = false := by simpa using hu
              have u2 : decide (np = -1) = false := by simpa using hu
              set_option maxRecDepth 10000 in
              go_wp2_with (first
                | (go_at_call 17; refine (unhide HLEN).mono ?_; rintro e w' ⟨rfl, rfl⟩)
                | (go_at_call 18; refine (unhide HND).mono ?_; rintro e w5 ⟨ao, q5, cp5, rfl, hb5⟩; have HB5 := hide hb5; clear hb5)
                | (go_at_call 19; refine ((unhide HKD) _ ((unhide HB5).alloc (unhide HB5).size _)).mono ?_; rintro e w6 ⟨ka, kc, rfl, hin, hb6⟩; have HIN := hide hin; have HB6 := hide (((unhide HB5).alloc (unhide HB5).size _).trans (hb6.mono (by have := (unhide HB5).size; simp; omega))); obtain ⟨c6, c7, c8, hl5⟩ := box_kept hb6; clear hin hb6)
                | (go_at_call 20; refine ((unhide HAB) hu _ (unhide HB6)).mono ?_; rintro e w7 ⟨rfl, hb7⟩; have HB7 := hide hb7; clear hb7))
              have y7 := ((unhide HB7).cell (p := ⟨w5.heap.size, 7, none⟩) hl5).trans c7
              have y8 := ((unhide HB7).cell (p := ⟨w5.heap.size, 8, none⟩) hl5).trans c8
              have hlq := Nat.lt_of_lt_of_le hl5 (unhide HB7).size
              have HBq := hide ((unhide HB6).trans ((unhide HB7).mono (unhide HB6).size))
              have HBz6 : Hid (∀ W, Below w7.heap.size w7 W → Below w6.heap.size w6 W) := hide (fun _ h => (unhide HB7).trans (h.mono (unhide HB7).size))
              clear c6 c7 c8 b1 b2 b3 b4 b5 b6 t1 t2 u1 u2
              go_loopg [10] m (fun k s wz => ∃ q : Nat, s = .int .i64 q ∧ q + k = m ∧ Below w7.heap.size w7 wz)
              case atStart => exact ⟨0, rfl, by omega, Below.refl _ _⟩
              case round =>
                obtain ⟨q, rfl, hqk, hbz⟩ := hrel
                have HBz := hide ((unhide HBq).trans (hbz.mono (unhide HBq).size))
                have HBqz := hide hbz
                by_cases hq : q < m
                · have hqz : (q : Int) < (m : Int) := by omega
                  have hqk2 : q < o.kids.length := by have := unhide HM; omega
                  have hc : o.kids[q]? = some o.kids[q] := List.getElem?_eq_getElem hqk2
                  generalize o.kids[q] = c at hc
                  obtain ⟨mc, hmc, e1, e2, e3⟩ := (unhide HSIM).child (unhide HO) hc
                  obtain ⟨pv, hpv⟩ : ∃ x, mc.prev = x := ⟨_, rfl⟩
                  obtain ⟨nx, hnx⟩ : ∃ x, mc.next = x := ⟨_, rfl⟩
                  rw [hpv] at e2
                  rw [hnx] at e3
                  have HNC := hide (node_child ((unhide HARy).below (unhide HBz)) c mc hmc e1 hpv hnx)
                  obtain ⟨kb, koff, rfl, dq⟩ := ((unhide HIN).below (unhide HBz6 _ hbz)).cells q c hc
                  have dlt : kb < wr.heap.size := World.block_lt_of_cell? wr _ dq
                  have hl5z : w5.heap.size < wr.heap.size := Nat.lt_of_lt_of_le hlq hbz.size
                  have z7 := (hbz.cell (p := ⟨w5.heap.size, 7, none⟩) hlq).trans y7
                  have z8 := (hbz.cell (p := ⟨w5.heap.size, 8, none⟩) hlq).trans y8
                  have HPV := hide e2
                  have HNX := hide e3
                  have HC := hide hc
                  have HDP := hide (show ∀ p, q = p + 1 → wr.cell? ⟨kb, koff + p, none⟩ = some (.int .i64 pv) from fun p hp => by
                    obtain ⟨c', h1⟩ : ∃ c', o.kids[p]? = some c' := ⟨_, List.getElem?_eq_getElem (by omega)⟩
                    obtain ⟨kb', koff', ek, dp⟩ := ((unhide HIN).below (unhide HBz6 _ hbz)).cells p _ h1
                    cases ek
                    have e2' := e2
                    rw [hp, lastI_take h1] at e2'
                    rw [dp, e2'])
                  clear hbz hmc hc e1 e2 e3 hpv hnx
                  obtain ⟨wz, hwz⟩ : ∃ wz, wz = wr := ⟨_, rfl⟩
                  subst hwz
                  set_option maxRecDepth 10000 in
                  go_wp2_with (first
                    | (go_at_call 18; refine (unhide HNC).mono ?_; rintro e w8 ⟨ao8, q8, cp8, rfl, hb8⟩; have HB8 := hide hb8; clear hb8))
                  have hA8 := (unhide HB8).alloc (unhide HB8).size (.cells #[.int .i64 mc.kind, .int .i64 mc.space, .string mc.name, .slice ao8 q8 cp8, .string mc.data, .string mc.system, .int .i64 i, .int .i64 mc.first, .int .i64 mc.last, .int .i64 pv, .int .i64 nx, .int .i64 mc.inner] 37)
                  have x7 := (hA8.cell (p := ⟨w5.heap.size, 7, none⟩) hl5z).trans z7
                  have x8 := (hA8.cell (p := ⟨w5.heap.size, 8, none⟩) hl5z).trans z8
                  have xq := (hA8.cell (p := ⟨kb, koff + q, none⟩) dlt).trans dq
                  have HXP := hide (show ∀ p, q = p + 1 → _ from fun p hp => (hA8.cell (p := ⟨kb, koff + p, none⟩) dlt).trans (unhide HDP p hp))
                  have HA8 := hide hA8
                  have HF1 := hide (show q = 0 → nf = (c : Int) from fun hq0 => by subst hq0; rw [unhide HT1]; exact headI_at (unhide HC))
                  have HF2 := hide (show q = 0 → pv = -1 from fun hq0 => by subst hq0; exact unhide HPV)
                  have HL1 := hide (show q + 1 = m → nl = (c : Int) from fun hql => by rw [unhide HT2]; exact lastI_end (unhide HC) (by have := unhide HM; omega))
                  have HL2 := hide (show q + 1 = m → nx = -1 from fun hql => by rw [unhide HNX]; exact headI_end (by have := unhide HM; omega))
                  clear hA8
                  by_cases hq0 : q = 0
                  · have y1 := (unhide HF1) hq0
                    have y2 := (unhide HF2) hq0
                    subst hq0
                    by_cases hql : 0 + 1 = m
                    · have y3 := (unhide HL1) hql
                      have y4 := (unhide HL2) hql
                      rw [y1] at x7
                      rw [y3] at x8
                      refine child_only (p := 0) (i := i) (pv := pv) (nx := nx) (by simp) (by simp) (by simp) hm32 hql.symm y2 y4 x7 x8 xq ?_
                      intros
                      clear y1 y2 y3 y4
                      set_option maxRecDepth 10000 in
                      go_wp2
                      go_roundg (gk - 1)
                      case measure => omega
                      case rel => exact ⟨0 + 1, by go_num, by omega, drewN_below ((unhide HBqz).trans ((unhide HA8).mono (unhide HBqz).size)) _⟩
                    · rw [y1] at x7
                      refine child_first (p := 0) (i := i) (pv := pv) (nx := nx) (by simp) (by simp) (by simp) hm32 (by omega) y2 x7 xq ?_
                      intros
                      clear y1 y2
                      set_option maxRecDepth 10000 in
                      go_wp2
                      go_roundg (gk - 1)
                      case measure => omega
                      case rel => exact ⟨0 + 1, by go_num, by omega, drewN_below ((unhide HBqz).trans ((unhide HA8).mono (unhide HBqz).size)) _⟩
                  · obtain ⟨p, hp⟩ : ∃ p, q = p + 1 := ⟨q - 1, by omega⟩
                    have xp := unhide HXP p hp
                    rw [show ((q : Nat) : Int) = (p : Int) + 1 by omega]
                    by_cases hql : q + 1 = m
                    · have y3 := (unhide HL1) hql
                      have y4 := (unhide HL2) hql
                      rw [y3] at x8
                      rw [hp] at xq
                      refine child_last (i := i) (pv := pv) (nx := nx) (by simp) (by simp) (by simp) hm32 (by omega) y4 x8 xq xp ?_
                      intros
                      clear y3 y4
                      set_option maxRecDepth 10000 in
                      go_wp2
                      go_roundg (gk - 1)
                      case measure => omega
                      case rel => exact ⟨q + 1, by go_num, by omega, drewN_below ((unhide HBqz).trans ((unhide HA8).mono (unhide HBqz).size)) _⟩
                    · refine child_mid (c := 0) (i := i) (pv := pv) (nx := nx) (by simp) (by simp) (by simp) hm32 (by omega) xp ?_
                      intros
                      set_option maxRecDepth 10000 in
                      go_wp2
                      go_roundg (gk - 1)
                      case measure => omega
                      case rel => exact ⟨q + 1, by go_num, by omega, drewN_below ((unhide HBqz).trans ((unhide HA8).mono (unhide HBqz).size)) _⟩
                · have hqz : ¬ (q : Int) < (m : Int) := by omega
                  set_option maxRecDepth 10000 in
                  go_wp2
                  go_roundg (os.length - (i + 1))
                  case measure => omega
                  case rel => exact ⟨i + 1, by go_num, by omega, (unhide HBy).trans ((unhide HBz).mono (unhide HBy).size)⟩
        · have hiz : ¬ (i : Int) < (os.length : Int) := by omega
          set_option maxRecDepth 10000 in
          go_wp2_with (first
            | (go_at_call 17; refine (unhide HLEN).mono ?_; rintro e w' ⟨rfl, rfl⟩)
            | (go_at_call 21; refine (awake1_any _).mono ?_; rintro e w7 ⟨rfl, hb7⟩; have HB7 := hide hb7; clear hb7))
          go_ret
          exact ⟨rfl, (unhide HBW).trans (((unhide HBy).trans ((unhide HB7).mono (unhide HBy).size)).mono (unhide HBW).size)⟩
end Go.Proofs.Ytlbkoafeedlfaaa

namespace Go.Proofs.Ytlbkoafeedlfaaa.nodeLinks
open Go.ChangeShapes Go.WideShapes Go.ChangeAt Go.RowKit
open Go.ChangeMaps (open_string shut_string)

theorem links_any {w : World} (a : Option Addr) (cap : Nat) (l : List OpM) (hs : ScriptIn w a l) (hn : l.length ≤ maxLen) :
    Calls Try.prog 4 #[.slice a l.length cap] w fun e w' => e = .returned (.bool true) ∧ Below w.heap.size w w' := by
  by_cases h : l.length ≤ 500
  · exact links_walkA a cap l hs hn h
  · exact links_walkB a cap l hs hn (by omega)

theorem own : ownKnob Try.prog.godebug = none := by kernel_rfl
theorem laidOut : laidOutB Try.prog = true := by kernel_rfl

set_option maxRecDepth 100000 in
theorem lifted (os : Os) (started : os.Started) (H : Type) (enc : TypeId × Value → H) :
    ReturnsInHanded {} Try.checked os 4 .any (Rows.nodeLinksSpec.pre6 enc Try.prog Try.f4 Rows.nodeLinksRow.domain false) (Rows.nodeLinksSpec.post enc Try.prog Try.f4 false true false false) := by
  refine returnsInHanded_of_change_sized (C := Try.checked) own started (by kernel_rfl) Try.func4
    (ChangeSpec.witness6 (enc := enc) (C := Try.checked) false ⟨#[], #[.slice none 0 0], []⟩ 8 (by kernel_rfl) (by kernel_rfl) (by kernel_rfl) (by kernel_rfl)) ?_
  intro W base args ds gs before hval0 hW hcnd hsz0 _
  have hval : ∀ (j : Nat) t v, Try.f4.params[j]? = some t → args[j]? = some v → Value.okWide Try.prog W .any base t v := hval0
  have hsz : ∀ d, (ds ++ gs)[0]? = some d → (d.weights Try.prog 22).all (· ≤ reachBytes) = true := by
    intro d hd
    refine List.all_eq_true.2 fun n hn => List.all_eq_true.1 hsz0 n ?_
    exact DataW.weights_mem_each (j := 0) (t := 22) (d := d) (by rw [show Try.checked.prog = Try.prog from rfl, Try.params4]; rfl) hd n hn
  have hW' := hW
  obtain ⟨p, q, hA0, hV, rfl, hfz, hnd⟩ := hW
  have hA : DataW.TrodAll enc Try.prog W 0 (fun _ => true) true Try.f4.params.toList args.toList ds p := hA0
  rw [Try.params4] at hA hval
  obtain ⟨v0, vs0, d0, ds0, p0, q0, hargs, rfl, rfl, h0, r0⟩ := trodAll_cons hA
  obtain ⟨rfl, rfl, rfl⟩ := trodAll_nil r0
  obtain rfl : args = #[v0] := by cases args; simp_all
  obtain ⟨rfl, rfl⟩ := trodVars_none hV
  obtain ⟨a0, len0, cap0, rfl⟩ := okWide_slice Try.underlying22 (hval 0 22 v0 rfl rfl)
  have k0 := h0
  have lt0 : ∀ x ∈ p0, x.block < W.heap.size := by obtain ⟨m, hm⟩ := k0; exact DataW.trod_lt m _ _ _ hm
  obtain ⟨l, rfl, hl, hn⟩ := script_open h0 (hsz d0 rfl)
  clear hA0 hval0
  refine (links_any a0 cap0 l hl hn).mono fun e W' ⟨he, bel⟩ => ?_
  subst he
  exact ⟨_, rfl, _, _, _, [], _, [], hW', trodAll_mk1 (shut_bool Try.underlying4 _), (trodAll_cons_mk (Below.trod laidOut (by kernel_rfl) (of_decide_eq_true (by kernel_rfl)) k0 bel lt0) trodAll_mk0), rfl, bel.frame _, fun h => by cases h⟩

theorem over : Rows.nodeLinksRow.holds Try.pinned (OpenSpec.ofChange Rows.nodeLinksSpec) :=
  OpenClaim.holds_of_wide 4 Try.f4 rfl rfl rfl rfl rfl rfl rfl ⟨rfl, rfl, rfl, rfl, rfl⟩ rfl rfl rfl rfl rfl (by kernel_rfl) Try.func4 (by kernel_rfl)
    (of_decide_eq_true (by kernel_rfl)) (by unfold Func.isWrapper; first | (rw [if_pos (by decide +kernel)]; kernel_rfl) | (rw [if_neg (by decide +kernel)]; exact ⟨rfl, rfl⟩))
    (fun os started H enc _ => lifted os started H enc)

end Go.Proofs.Ytlbkoafeedlfaaa.nodeLinks
namespace Go.Proofs.Ytlbkoafeedlfaaa
theorem nodeLinks_holds : Rows.NodeLinksSaid := nodeLinks.over
end Go.Proofs.Ytlbkoafeedlfaaa
