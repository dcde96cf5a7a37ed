/-
  Both arenas are made of nodes that came in: arenas.
-/
import Derived.Test.YtfcagiacjpcpeaaXJL
import Derived.Test.YtfcagiacjpcpeaaXf
import Derived.Test.YtfcagiacjpcpeaaVl
namespace Go.Proofs.Ytfcagiacjpcpeaa
open Go.RowKit Go.Lib

theorem p2_new {w w1 w2 : World} {bA bR g cap : Nat} {F : Nat → Prop} (ha : ArS w1 w.heap.size bA [blankM 0] F) (hb : Below w.heap.size w w1) (hr : Rf w2 w.heap.size bR g cap [oneR 0]) (hb2 : Below w1.heap.size w1 w2) (h1 : w1.heap.size ≤ bR) (h2 : w1.heap.size ≤ g) : P2 w w2 bA bR [oneM 0] [oneM 0] := by
  refine ⟨hb.trans (hb2.mono hb.size), [blankM 0], F, footR bR g [oneR 0], ha.mod (Mod.of_below hb2) (fun _ _ e => e), Sim.new, ⟨g, cap, _, hr, rfl, fun _ => Iff.rfl⟩, ⟨_, Sim.new⟩, fun k hk hg => ?_⟩
  have hlt := (ha.lt hk).2
  rcases hg with rfl | rfl | ⟨r, hr', hk'⟩
  · omega
  · omega
  · simp at hr'; subst hr'; simp [oneR, blk] at hk'

set_option maxHeartbeats 8000000 in
set_option maxRecDepth 10000 in
theorem arenas_any (l : List ElM) (a : Option Addr) (cap : Nat) (w : World) (hin : ElsIn w a l) (hl : l.length ≤ maxLen) :
    Calls Try.prog 9 #[.slice a l.length cap] w fun e w' => ∃ bA bR os, e = .returned (.tuple #[.pointer (some ⟨bA, 0, none⟩), .pointer (some ⟨bR, 0, none⟩)]) ∧ P2 w w' bA bR os os ∧ Ext os ∧ os.length ≤ 601 := by
  have HIN := hidE hin
  have hlz : (l.length : Int) ≤ 9223372036854775807 := by unfold maxLen at hl; omega
  have HNEW := hidE (new_any w w.heap.size (Nat.le_refl _))
  have HRN := hidE (fun W (hW : w.heap.size ≤ W.heap.size) => refNew_any W w.heap.size hW)
  clear hin hl
  go_enter Try.func9, Try.ntmps9
  go_wp2_with (first
    | (go_at_call 20; refine (unhidE HNEW).mono ?_; rintro e w1 ⟨F, rfl, ha1, hb1, hF1⟩; have HA1 := hidE ha1; have HB1 := hidE hb1; clear ha1 hb1 hF1)
    | (go_at_call 24; refine ((unhidE HRN) _ (unhidE HB1).size).mono ?_; rintro e w2 ⟨bR, g, cp, rfl, hr2, hb2, h1, h2⟩; have HST := hidE (p2_new (unhidE HA1) (unhidE HB1) hr2 hb2 h1 h2); clear hr2 hb2 h1 h2))
  obtain ⟨bA, hbA⟩ : ∃ b, w.heap.size + 3 = b := ⟨_, rfl⟩
  rw [hbA] at HST
  rw [hbA]
  clear hbA HA1 HB1
  go_loopg [6, 7, 8, 9] l.length (fun k s6 _ _ _ wx => ∃ (i : Nat) (os : List OneM), s6 = .int .i64 i ∧ i + k = l.length ∧ i ≤ 300 ∧ os.length ≤ 1 + 2 * i ∧ Ext os ∧ P2 w wx bA bR os os)
  case atStart => exact ⟨0, [oneM 0], rfl, by omega, by omega, by simp, ext_new, unhidE HST⟩
  case round =>
    obtain ⟨i, os, rfl, hik, hi300, hol, hext, hst⟩ := hrel
    by_cases hi : i < l.length ∧ i < 300
    · obtain ⟨hi1, hi2⟩ := hi
      have hiz : (i : Int) < (l.length : Int) := by omega
      have hiz2 : (i : Int) < 300 := by omega
      obtain ⟨x, hx⟩ : ∃ x, l[i]? = some x := ⟨_, List.getElem?_eq_getElem hi1⟩
      have hinx := (unhidE HIN).below hst.1
      obtain ⟨b, off, rfl, c0, c1, c2, c3, c4⟩ := hinx.cells i x hx
      obtain ⟨hat, hal⟩ := hinx.attrs i x hx
      have hk := hst.beside (.cells #[.int .i64 x.what, .int .i64 x.up, .int .i64 x.n, .string x.text, .slice x.la x.l.length x.cap] 50)
      have hat2 := hat.below (below_new wr (.cells #[.int .i64 x.what, .int .i64 x.up, .int .i64 x.n, .string x.text, .slice x.la x.l.length x.cap] 50))
      have HKC : Hid (∀ W oa ob, K2 w W bA bR oa ob wr.heap.size (.cells #[.int .i64 x.what, .int .i64 x.up, .int .i64 x.n, .string x.text, .slice x.la x.l.length x.cap] 50) → W.cell? ⟨wr.heap.size, 0, none⟩ = some (.int .i64 x.what) ∧ W.cell? ⟨wr.heap.size, 1, none⟩ = some (.int .i64 x.up) ∧ W.cell? ⟨wr.heap.size, 2, none⟩ = some (.int .i64 x.n) ∧ W.cell? ⟨wr.heap.size, 3, none⟩ = some (.string x.text) ∧ W.cell? ⟨wr.heap.size, 4, none⟩ = some (.slice x.la x.l.length x.cap)) := hidE (fun W oa ob h => ⟨cell_row _ _ 0 _ _ _ h.block, cell_row _ _ 1 _ _ _ h.block, cell_row _ _ 2 _ _ _ h.block, cell_row _ _ 3 _ _ _ h.block, cell_row _ _ 4 _ _ _ h.block⟩)
      have HL1 : Hid (∀ W oa (c : Int), K2 w W bA bR oa oa wr.heap.size (.cells #[.int .i64 x.what, .int .i64 x.up, .int .i64 x.n, .string x.text, .slice x.la x.l.length x.cap] 50) → Calls Try.prog 22 #[.pointer (some ⟨bA, 0, none⟩), .int .i64 x.up, .int .i64 c, .int .i64 (-1)] W fun e w' => (∃ r : Int, e = .returned (.int .i64 r)) ∧ K2 w w' bA bR (linkR oa x.up c (-1)) oa wr.heap.size (.cells #[.int .i64 x.what, .int .i64 x.up, .int .i64 x.n, .string x.text, .slice x.la x.l.length x.cap] 50)) := hidE (fun W oa c h => (h.link x.up c (-1)).mono fun e w' ⟨h1, h2⟩ => ⟨⟨_, h1⟩, h2⟩)
      have HL2 : Hid (∀ W oa (c : Int), K2 w W bA bR (linkR oa x.up c (-1)) oa wr.heap.size (.cells #[.int .i64 x.what, .int .i64 x.up, .int .i64 x.n, .string x.text, .slice x.la x.l.length x.cap] 50) → Calls Try.prog 33 #[.pointer (some ⟨bR, 0, none⟩), .int .i64 x.up, .int .i64 c, .int .i64 (-1)] W fun e w' => (∃ r : Int, e = .returned (.int .i64 r)) ∧ K2 w w' bA bR (linkR oa x.up c (-1)) (linkR oa x.up c (-1)) wr.heap.size (.cells #[.int .i64 x.what, .int .i64 x.up, .int .i64 x.n, .string x.text, .slice x.la x.l.length x.cap] 50)) := hidE (fun W oa c h => h.rlink.mono fun e w' ⟨h1, h2⟩ => ⟨⟨_, h1⟩, h2⟩)
      have hsl := step_len os x
      have HEX := hidE (ext_step hext x)
      by_cases h0 : x.what = 0
      · have hR : mkO os x = elemO os x.n x.text x.l := by unfold mkO; rw [if_pos h0]
        have HE1 : Hid (Calls Try.prog 21 #[.pointer (some ⟨bA, 0, none⟩), .int .i64 x.n, .string x.text, .slice x.la x.l.length x.cap] (wr.alloc (.cells #[.int .i64 x.what, .int .i64 x.up, .int .i64 x.n, .string x.text, .slice x.la x.l.length x.cap] 50)) fun e w' => e = .returned (.tuple #[.int .i64 (elemO os x.n x.text x.l).2.1, .int .i64 (elemO os x.n x.text x.l).2.2]) ∧ K2 w w' bA bR (elemO os x.n x.text x.l).1 os wr.heap.size (.cells #[.int .i64 x.what, .int .i64 x.up, .int .i64 x.n, .string x.text, .slice x.la x.l.length x.cap] 50)) := hidE (hk.elem x.n x.text x.la x.cap x.l hat2 (by unfold maxLen; omega))
        have HE2 : Hid (∀ W, K2 w W bA bR (elemO os x.n x.text x.l).1 os wr.heap.size (.cells #[.int .i64 x.what, .int .i64 x.up, .int .i64 x.n, .string x.text, .slice x.la x.l.length x.cap] 50) → Calls Try.prog 25 #[.pointer (some ⟨bR, 0, none⟩), .int .i64 x.n, .string x.text, .slice x.la x.l.length x.cap] W fun e w' => (∃ r1 r2 : Int, e = .returned (.tuple #[.int .i64 r1, .int .i64 r2])) ∧ K2 w w' bA bR (elemO os x.n x.text x.l).1 (elemO os x.n x.text x.l).1 wr.heap.size (.cells #[.int .i64 x.what, .int .i64 x.up, .int .i64 x.n, .string x.text, .slice x.la x.l.length x.cap] 50)) := hidE (fun W h => (h.relem (((unhidE HIN).below h.1).attrs i x hx).1 (by unfold maxLen; omega)).mono fun e w' ⟨h1, h2⟩ => ⟨⟨_, _, h1⟩, h2⟩)
        have hS : stepO os x = if (mkO os x).2.2 = 0 then linkR (mkO os x).1 x.up (mkO os x).2.1 (-1) else (mkO os x).1 := rfl
        rw [hR] at hS
        generalize elemO os x.n x.text x.l = R at HE1 HE2 hS
        obtain ⟨o1, id1, e1⟩ := R
        have HE1' : Hid (Calls Try.prog 21 #[.pointer (some ⟨bA, 0, none⟩), .int .i64 x.n, .string x.text, .slice x.la x.l.length x.cap] (wr.alloc (.cells #[.int .i64 x.what, .int .i64 x.up, .int .i64 x.n, .string x.text, .slice x.la x.l.length x.cap] 50)) fun e w' => e = .returned (.tuple #[.int .i64 id1, .int .i64 e1]) ∧ K2 w w' bA bR o1 os wr.heap.size (.cells #[.int .i64 x.what, .int .i64 x.up, .int .i64 x.n, .string x.text, .slice x.la x.l.length x.cap] 50)) := HE1
        have HE2' : Hid (∀ W, K2 w W bA bR o1 os wr.heap.size (.cells #[.int .i64 x.what, .int .i64 x.up, .int .i64 x.n, .string x.text, .slice x.la x.l.length x.cap] 50) → Calls Try.prog 25 #[.pointer (some ⟨bR, 0, none⟩), .int .i64 x.n, .string x.text, .slice x.la x.l.length x.cap] W fun e w' => (∃ r1 r2 : Int, e = .returned (.tuple #[.int .i64 r1, .int .i64 r2])) ∧ K2 w w' bA bR o1 o1 wr.heap.size (.cells #[.int .i64 x.what, .int .i64 x.up, .int .i64 x.n, .string x.text, .slice x.la x.l.length x.cap] 50)) := HE2
        clear HE1 HE2 hR hk hat hat2 hst hinx hext hx
        have q0 : (x.what == 0) = true := by simpa using h0
        clear h0
        by_cases he : e1 = 0
        · subst he
          have hS' : stepO os x = linkR o1 x.up id1 (-1) := by rw [hS]; rfl
          rw [hS'] at HEX hsl
          clear hS hS'
          go_wp2_with (first
            | (go_at_call 21; refine (unhidE HE1').mono ?_; rintro e w3 ⟨rfl, hk3⟩; obtain ⟨d0, d1, d2, d3, d4⟩ := (unhidE HKC) _ _ _ hk3; have HK3 := hidE ((unhidE HE2') _ hk3); clear hk3)
            | (go_at_call 25; refine (unhidE HK3).mono ?_; rintro e w4 ⟨⟨r1, r2, rfl⟩, hk4⟩; obtain ⟨f0, f1, f2, f3, f4⟩ := (unhidE HKC) _ _ _ hk4; have HK4 := hidE ((unhidE HL1) _ _ id1 hk4); clear hk4)
            | (go_at_call 22; refine (unhidE HK4).mono ?_; rintro e w5 ⟨⟨r5, rfl⟩, hk5⟩; obtain ⟨g0, g1, g2, g3, g4⟩ := (unhidE HKC) _ _ _ hk5; have HK5 := hidE ((unhidE HL2) _ _ id1 hk5); clear hk5)
            | (go_at_call 33; refine (unhidE HK5).mono ?_; rintro e w6 ⟨⟨r6, rfl⟩, hk6⟩; have HK6 := hidE hk6.forget; clear hk6))
          go_roundg (gk - 1)
          case measure => omega
          case rel => exact ⟨i + 1, _, by go_num, by omega, by omega, by omega, unhidE HEX, unhidE HK6⟩
        · have hez : (e1 == 0) = false := by simpa using he
          have hS' : stepO os x = o1 := by rw [hS]; show (if e1 = 0 then _ else _) = _; rw [if_neg he]
          rw [hS'] at HEX hsl
          clear hS hS' he
          go_wp2_with (first
            | (go_at_call 21; refine (unhidE HE1').mono ?_; rintro e w3 ⟨rfl, hk3⟩; obtain ⟨d0, d1, d2, d3, d4⟩ := (unhidE HKC) _ _ _ hk3; have HK3 := hidE ((unhidE HE2') _ hk3); clear hk3)
            | (go_at_call 25; refine (unhidE HK3).mono ?_; rintro e w4 ⟨⟨r1, r2, rfl⟩, hk4⟩; have HK4 := hidE hk4.forget; clear hk4))
          go_roundg (gk - 1)
          case measure => omega
          case rel => exact ⟨i + 1, _, by go_num, by omega, by omega, by omega, unhidE HEX, unhidE HK4⟩
      · by_cases h1 : x.what = 1
        · have hR : mkO os x = dataO os 2 x.text := by unfold mkO; rw [if_neg h0, if_pos h1]
          have HE1 : Hid (Calls Try.prog 23 #[.pointer (some ⟨bA, 0, none⟩), .string x.text] (wr.alloc (.cells #[.int .i64 x.what, .int .i64 x.up, .int .i64 x.n, .string x.text, .slice x.la x.l.length x.cap] 50)) fun e w' => e = .returned (.tuple #[.int .i64 (dataO os 2 x.text).2.1, .int .i64 (dataO os 2 x.text).2.2]) ∧ K2 w w' bA bR (dataO os 2 x.text).1 os wr.heap.size (.cells #[.int .i64 x.what, .int .i64 x.up, .int .i64 x.n, .string x.text, .slice x.la x.l.length x.cap] 50)) := hidE (hk.text x.text)
          have HE2 : Hid (∀ W, K2 w W bA bR (dataO os 2 x.text).1 os wr.heap.size (.cells #[.int .i64 x.what, .int .i64 x.up, .int .i64 x.n, .string x.text, .slice x.la x.l.length x.cap] 50) → Calls Try.prog 26 #[.pointer (some ⟨bR, 0, none⟩), .string x.text] W fun e w' => (∃ r1 r2 : Int, e = .returned (.tuple #[.int .i64 r1, .int .i64 r2])) ∧ K2 w w' bA bR (dataO os 2 x.text).1 (dataO os 2 x.text).1 wr.heap.size (.cells #[.int .i64 x.what, .int .i64 x.up, .int .i64 x.n, .string x.text, .slice x.la x.l.length x.cap] 50)) := hidE (fun W h => (h.rtext).mono fun e w' ⟨h1, h2⟩ => ⟨⟨_, _, h1⟩, h2⟩)
          have hS : stepO os x = if (mkO os x).2.2 = 0 then linkR (mkO os x).1 x.up (mkO os x).2.1 (-1) else (mkO os x).1 := rfl
          rw [hR] at hS
          generalize dataO os 2 x.text = R at HE1 HE2 hS
          obtain ⟨o1, id1, e1⟩ := R
          have HE1' : Hid (Calls Try.prog 23 #[.pointer (some ⟨bA, 0, none⟩), .string x.text] (wr.alloc (.cells #[.int .i64 x.what, .int .i64 x.up, .int .i64 x.n, .string x.text, .slice x.la x.l.length x.cap] 50)) fun e w' => e = .returned (.tuple #[.int .i64 id1, .int .i64 e1]) ∧ K2 w w' bA bR o1 os wr.heap.size (.cells #[.int .i64 x.what, .int .i64 x.up, .int .i64 x.n, .string x.text, .slice x.la x.l.length x.cap] 50)) := HE1
          have HE2' : Hid (∀ W, K2 w W bA bR o1 os wr.heap.size (.cells #[.int .i64 x.what, .int .i64 x.up, .int .i64 x.n, .string x.text, .slice x.la x.l.length x.cap] 50) → Calls Try.prog 26 #[.pointer (some ⟨bR, 0, none⟩), .string x.text] W fun e w' => (∃ r1 r2 : Int, e = .returned (.tuple #[.int .i64 r1, .int .i64 r2])) ∧ K2 w w' bA bR o1 o1 wr.heap.size (.cells #[.int .i64 x.what, .int .i64 x.up, .int .i64 x.n, .string x.text, .slice x.la x.l.length x.cap] 50)) := HE2
          clear HE1 HE2 hR hk hat hat2 hst hinx hext hx
          have q0 : (x.what == 0) = false := by simpa using h0
          have q1 : (x.what == 1) = true := by simpa using h1
          clear h1
          by_cases he : e1 = 0
          · subst he
            have hS' : stepO os x = linkR o1 x.up id1 (-1) := by rw [hS]; rfl
            rw [hS'] at HEX hsl
            clear hS hS'
            go_wp2_with (first
              | (go_at_call 23; refine (unhidE HE1').mono ?_; rintro e w3 ⟨rfl, hk3⟩; obtain ⟨d0, d1, d2, d3, d4⟩ := (unhidE HKC) _ _ _ hk3; have HK3 := hidE ((unhidE HE2') _ hk3); clear hk3)
              | (go_at_call 26; refine (unhidE HK3).mono ?_; rintro e w4 ⟨⟨r1, r2, rfl⟩, hk4⟩; obtain ⟨f0, f1, f2, f3, f4⟩ := (unhidE HKC) _ _ _ hk4; have HK4 := hidE ((unhidE HL1) _ _ id1 hk4); clear hk4)
              | (go_at_call 22; refine (unhidE HK4).mono ?_; rintro e w5 ⟨⟨r5, rfl⟩, hk5⟩; obtain ⟨g0, g1, g2, g3, g4⟩ := (unhidE HKC) _ _ _ hk5; have HK5 := hidE ((unhidE HL2) _ _ id1 hk5); clear hk5)
              | (go_at_call 33; refine (unhidE HK5).mono ?_; rintro e w6 ⟨⟨r6, rfl⟩, hk6⟩; have HK6 := hidE hk6.forget; clear hk6))
            go_roundg (gk - 1)
            case measure => omega
            case rel => exact ⟨i + 1, _, by go_num, by omega, by omega, by omega, unhidE HEX, unhidE HK6⟩
          · have hez : (e1 == 0) = false := by simpa using he
            have hS' : stepO os x = o1 := by rw [hS]; show (if e1 = 0 then _ else _) = _; rw [if_neg he]
            rw [hS'] at HEX hsl
            clear hS hS' he
            go_wp2_with (first
              | (go_at_call 23; refine (unhidE HE1').mono ?_; rintro e w3 ⟨rfl, hk3⟩; obtain ⟨d0, d1, d2, d3, d4⟩ := (unhidE HKC) _ _ _ hk3; have HK3 := hidE ((unhidE HE2') _ hk3); clear hk3)
              | (go_at_call 26; refine (unhidE HK3).mono ?_; rintro e w4 ⟨⟨r1, r2, rfl⟩, hk4⟩; have HK4 := hidE hk4.forget; clear hk4))
            go_roundg (gk - 1)
            case measure => omega
            case rel => exact ⟨i + 1, _, by go_num, by omega, by omega, by omega, unhidE HEX, unhidE HK4⟩
        · by_cases h2 : x.what = 2
          · have hR : mkO os x = dataO os 3 x.text := by unfold mkO; rw [if_neg h0, if_neg h1, if_pos h2]
            have HE1 : Hid (Calls Try.prog 27 #[.pointer (some ⟨bA, 0, none⟩), .string x.text] (wr.alloc (.cells #[.int .i64 x.what, .int .i64 x.up, .int .i64 x.n, .string x.text, .slice x.la x.l.length x.cap] 50)) fun e w' => e = .returned (.tuple #[.int .i64 (dataO os 3 x.text).2.1, .int .i64 (dataO os 3 x.text).2.2]) ∧ K2 w w' bA bR (dataO os 3 x.text).1 os wr.heap.size (.cells #[.int .i64 x.what, .int .i64 x.up, .int .i64 x.n, .string x.text, .slice x.la x.l.length x.cap] 50)) := hidE (hk.comment x.text)
            have HE2 : Hid (∀ W, K2 w W bA bR (dataO os 3 x.text).1 os wr.heap.size (.cells #[.int .i64 x.what, .int .i64 x.up, .int .i64 x.n, .string x.text, .slice x.la x.l.length x.cap] 50) → Calls Try.prog 28 #[.pointer (some ⟨bR, 0, none⟩), .string x.text] W fun e w' => (∃ r1 r2 : Int, e = .returned (.tuple #[.int .i64 r1, .int .i64 r2])) ∧ K2 w w' bA bR (dataO os 3 x.text).1 (dataO os 3 x.text).1 wr.heap.size (.cells #[.int .i64 x.what, .int .i64 x.up, .int .i64 x.n, .string x.text, .slice x.la x.l.length x.cap] 50)) := hidE (fun W h => (h.rcomment).mono fun e w' ⟨h1, h2⟩ => ⟨⟨_, _, h1⟩, h2⟩)
            have hS : stepO os x = if (mkO os x).2.2 = 0 then linkR (mkO os x).1 x.up (mkO os x).2.1 (-1) else (mkO os x).1 := rfl
            rw [hR] at hS
            generalize dataO os 3 x.text = R at HE1 HE2 hS
            obtain ⟨o1, id1, e1⟩ := R
            have HE1' : Hid (Calls Try.prog 27 #[.pointer (some ⟨bA, 0, none⟩), .string x.text] (wr.alloc (.cells #[.int .i64 x.what, .int .i64 x.up, .int .i64 x.n, .string x.text, .slice x.la x.l.length x.cap] 50)) fun e w' => e = .returned (.tuple #[.int .i64 id1, .int .i64 e1]) ∧ K2 w w' bA bR o1 os wr.heap.size (.cells #[.int .i64 x.what, .int .i64 x.up, .int .i64 x.n, .string x.text, .slice x.la x.l.length x.cap] 50)) := HE1
            have HE2' : Hid (∀ W, K2 w W bA bR o1 os wr.heap.size (.cells #[.int .i64 x.what, .int .i64 x.up, .int .i64 x.n, .string x.text, .slice x.la x.l.length x.cap] 50) → Calls Try.prog 28 #[.pointer (some ⟨bR, 0, none⟩), .string x.text] W fun e w' => (∃ r1 r2 : Int, e = .returned (.tuple #[.int .i64 r1, .int .i64 r2])) ∧ K2 w w' bA bR o1 o1 wr.heap.size (.cells #[.int .i64 x.what, .int .i64 x.up, .int .i64 x.n, .string x.text, .slice x.la x.l.length x.cap] 50)) := HE2
            clear HE1 HE2 hR hk hat hat2 hst hinx hext hx
            have q0 : (x.what == 0) = false := by simpa using h0
            have q1 : (x.what == 1) = false := by simpa using h1
            have q2 : (x.what == 2) = true := by simpa using h2
            clear h2
            by_cases he : e1 = 0
            · subst he
              have hS' : stepO os x = linkR o1 x.up id1 (-1) := by rw [hS]; rfl
              rw [hS'] at HEX hsl
              clear hS hS'
              go_wp2_with (first
                | (go_at_call 27; refine (unhidE HE1').mono ?_; rintro e w3 ⟨rfl, hk3⟩; obtain ⟨d0, d1, d2, d3, d4⟩ := (unhidE HKC) _ _ _ hk3; have HK3 := hidE ((unhidE HE2') _ hk3); clear hk3)
                | (go_at_call 28; refine (unhidE HK3).mono ?_; rintro e w4 ⟨⟨r1, r2, rfl⟩, hk4⟩; obtain ⟨f0, f1, f2, f3, f4⟩ := (unhidE HKC) _ _ _ hk4; have HK4 := hidE ((unhidE HL1) _ _ id1 hk4); clear hk4)
                | (go_at_call 22; refine (unhidE HK4).mono ?_; rintro e w5 ⟨⟨r5, rfl⟩, hk5⟩; obtain ⟨g0, g1, g2, g3, g4⟩ := (unhidE HKC) _ _ _ hk5; have HK5 := hidE ((unhidE HL2) _ _ id1 hk5); clear hk5)
                | (go_at_call 33; refine (unhidE HK5).mono ?_; rintro e w6 ⟨⟨r6, rfl⟩, hk6⟩; have HK6 := hidE hk6.forget; clear hk6))
              go_roundg (gk - 1)
              case measure => omega
              case rel => exact ⟨i + 1, _, by go_num, by omega, by omega, by omega, unhidE HEX, unhidE HK6⟩
            · have hez : (e1 == 0) = false := by simpa using he
              have hS' : stepO os x = o1 := by rw [hS]; show (if e1 = 0 then _ else _) = _; rw [if_neg he]
              rw [hS'] at HEX hsl
              clear hS hS' he
              go_wp2_with (first
                | (go_at_call 27; refine (unhidE HE1').mono ?_; rintro e w3 ⟨rfl, hk3⟩; obtain ⟨d0, d1, d2, d3, d4⟩ := (unhidE HKC) _ _ _ hk3; have HK3 := hidE ((unhidE HE2') _ hk3); clear hk3)
                | (go_at_call 28; refine (unhidE HK3).mono ?_; rintro e w4 ⟨⟨r1, r2, rfl⟩, hk4⟩; have HK4 := hidE hk4.forget; clear hk4))
              go_roundg (gk - 1)
              case measure => omega
              case rel => exact ⟨i + 1, _, by go_num, by omega, by omega, by omega, unhidE HEX, unhidE HK4⟩
          · by_cases h3 : x.what = 3
            · have hR : mkO os x = docOs os x.text ⟨#[]⟩ ⟨#[]⟩ := by unfold mkO; rw [if_neg h0, if_neg h1, if_neg h2, if_pos h3]
              have HE1 : Hid (Calls Try.prog 29 #[.pointer (some ⟨bA, 0, none⟩), .string x.text, .string ⟨#[]⟩, .string ⟨#[]⟩] (wr.alloc (.cells #[.int .i64 x.what, .int .i64 x.up, .int .i64 x.n, .string x.text, .slice x.la x.l.length x.cap] 50)) fun e w' => e = .returned (.tuple #[.int .i64 (docOs os x.text ⟨#[]⟩ ⟨#[]⟩).2.1, .int .i64 (docOs os x.text ⟨#[]⟩ ⟨#[]⟩).2.2]) ∧ K2 w w' bA bR (docOs os x.text ⟨#[]⟩ ⟨#[]⟩).1 os wr.heap.size (.cells #[.int .i64 x.what, .int .i64 x.up, .int .i64 x.n, .string x.text, .slice x.la x.l.length x.cap] 50)) := hidE (hk.doctype x.text ⟨#[]⟩ ⟨#[]⟩)
              have HE2 : Hid (∀ W, K2 w W bA bR (docOs os x.text ⟨#[]⟩ ⟨#[]⟩).1 os wr.heap.size (.cells #[.int .i64 x.what, .int .i64 x.up, .int .i64 x.n, .string x.text, .slice x.la x.l.length x.cap] 50) → Calls Try.prog 30 #[.pointer (some ⟨bR, 0, none⟩), .string x.text, .string ⟨#[]⟩, .string ⟨#[]⟩] W fun e w' => (∃ r1 r2 : Int, e = .returned (.tuple #[.int .i64 r1, .int .i64 r2])) ∧ K2 w w' bA bR (docOs os x.text ⟨#[]⟩ ⟨#[]⟩).1 (docOs os x.text ⟨#[]⟩ ⟨#[]⟩).1 wr.heap.size (.cells #[.int .i64 x.what, .int .i64 x.up, .int .i64 x.n, .string x.text, .slice x.la x.l.length x.cap] 50)) := hidE (fun W h => (h.rdoctype).mono fun e w' ⟨h1, h2⟩ => ⟨⟨_, _, h1⟩, h2⟩)
              have hS : stepO os x = if (mkO os x).2.2 = 0 then linkR (mkO os x).1 x.up (mkO os x).2.1 (-1) else (mkO os x).1 := rfl
              rw [hR] at hS
              generalize docOs os x.text ⟨#[]⟩ ⟨#[]⟩ = R at HE1 HE2 hS
              obtain ⟨o1, id1, e1⟩ := R
              have HE1' : Hid (Calls Try.prog 29 #[.pointer (some ⟨bA, 0, none⟩), .string x.text, .string ⟨#[]⟩, .string ⟨#[]⟩] (wr.alloc (.cells #[.int .i64 x.what, .int .i64 x.up, .int .i64 x.n, .string x.text, .slice x.la x.l.length x.cap] 50)) fun e w' => e = .returned (.tuple #[.int .i64 id1, .int .i64 e1]) ∧ K2 w w' bA bR o1 os wr.heap.size (.cells #[.int .i64 x.what, .int .i64 x.up, .int .i64 x.n, .string x.text, .slice x.la x.l.length x.cap] 50)) := HE1
              have HE2' : Hid (∀ W, K2 w W bA bR o1 os wr.heap.size (.cells #[.int .i64 x.what, .int .i64 x.up, .int .i64 x.n, .string x.text, .slice x.la x.l.length x.cap] 50) → Calls Try.prog 30 #[.pointer (some ⟨bR, 0, none⟩), .string x.text, .string ⟨#[]⟩, .string ⟨#[]⟩] W fun e w' => (∃ r1 r2 : Int, e = .returned (.tuple #[.int .i64 r1, .int .i64 r2])) ∧ K2 w w' bA bR o1 o1 wr.heap.size (.cells #[.int .i64 x.what, .int .i64 x.up, .int .i64 x.n, .string x.text, .slice x.la x.l.length x.cap] 50)) := HE2
              clear HE1 HE2 hR hk hat hat2 hst hinx hext hx
              have q0 : (x.what == 0) = false := by simpa using h0
              have q1 : (x.what == 1) = false := by simpa using h1
              have q2 : (x.what == 2) = false := by simpa using h2
              have q3 : (x.what == 3) = true := by simpa using h3
              clear h3
              by_cases he : e1 = 0
              · subst he
                have hS' : stepO os x = linkR o1 x.up id1 (-1) := by rw [hS]; rfl
                rw [hS'] at HEX hsl
                clear hS hS'
                go_wp2_with (first
                  | (go_at_call 29; refine (unhidE HE1').mono ?_; rintro e w3 ⟨rfl, hk3⟩; obtain ⟨d0, d1, d2, d3, d4⟩ := (unhidE HKC) _ _ _ hk3; have HK3 := hidE ((unhidE HE2') _ hk3); clear hk3)
                  | (go_at_call 30; refine (unhidE HK3).mono ?_; rintro e w4 ⟨⟨r1, r2, rfl⟩, hk4⟩; obtain ⟨f0, f1, f2, f3, f4⟩ := (unhidE HKC) _ _ _ hk4; have HK4 := hidE ((unhidE HL1) _ _ id1 hk4); clear hk4)
                  | (go_at_call 22; refine (unhidE HK4).mono ?_; rintro e w5 ⟨⟨r5, rfl⟩, hk5⟩; obtain ⟨g0, g1, g2, g3, g4⟩ := (unhidE HKC) _ _ _ hk5; have HK5 := hidE ((unhidE HL2) _ _ id1 hk5); clear hk5)
                  | (go_at_call 33; refine (unhidE HK5).mono ?_; rintro e w6 ⟨⟨r6, rfl⟩, hk6⟩; have HK6 := hidE hk6.forget; clear hk6))
                go_roundg (gk - 1)
                case measure => omega
                case rel => exact ⟨i + 1, _, by go_num, by omega, by omega, by omega, unhidE HEX, unhidE HK6⟩
              · have hez : (e1 == 0) = false := by simpa using he
                have hS' : stepO os x = o1 := by rw [hS]; show (if e1 = 0 then _ else _) = _; rw [if_neg he]
                rw [hS'] at HEX hsl
                clear hS hS' he
                go_wp2_with (first
                  | (go_at_call 29; refine (unhidE HE1').mono ?_; rintro e w3 ⟨rfl, hk3⟩; obtain ⟨d0, d1, d2, d3, d4⟩ := (unhidE HKC) _ _ _ hk3; have HK3 := hidE ((unhidE HE2') _ hk3); clear hk3)
                  | (go_at_call 30; refine (unhidE HK3).mono ?_; rintro e w4 ⟨⟨r1, r2, rfl⟩, hk4⟩; have HK4 := hidE hk4.forget; clear hk4))
                go_roundg (gk - 1)
                case measure => omega
                case rel => exact ⟨i + 1, _, by go_num, by omega, by omega, by omega, unhidE HEX, unhidE HK4⟩
            · have hR : mkO os x = fragO os := by unfold mkO; rw [if_neg h0, if_neg h1, if_neg h2, if_neg h3]
              have HE1 : Hid (Calls Try.prog 31 #[.pointer (some ⟨bA, 0, none⟩)] (wr.alloc (.cells #[.int .i64 x.what, .int .i64 x.up, .int .i64 x.n, .string x.text, .slice x.la x.l.length x.cap] 50)) fun e w' => e = .returned (.tuple #[.int .i64 (fragO os).2.1, .int .i64 (fragO os).2.2]) ∧ K2 w w' bA bR (fragO os).1 os wr.heap.size (.cells #[.int .i64 x.what, .int .i64 x.up, .int .i64 x.n, .string x.text, .slice x.la x.l.length x.cap] 50)) := hidE (hk.fragment)
              have HE2 : Hid (∀ W, K2 w W bA bR (fragO os).1 os wr.heap.size (.cells #[.int .i64 x.what, .int .i64 x.up, .int .i64 x.n, .string x.text, .slice x.la x.l.length x.cap] 50) → Calls Try.prog 32 #[.pointer (some ⟨bR, 0, none⟩)] W fun e w' => (∃ r1 r2 : Int, e = .returned (.tuple #[.int .i64 r1, .int .i64 r2])) ∧ K2 w w' bA bR (fragO os).1 (fragO os).1 wr.heap.size (.cells #[.int .i64 x.what, .int .i64 x.up, .int .i64 x.n, .string x.text, .slice x.la x.l.length x.cap] 50)) := hidE (fun W h => (h.rfragment).mono fun e w' ⟨h1, h2⟩ => ⟨⟨_, _, h1⟩, h2⟩)
              have hS : stepO os x = if (mkO os x).2.2 = 0 then linkR (mkO os x).1 x.up (mkO os x).2.1 (-1) else (mkO os x).1 := rfl
              rw [hR] at hS
              generalize fragO os = R at HE1 HE2 hS
              obtain ⟨o1, id1, e1⟩ := R
              have HE1' : Hid (Calls Try.prog 31 #[.pointer (some ⟨bA, 0, none⟩)] (wr.alloc (.cells #[.int .i64 x.what, .int .i64 x.up, .int .i64 x.n, .string x.text, .slice x.la x.l.length x.cap] 50)) fun e w' => e = .returned (.tuple #[.int .i64 id1, .int .i64 e1]) ∧ K2 w w' bA bR o1 os wr.heap.size (.cells #[.int .i64 x.what, .int .i64 x.up, .int .i64 x.n, .string x.text, .slice x.la x.l.length x.cap] 50)) := HE1
              have HE2' : Hid (∀ W, K2 w W bA bR o1 os wr.heap.size (.cells #[.int .i64 x.what, .int .i64 x.up, .int .i64 x.n, .string x.text, .slice x.la x.l.length x.cap] 50) → Calls Try.prog 32 #[.pointer (some ⟨bR, 0, none⟩)] W fun e w' => (∃ r1 r2 : Int, e = .returned (.tuple #[.int .i64 r1, .int .i64 r2])) ∧ K2 w w' bA bR o1 o1 wr.heap.size (.cells #[.int .i64 x.what, .int .i64 x.up, .int .i64 x.n, .string x.text, .slice x.la x.l.length x.cap] 50)) := HE2
              clear HE1 HE2 hR hk hat hat2 hst hinx hext hx
              have q0 : (x.what == 0) = false := by simpa using h0
              have q1 : (x.what == 1) = false := by simpa using h1
              have q2 : (x.what == 2) = false := by simpa using h2
              have q3 : (x.what == 3) = false := by simpa using h3
              by_cases he : e1 = 0
              · subst he
                have hS' : stepO os x = linkR o1 x.up id1 (-1) := by rw [hS]; rfl
                rw [hS'] at HEX hsl
                clear hS hS'
                go_wp2_with (first
                  | (go_at_call 31; refine (unhidE HE1').mono ?_; rintro e w3 ⟨rfl, hk3⟩; obtain ⟨d0, d1, d2, d3, d4⟩ := (unhidE HKC) _ _ _ hk3; have HK3 := hidE ((unhidE HE2') _ hk3); clear hk3)
                  | (go_at_call 32; refine (unhidE HK3).mono ?_; rintro e w4 ⟨⟨r1, r2, rfl⟩, hk4⟩; obtain ⟨f0, f1, f2, f3, f4⟩ := (unhidE HKC) _ _ _ hk4; have HK4 := hidE ((unhidE HL1) _ _ id1 hk4); clear hk4)
                  | (go_at_call 22; refine (unhidE HK4).mono ?_; rintro e w5 ⟨⟨r5, rfl⟩, hk5⟩; obtain ⟨g0, g1, g2, g3, g4⟩ := (unhidE HKC) _ _ _ hk5; have HK5 := hidE ((unhidE HL2) _ _ id1 hk5); clear hk5)
                  | (go_at_call 33; refine (unhidE HK5).mono ?_; rintro e w6 ⟨⟨r6, rfl⟩, hk6⟩; have HK6 := hidE hk6.forget; clear hk6))
                go_roundg (gk - 1)
                case measure => omega
                case rel => exact ⟨i + 1, _, by go_num, by omega, by omega, by omega, unhidE HEX, unhidE HK6⟩
              · have hez : (e1 == 0) = false := by simpa using he
                have hS' : stepO os x = o1 := by rw [hS]; show (if e1 = 0 then _ else _) = _; rw [if_neg he]
                rw [hS'] at HEX hsl
                clear hS hS' he
                go_wp2_with (first
                  | (go_at_call 31; refine (unhidE HE1').mono ?_; rintro e w3 ⟨rfl, hk3⟩; obtain ⟨d0, d1, d2, d3, d4⟩ := (unhidE HKC) _ _ _ hk3; have HK3 := hidE ((unhidE HE2') _ hk3); clear hk3)
                  | (go_at_call 32; refine (unhidE HK3).mono ?_; rintro e w4 ⟨⟨r1, r2, rfl⟩, hk4⟩; have HK4 := hidE hk4.forget; clear hk4))
                go_roundg (gk - 1)
                case measure => omega
                case rel => exact ⟨i + 1, _, by go_num, by omega, by omega, by omega, unhidE HEX, unhidE HK4⟩
    · have fin : (i < l.length ∧ i = 300) ∨ ¬ i < l.length := by omega
      have HP := hidE hst
      have HX := hidE hext
      clear hst hext
      rcases fin with ⟨f1, f2⟩ | f1
      · have hiz : (i : Int) < (l.length : Int) := by omega
        have hiz2 : ¬ (i : Int) < 300 := by omega
        clear f1 f2
        go_wp2
        go_ret2
        exact ⟨bA, bR, rfl, os, unhidE HP, unhidE HX, by omega⟩
      · have hiz : ¬ (i : Int) < (l.length : Int) := by omega
        clear f1
        go_wp2
        go_ret2
        exact ⟨bA, bR, rfl, os, unhidE HP, unhidE HX, by omega⟩
end Go.Proofs.Ytfcagiacjpcpeaa

/-
  What is in any node of any tree, as text, by the program and by the document.
-/
namespace Go.Proofs.Ytfcagiacjpcpeaa
open Go.RowKit Go.Lib

theorem costO_few (o : OneM) (h : OkO o) : costO o ≤ 10000000000 := by
  have h3 : ∀ l : List AttrM, (∀ x ∈ l, x.name.size ≤ 1048576 ∧ x.val.size ≤ 1048576) → attrsN l ≤ l.length * 8000000 := by
    intro l
    induction l with
    | nil => intro _; simp [attrsN]
    | cons x l ih =>
      intro hx
      have i1 := ih (fun y hy => hx y (by simp [hy]))
      have i2 := hx x (by simp)
      unfold attrsN at *
      simp only [List.foldr_cons, List.length_cons]
      omega
  have h4 := h3 o.attrs h.short.attrs
  have h6 : o.attrs.length * 8000000 ≤ 1024 * 8000000 := Nat.mul_le_mul_right _ h.few
  have h1 := h.short.name
  have h2 := h.short.data
  unfold costO
  omega

theorem inners_both {w wx : World} {bA bR : Nat} {os : List OneM} (h : P2 w wx bA bR os os) (hE : Ext os) (hl : os.length ≤ 601) (k : Int) (sc : Bool) :
    ∃ (t : ByteArray) (er : Int), (er = 0 ∨ er = 6) ∧ (Calls Try.prog 10 #[.pointer (some ⟨bA, 0, none⟩), .int .i64 k, .bool sc] wx fun e w' => e = .returned (.tuple #[.string t, .int .i64 er]) ∧ Below wx.heap.size wx w') ∧
      ∀ W, Below wx.heap.size wx W → Calls Try.prog 11 #[.pointer (some ⟨bR, 0, none⟩), .int .i64 k, .bool sc] W fun e w' => e = .returned (.tuple #[.string t, .int .i64 er]) ∧ Below W.heap.size W w' := by
  obtain ⟨hb, ns, F, G, ha, hs, hr, hn, hd⟩ := h
  cases hk : hasO os k with
  | false =>
    refine ⟨⟨#[]⟩, 6, .inr rfl, inner_no ha hs hk sc, fun W hW => ?_⟩
    obtain ⟨g, cap, rs, hR, ho, _⟩ := hr.below hW
    exact rinner_no hR sc (by rw [ho]; exact hk)
  | true =>
    obtain ⟨i, o, rfl, hi⟩ := hasO_yes hk
    have hc : costN os (os.length + 1) i ≤ 10000000000000 := by
      have h1 := cost_all hs hi (os.length + 1) 10000000000 (fun k c hc => costO_few c (hE k c hc))
      have h2 : os.length * 10000000000 ≤ 601 * 10000000000 := Nat.mul_le_mul_right _ hl
      omega
    refine ⟨⟨(inL os sc (os.length + 1) i).toArray⟩, 0, .inl rfl, inner_in ha hs hi sc (by omega), fun W hW => ?_⟩
    obtain ⟨g, cap, rs, hR, ho, _⟩ := hr.below hW
    refine (rinner_in hR ho hs hE sc hi hc).mono ?_
    rintro e w' ⟨⟨s, rfl, h2⟩, h3⟩
    have e : s = ⟨(inL os sc (os.length + 1) i).toArray⟩ := by
      obtain ⟨d⟩ := s
      congr 1
      rw [← h2]
    rw [← e]
    exact ⟨rfl, h3⟩

set_option maxHeartbeats 8000000 in
set_option maxRecDepth 10000 in
theorem inners_walk (l : List ElM) (a : Option Addr) (cap : Nat) (k : Int) (sc : Bool) (w : World) (hin : ElsIn w a l) (hl : l.length ≤ maxLen) :
    Calls Try.prog 3 #[.slice a l.length cap, .int .i64 k, .bool sc] w fun e w' => e = .returned (.bool true) ∧ Below w.heap.size w w' := by
  have HA : Hid (Calls Try.prog 9 #[.slice a l.length cap] w fun e w' => ∃ bA bR, e = .returned (.tuple #[.pointer (some ⟨bA, 0, none⟩), .pointer (some ⟨bR, 0, none⟩)]) ∧ Below w.heap.size w w' ∧
      ∃ (t : ByteArray) (er : Int), (er = 0 ∨ er = 6) ∧ (Calls Try.prog 10 #[.pointer (some ⟨bA, 0, none⟩), .int .i64 k, .bool sc] w' fun e w2 => e = .returned (.tuple #[.string t, .int .i64 er]) ∧ Below w'.heap.size w' w2) ∧
      ∀ W, Below w'.heap.size w' W → Calls Try.prog 11 #[.pointer (some ⟨bR, 0, none⟩), .int .i64 k, .bool sc] W fun e w2 => e = .returned (.tuple #[.string t, .int .i64 er]) ∧ Below W.heap.size W w2) :=
    hidE ((arenas_any l a cap w hin hl).mono fun e w' ⟨bA, bR, os, he, hp, hx, ho⟩ => ⟨bA, bR, he, hp.1, inners_both hp hx ho k sc⟩)
  clear hin hl
  go_enter Try.func3, Try.ntmps3
  go_wp2_with (first
    | (go_at_call 9; refine (unhidE HA).mono ?_; rintro e w1 ⟨bA, bR, rfl, hb1, t, er, her, h1, h2⟩; have HB1 := hidE hb1; have H1 := hidE h1; have H2 := hidE h2; have HER := hidE her; clear hb1 h1 h2 her)
    | (go_at_call 10; refine (unhidE H1).mono ?_; rintro e w2 ⟨rfl, hb2⟩; have HB2 := hidE ((unhidE HB1).trans (hb2.mono (unhidE HB1).size)); have H3 := hidE ((unhidE H2) _ hb2); clear hb2)
    | (go_at_call 11; refine (unhidE H3).mono ?_; rintro e w3 ⟨rfl, hb3⟩; have HB3 := hidE ((unhidE HB2).trans (hb3.mono (unhidE HB2).size)); clear hb3; rcases unhidE HER with rfl | rfl)
    | (go_at_call 12; refine (awake_any _).mono ?_; rintro e w4 ⟨rfl, hb4⟩; have HB4 := hidE ((unhidE HB3).trans (hb4.mono (unhidE HB3).size)); clear hb4))
  all_goals
    go_ret
    exact ⟨rfl, unhidE HB4⟩
end Go.Proofs.Ytfcagiacjpcpeaa

