/-
  The same, where the middle lies on the other side.
-/
import Derived.Test.YtlbkoafeedlfaaaSBbk
namespace Go.Proofs.Ytlbkoafeedlfaaa
open Go.RowKit Go.Sort

set_option maxRecDepth 100000 in
set_option maxHeartbeats 4000000 in
theorem sym_le {w : World} {base g cap : Nat} {xs : List ShA} (h : ShAt w base g cap xs) (f a m b mid : Nat) (ham : a + 1 < m) (hmb : m + 1 < b) (hb : b ≤ xs.length) (hl : xs.length ≤ 1024) (hf : b - a ≤ f + 1) (hmid : (a + b) / 2 = mid) (hgt : ¬ mid < m)
    (IH : Hid (∀ (ys : List ShA) (W : World) (a' m' b' : Nat), ys.length = xs.length → ShAt W base g cap ys → a' < m' → m' < b' → b' ≤ xs.length → b' - a' ≤ f → Calls Try.prog 163 #[.slice (some ⟨g, 0, none⟩) xs.length cap, .int .i64 a', .int .i64 m', .int .i64 b', cmpF] W fun e w' => e = .returned (.tuple #[]) ∧ ShAt w' base g cap (symF f ys a' m' b') ∧ Mod (fun k => k = g) W w')) :
    Calls Try.prog 163 #[.slice (some ⟨g, 0, none⟩) xs.length cap, .int .i64 a, .int .i64 m, .int .i64 b, cmpF] w fun e w' => e = .returned (.tuple #[]) ∧ ShAt w' base g cap (symF (f + 1) xs a m b) ∧ Mod (fun k => k = g) w w' := by
  have HS := hide h
  have HN := hide (And.intro (And.intro ham hmb) (And.intro hb hl))
  have hA : (a : Int) ≤ 1024 := by omega
  have hMz : (m : Int) ≤ 1024 := by omega
  have hBz : (b : Int) ≤ 1024 := by omega
  have hw1 : ¬ ((m : Int) - (a : Int) = 1) := by omega
  have hw2 : (((m : Int) - (a : Int)) == 1) = false := by rw [beq_eq_false_iff_ne]; omega
  have hw3 : ¬ ((b : Int) - (m : Int) = 1) := by omega
  have hw4 : (((b : Int) - (m : Int)) == 1) = false := by rw [beq_eq_false_iff_ne]; omega
  have hmz : ((a : Int) + (b : Int)) / 2 = (mid : Int) := by omega
  have hmr : (mid : Int) ≤ 1024 := by omega
  have hm1 : a < mid ∧ mid < b := by omega
  have hgz : ¬ (mid : Int) < (m : Int) := by omega
  have hmx : Try.prog.follows .mixedOrders = true := by kernel_rfl
  obtain ⟨p1, hp1⟩ : ∃ p1, mid + m - 1 = p1 := ⟨_, rfl⟩
  have hp1z : (mid : Int) + (m : Int) - 1 = (p1 : Int) := by omega
  have hp1r : (p1 : Int) ≤ 2048 := by omega
  obtain ⟨PP, hPP⟩ : ∃ PP : Nat → Bool, PP = fun c => !ltAt xs (p1 - c) c := ⟨_, rfl⟩
  have HPP := hide hPP
  obtain ⟨st, hR⟩ : ∃ R, bsF PP (m - a) a m = R := ⟨_, rfl⟩
  have hst : a ≤ st ∧ st ≤ m := by have := bsF_range PP (m - a) a m (by omega); rw [hR] at this; exact this
  obtain ⟨en, hen⟩ : ∃ en, mid + m - st = en := ⟨_, rfl⟩
  have henr : en ≤ b ∧ mid ≤ en ∧ m ≤ en + m := by omega
  obtain ⟨x1, hx1⟩ : ∃ x1, (if st < m ∧ m < en then rotM xs st m en else xs) = x1 := ⟨_, rfl⟩
  obtain ⟨x2, hx2⟩ : ∃ x2, (if a < st ∧ st < mid then symF f x1 a st mid else x1) = x2 := ⟨_, rfl⟩
  have HX1 : Hid (x1 = if st < m ∧ m < en then rotM xs st m en else xs) := hide hx1.symm
  have HX2 : Hid (x2 = if a < st ∧ st < mid then symF f x1 a st mid else x1) := hide hx2.symm
  have HSY : Hid (symF (f + 1) xs a m b = if mid < en ∧ en < b then symF f x2 mid en b else x2) := hide (by
    rw [← hx2, ← hx1, ← hen, ← hR, hPP, ← hp1]
    rw [symF, if_neg (by omega), if_neg (by omega)]
    simp only [hmid]
    rw [if_neg hgt, if_neg hgt])
  have HL1 : Hid (x1.length = xs.length) := hide (by rw [← hx1]; split; · rw [rotM_len]
                                                     · rfl)
  have HL2 : Hid (x2.length = xs.length) := hide (by rw [← hx2]; split; · rw [symF_len]; exact unhide HL1
                                                     · exact unhide HL1)
  have HR0 := hide hR
  unfold cmpF
  clear h hb hl hPP hR hx1 hx2 ham hmb
  go_enter Try.func163, Try.ntmps163
  go_wp2_with fail
  go_loopg [20, 21] (m - a) (fun gk s10 s11 wx => ∃ (i j : Nat), s10 = .int .i64 i ∧ s11 = .int .i64 j ∧ i ≤ j ∧ a ≤ i ∧ j ≤ m ∧ j - i ≤ gk ∧ Hid (bsF PP gk i j = st) ∧ ShAt wx base g cap xs ∧ Mod (fun k => k = g) w wx)
  case atStart =>
    obtain ⟨q1, q2, q3⟩ := unhide HN
    exact ⟨a, m, by first | rfl | (congr 1; omega), by first | rfl | (congr 1; omega), by omega, Nat.le_refl _, Nat.le_refl _, by omega, HR0, unhide HS, Mod.refl _ _⟩
  case round =>
    obtain ⟨i, j, rfl, rfl, hij, hai, hjb, hgk, HR, hS, hM⟩ := hrel
    obtain ⟨q1, q2, q3⟩ := unhide HN
    by_cases hlt : i < j
    · have hltz : (i : Int) < (j : Int) := by omega
      have iz : (i : Int) ≤ 1024 := by omega
      have jz : (j : Int) ≤ 1024 := by omega
      obtain ⟨f, rfl⟩ : ∃ f, gk = f + 1 := ⟨gk - 1, by omega⟩
      obtain ⟨h0, hh1⟩ : ∃ h0, (i + j) / 2 = h0 := ⟨_, rfl⟩
      have hh0 : ((i : Int) + (j : Int)) / 2 = (h0 : Int) := by omega
      have hz1 : i ≤ h0 := by omega
      have hz2 : h0 < j := by omega
      obtain ⟨q0, hq0⟩ : ∃ q0 : Nat, p1 - h0 = q0 := ⟨_, rfl⟩
      have hq0z : (p1 : Int) - (h0 : Int) = (q0 : Int) := by omega
      have hq1 : q0 < b := by omega
      have hwq : IntKind.i64.wrap ((p1 : Int) - (h0 : Int)) = (q0 : Int) := by rw [IntKind.wrap_i64]; omega
      have hwq2 : IntKind.i64.wrap (q0 : Int) = (q0 : Int) := by rw [IntKind.wrap_i64]; omega
      obtain ⟨x, hx⟩ : ∃ x, xs[q0]? = some x := ⟨_, List.getElem?_eq_getElem (by omega)⟩
      obtain ⟨y, hy⟩ : ∃ y, xs[h0]? = some y := ⟨_, List.getElem?_eq_getElem (by omega)⟩
      obtain ⟨x0, x1⟩ := hS.two hx
      obtain ⟨y0, y1⟩ := hS.two hy
      have hgl := hS.lt.2
      have pz : ((q0 : Nat) : Int) < (xs.length : Int) := by omega
      have qz : ((h0 : Nat) : Int) < (xs.length : Int) := by omega
      have h0z : (h0 : Int) < (xs.length : Int) := by omega
      have h0w : (h0 : Int) ≤ 1024 := by omega
      have g0 := cell_grown (w := wr) (a := ⟨g, (q0) * 2, none⟩) hgl x0
      have g1 := cell_grown (w := wr) (a := ⟨g, (q0) * 2 + 1, none⟩) hgl x1
      have g2 := cell_grown (w := wr) (a := ⟨g, (h0) * 2, none⟩) hgl y0
      have g3 := cell_grown (w := wr) (a := ⟨g, (h0) * 2 + 1, none⟩) hgl y1
      have HLT : Hid (ltAt xs (q0) (h0) = decide (cmpS x y < 0)) := hide (by unfold ltAt; rw [hx, hy])
      have HC := hide (fun (n' : Nat) (os' : Array Obj) => cmp_grow x y (grow (wr.drewN n') os'))
      generalize hcv : cmpS x y = cv at HC HLT
      have HS2 := hide hS
      have HM2 := hide hM
      have HIX := hide (And.intro (And.intro hij hai) (And.intro hjb hgk))
      clear hS hM hx hy hcv x0 x1 y0 y1 HS
      by_cases hlv : cv < 0
      · have HR1 : Hid (bsF PP (f + 1) i j = bsF PP f i h0) := hide (by
          have hp : PP ((i + j) / 2) = false := by rw [hh1, unhide HPP]; simp only []; rw [hq0]; rw [unhide HLT]; simpa using hlv
          rw [bsF, if_pos hlt, if_neg (by rw [hp]; simp), hh1])
        have hdv : decide (cv < 0) = true := by simpa using hlv
        have hdn : (!decide (cv < 0)) = false := by simpa using hlv
        go_wp2_with fail
        go_quiet_grown (first | (go_at_call 150; exact Calls.grown_of (unhide HC _ _)))
        go_wp2_with fail
        have hB := below_grow wr nq osq
        have HS3 := hide ((unhide HS2).below hB)
        have HM3 := hide ((unhide HM2).trans (Mod.of_below (F := fun k => k = g) hB))
        clear hB
        go_roundg f
        case measure => omega
        case rel => exact ⟨i, h0, rfl, rfl, by omega, by omega, by omega, by omega, hide ((unhide HR1).symm.trans (unhide HR)), unhide HS3, unhide HM3⟩
      · have HR1 : Hid (bsF PP (f + 1) i j = bsF PP f (h0 + 1) j) := hide (by
          have hp : PP ((i + j) / 2) = true := by rw [hh1, unhide HPP]; simp only []; rw [hq0]; rw [unhide HLT]; simpa using hlv
          rw [bsF, if_pos hlt, if_pos hp, hh1])
        have hdv : decide (cv < 0) = false := by simpa using hlv
        have hdn : (!decide (cv < 0)) = true := by simpa using hlv
        go_wp2_with fail
        go_quiet_grown (first | (go_at_call 150; exact Calls.grown_of (unhide HC _ _)))
        go_wp2_with fail
        have hB := below_grow wr nq osq
        have HS3 := hide ((unhide HS2).below hB)
        have HM3 := hide ((unhide HM2).trans (Mod.of_below (F := fun k => k = g) hB))
        clear hB
        go_roundg f
        case measure => omega
        case rel => exact ⟨h0 + 1, j, by go_num, rfl, by omega, by omega, by omega, by omega, hide ((unhide HR1).symm.trans (unhide HR)), unhide HS3, unhide HM3⟩
    · have hltz : ¬ (i : Int) < (j : Int) := by omega
      obtain rfl : i = st := by rw [← unhide HR, bsF_done _ _ _ _ hlt]
      have hez : (mid : Int) + (m : Int) - (i : Int) = (en : Int) := by omega
      have iz : (i : Int) ≤ 1024 := by omega
      have ez : (en : Int) ≤ 2048 := by omega
      have HS2 := hide hS
      have HM2 := hide hM
      have HIX := hide (And.intro (And.intro hij hai) (And.intro hjb hgk))
      clear hS hM HS HR hij hai hjb hgk hlt
      go_upto_region 39 with fail
      go_cut [185] from 175 (fun s185 wx => s185 = .bool (decide (i < m ∧ m < en)) ∧ wx = wr)
      case first =>
        by_cases a1 : i < m
        · have a1z : (i : Int) < (m : Int) := by omega
          by_cases a2 : m < en
          · have a2z : (m : Int) < (en : Int) := by omega
            go_wp2_with fail
            go_meet
            case rel => exact ⟨by simp [a1, a2], rfl⟩
          · have a2z : ¬ (m : Int) < (en : Int) := by omega
            go_wp2_with fail
            go_meet
            case rel => exact ⟨by simp [a1, a2], rfl⟩
        · have a1z : ¬ (i : Int) < (m : Int) := by omega
          go_wp2_with fail
          go_meet
          case rel => exact ⟨by simp [a1], rfl⟩
      case rest =>
        obtain ⟨rfl, rfl⟩ := hcut
        go_upto_if 185 with fail
        go_cut [] from 175 (fun wx => Hid (ShAt wx base g cap x1 ∧ Mod (fun k => k = g) w wx))
        case first =>
          by_cases c1 : i < m ∧ m < en
          · have HC := hide (rotate_any (unhide HS2) i m en c1.1 c1.2 (by omega) (by omega))
            have HX : Hid (x1 = rotM xs i m en) := hide (by rw [unhide HX1, if_pos c1])
            rw [decide_eq_true c1]
            unfold cmpF at HC
            go_wp2_with (go_at_call 166; refine (unhide HC).mono ?_; rintro e w1 ⟨rfl, hs1, hm1⟩; have HS1 := hide hs1; have HM1 := hide hm1; clear hs1 hm1)
            go_meet
            case rel => exact hide ⟨by rw [unhide HX]; exact unhide HS1, (unhide HM2).trans (unhide HM1)⟩
          · have HX : Hid (x1 = xs) := hide (by rw [unhide HX1, if_neg c1])
            rw [decide_eq_false c1]
            go_wp2_with fail
            go_meet
            case rel => exact hide ⟨by rw [unhide HX]; exact unhide HS2, unhide HM2⟩
        case rest =>
          have H1 := hcut
          clear hcut HS2 HM2
          have hl1 := unhide HL1
          go_upto_region 41 with fail
          go_cut [199] from 175 (fun s199 wx => s199 = .bool (decide (a < i ∧ i < mid)) ∧ wx = wc)
          case first =>
            by_cases a1 : a < i
            · have a1z : (a : Int) < (i : Int) := by omega
              by_cases a2 : i < mid
              · have a2z : (i : Int) < (mid : Int) := by omega
                go_wp2_with fail
                go_meet
                case rel => exact ⟨by simp [a1, a2], rfl⟩
              · have a2z : ¬ (i : Int) < (mid : Int) := by omega
                go_wp2_with fail
                go_meet
                case rel => exact ⟨by simp [a1, a2], rfl⟩
            · have a1z : ¬ (a : Int) < (i : Int) := by omega
              go_wp2_with fail
              go_meet
              case rel => exact ⟨by simp [a1], rfl⟩
          case rest =>
            obtain ⟨rfl, rfl⟩ := hcut
            go_upto_if 199 with fail
            go_cut [] from 175 (fun wx => Hid (ShAt wx base g cap x2 ∧ Mod (fun k => k = g) w wx))
            case first =>
              by_cases c1 : a < i ∧ i < mid
              · have HC := hide (unhide IH x1 _ a i mid hl1 (unhide H1).1 c1.1 c1.2 (by omega) (by omega))
                have HX : Hid (x2 = symF f x1 a i mid) := hide (by rw [unhide HX2, if_pos c1])
                rw [decide_eq_true c1]
                unfold cmpF at HC
                go_wp2_with (go_at_call 163; refine (unhide HC).mono ?_; rintro e w1 ⟨rfl, hs1, hm1⟩; have HS1 := hide hs1; have HM1 := hide hm1; clear hs1 hm1)
                go_meet
                case rel => exact hide ⟨by rw [unhide HX]; exact unhide HS1, (unhide H1).2.trans (unhide HM1)⟩
              · have HX : Hid (x2 = x1) := hide (by rw [unhide HX2, if_neg c1])
                rw [decide_eq_false c1]
                go_wp2_with fail
                go_meet
                case rel => exact hide ⟨by rw [unhide HX]; exact (unhide H1).1, (unhide H1).2⟩
            case rest =>
              have H2 := hcut
              clear hcut H1
              have hl2 := unhide HL2
              go_upto_region 43 with fail
              go_cut [213] from 175 (fun s213 wx => s213 = .bool (decide (mid < en ∧ en < b)) ∧ wx = wc)
              case first =>
                by_cases a1 : mid < en
                · have a1z : (mid : Int) < (en : Int) := by omega
                  by_cases a2 : en < b
                  · have a2z : (en : Int) < (b : Int) := by omega
                    go_wp2_with fail
                    go_meet
                    case rel => exact ⟨by simp [a1, a2], rfl⟩
                  · have a2z : ¬ (en : Int) < (b : Int) := by omega
                    go_wp2_with fail
                    go_meet
                    case rel => exact ⟨by simp [a1, a2], rfl⟩
                · have a1z : ¬ (mid : Int) < (en : Int) := by omega
                  go_wp2_with fail
                  go_meet
                  case rel => exact ⟨by simp [a1], rfl⟩
              case rest =>
                obtain ⟨rfl, rfl⟩ := hcut
                by_cases c1 : mid < en ∧ en < b
                · have HC := hide (unhide IH x2 _ mid en b hl2 (unhide H2).1 c1.1 c1.2 (by omega) (by omega))
                  have HX : Hid (symF (f + 1) xs a m b = symF f x2 mid en b) := hide (by rw [unhide HSY, if_pos c1])
                  rw [decide_eq_true c1]
                  unfold cmpF at HC
                  go_wp2_with (go_at_call 163; refine (unhide HC).mono ?_; rintro e w1 ⟨rfl, hs1, hm1⟩; have HS1 := hide hs1; have HM1 := hide hm1; clear hs1 hm1)
                  go_end0
                  exact ⟨rfl, by rw [unhide HX]; exact unhide HS1, (unhide H2).2.trans (unhide HM1)⟩
                · have HX : Hid (symF (f + 1) xs a m b = x2) := hide (by rw [unhide HSY, if_neg c1])
                  rw [decide_eq_false c1]
                  go_wp2_with fail
                  go_end0
                  exact ⟨rfl, by rw [unhide HX]; exact (unhide H2).1, (unhide H2).2⟩

theorem sym_any : ∀ (f : Nat) {w : World} {base g cap : Nat} {xs : List ShA} (_ : ShAt w base g cap xs) (a m b : Nat) (_ : a < m) (_ : m < b) (_ : b ≤ xs.length) (_ : xs.length ≤ 1024) (_ : b - a ≤ f),
    Calls Try.prog 163 #[.slice (some ⟨g, 0, none⟩) xs.length cap, .int .i64 a, .int .i64 m, .int .i64 b, cmpF] w fun e w' => e = .returned (.tuple #[]) ∧ ShAt w' base g cap (symF f xs a m b) ∧ Mod (fun k => k = g) w w'
  | 0, _, _, _, _, _, _, a, m, b, h1, h2, _, _, hf => by omega
  | f + 1, w, base, g, cap, xs, h, a, m, b, h1, h2, hb, hl, hf => by
    by_cases e1 : m = a + 1
    · subst e1
      have := merge_one h a b h2 hb hl
      rw [symF, if_pos rfl]
      exact this
    · by_cases e2 : b = m + 1
      · subst e2
        have := merge_two h a m (by omega) hb hl
        rw [symF, if_neg e1, if_pos rfl]
        exact this
      · have IH : Hid (∀ (ys : List ShA) (W : World) (a' m' b' : Nat), ys.length = xs.length → ShAt W base g cap ys → a' < m' → m' < b' → b' ≤ xs.length → b' - a' ≤ f → Calls Try.prog 163 #[.slice (some ⟨g, 0, none⟩) xs.length cap, .int .i64 a', .int .i64 m', .int .i64 b', cmpF] W fun e w' => e = .returned (.tuple #[]) ∧ ShAt w' base g cap (symF f ys a' m' b') ∧ Mod (fun k => k = g) W w') := hide (fun ys W a' m' b' hy hS k1 k2 k3 k4 => by
          rw [← hy]
          exact sym_any f hS a' m' b' k1 k2 (by omega) (by omega) k4)
        by_cases hgt : (a + b) / 2 < m
        · exact sym_gt h f a m b ((a + b) / 2) (by omega) (by omega) hb hl hf rfl hgt IH
        · exact sym_le h f a m b ((a + b) / 2) (by omega) (by omega) hb hl hf rfl hgt IH
end Go.Proofs.Ytlbkoafeedlfaaa
