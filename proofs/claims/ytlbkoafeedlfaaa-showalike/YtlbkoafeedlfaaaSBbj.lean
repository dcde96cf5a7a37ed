/-
  The stable sort of shown attributes: the merge of two neighbours in place, where one of them is a single attribute. The merge of two neighbours in place, where the second is a single attribute.
-/
import Derived.Test.YtlbkoafeedlfaaaSBbi
namespace Go.Proofs.Ytlbkoafeedlfaaa
open Go.RowKit Go.Sort

/-- The lowest place of i .. j at which P no longer holds, by halves. -/
def bsF (P : Nat → Bool) : Nat → Nat → Nat → Nat
  | 0, i, _ => i
  | f + 1, i, j => if i < j then (if P ((i + j) / 2) = true then bsF P f ((i + j) / 2 + 1) j else bsF P f i ((i + j) / 2)) else i
theorem bsF_range (P : Nat → Bool) : ∀ (f i j : Nat), i ≤ j → i ≤ bsF P f i j ∧ bsF P f i j ≤ j
  | 0, i, j, h => ⟨Nat.le_refl _, h⟩
  | f + 1, i, j, h => by
    rw [bsF]
    split
    · split
      · have := bsF_range P f ((i + j) / 2 + 1) j (by omega); omega
      · have := bsF_range P f i ((i + j) / 2) (by omega); omega
    · exact ⟨Nat.le_refl _, h⟩
theorem bsF_done (P : Nat → Bool) (f i j : Nat) (h : ¬ i < j) : bsF P f i j = i := by
  cases f with
  | zero => rfl
  | succ f => rw [bsF, if_neg h]
def mvU (xs : List ShA) (a : Nat) : Nat → List ShA
  | 0 => xs
  | n + 1 => swp (mvU xs a n) (a + n) (a + n + 1)
theorem mvU_len (xs : List ShA) (a n : Nat) : (mvU xs a n).length = xs.length := by induction n with | zero => rfl | succ n ih => rw [mvU, swp_len, ih]
def mvD (xs : List ShA) (m : Nat) : Nat → List ShA
  | 0 => xs
  | n + 1 => swp (mvD xs m n) (m - n) (m - n - 1)
theorem mvD_len (xs : List ShA) (m n : Nat) : (mvD xs m n).length = xs.length := by induction n with | zero => rfl | succ n ih => rw [mvD, swp_len, ih]

theorem shr1 (n : Nat) : (((n : Nat) : Int) >>> (1 : Nat)) = ((n / 2 : Nat) : Int) := by
  rw [Int.shiftRight_eq_div_pow]; simp

def one1 (xs : List ShA) (a b : Nat) : List ShA := mvU xs a (bsF (fun h => ltAt xs h a) (b - (a + 1)) (a + 1) b - 1 - a)

set_option maxRecDepth 100000 in
set_option maxHeartbeats 4000000 in
theorem merge_one {w : World} {base g cap : Nat} {xs : List ShA} (h : ShAt w base g cap xs) (a b : Nat) (hab : a + 1 < b) (hb : b ≤ xs.length) (hl : xs.length ≤ 1024) :
    Calls Try.prog 163 #[.slice (some ⟨g, 0, none⟩) xs.length cap, .int .i64 a, .int .i64 ((a : Int) + 1), .int .i64 b, cmpF] w fun e w' => e = .returned (.tuple #[]) ∧ ShAt w' base g cap (one1 xs a b) ∧ Mod (fun k => k = g) w w' := by
  have HS := hide h
  have HN := hide (And.intro hab (And.intro hb hl))
  have hA : (a : Int) ≤ 1024 := by omega
  have hBz : (b : Int) ≤ 1024 := by omega
  have hw0 : (a : Int) + 1 - (a : Int) = 1 := by omega
  have hmx : Try.prog.follows .mixedOrders = true := by kernel_rfl
  obtain ⟨PP, hPP⟩ : ∃ PP : Nat → Bool, PP = fun h => ltAt xs h a := ⟨_, rfl⟩
  have HPP := hide hPP
  obtain ⟨R, hR⟩ : ∃ R, bsF PP (b - (a + 1)) (a + 1) b = R := ⟨_, rfl⟩
  have HRR : Hid (one1 xs a b = mvU xs a (R - 1 - a)) := hide (by unfold one1; rw [← hR, hPP])
  have HRN : Hid (a + 1 ≤ R ∧ R ≤ b) := hide (by have := bsF_range PP (b - (a + 1)) (a + 1) b (by omega); rw [hR] at this; exact this)
  have HR0 := hide hR
  unfold cmpF
  clear h hab hb hl hPP hR
  go_enter Try.func163, Try.ntmps163
  go_wp2_with fail
  go_loopg [10, 11] (b - (a + 1)) (fun gk s10 s11 wx => ∃ (i j : Nat), s10 = .int .i64 i ∧ s11 = .int .i64 j ∧ i ≤ j ∧ a + 1 ≤ i ∧ j ≤ b ∧ j - i ≤ gk ∧ Hid (bsF PP gk i j = R) ∧ ShAt wx base g cap xs ∧ Mod (fun k => k = g) w wx)
  case atStart =>
    obtain ⟨q1, q2, q3⟩ := unhide HN
    exact ⟨a + 1, b, by simp, rfl, by omega, Nat.le_refl _, Nat.le_refl _, by omega, HR0, unhide HS, Mod.refl _ _⟩
  case round =>
    obtain ⟨i, j, rfl, rfl, hij, hai, hjb, hgk, HR, hS, hM⟩ := hrel
    obtain ⟨q1, q2, q3⟩ := unhide HN
    by_cases hlt : i < j
    · have hltz : (i : Int) < (j : Int) := by omega
      have iz : (i : Int) ≤ 1024 := by omega
      have jz : (j : Int) ≤ 1024 := by omega
      obtain ⟨f, rfl⟩ : ∃ f, gk = f + 1 := ⟨gk - 1, by omega⟩
      obtain ⟨h0, hh1⟩ : ∃ h0, (i + j) / 2 = h0 := ⟨_, rfl⟩
      have hh0 : ((i : Int) + (j : Int)) / 2 = (h0 : Int) := by omega
      have hz1 : i ≤ h0 := by omega
      have hz2 : h0 < j := by omega
      obtain ⟨x, hx⟩ : ∃ x, xs[h0]? = some x := ⟨_, List.getElem?_eq_getElem (by omega)⟩
      obtain ⟨y, hy⟩ : ∃ y, xs[a]? = some y := ⟨_, List.getElem?_eq_getElem (by omega)⟩
      obtain ⟨x0, x1⟩ := hS.two hx
      obtain ⟨y0, y1⟩ := hS.two hy
      have hgl := hS.lt.2
      have pz : ((h0 : Nat) : Int) < (xs.length : Int) := by omega
      have qz : ((a : Nat) : Int) < (xs.length : Int) := by omega
      have h0z : (h0 : Int) < (xs.length : Int) := by omega
      have h0w : (h0 : Int) ≤ 1024 := by omega
      have g0 := cell_grown (w := wr) (a := ⟨g, (h0) * 2, none⟩) hgl x0
      have g1 := cell_grown (w := wr) (a := ⟨g, (h0) * 2 + 1, none⟩) hgl x1
      have g2 := cell_grown (w := wr) (a := ⟨g, (a) * 2, none⟩) hgl y0
      have g3 := cell_grown (w := wr) (a := ⟨g, (a) * 2 + 1, none⟩) hgl y1
      have HLT : Hid (ltAt xs (h0) (a) = decide (cmpS x y < 0)) := hide (by unfold ltAt; rw [hx, hy])
      have HC := hide (fun (n' : Nat) (os' : Array Obj) => cmp_grow x y (grow (wr.drewN n') os'))
      generalize hcv : cmpS x y = cv at HC HLT
      have HS2 := hide hS
      have HM2 := hide hM
      have HIX := hide (And.intro (And.intro hij hai) (And.intro hjb hgk))
      clear hS hM hx hy hcv x0 x1 y0 y1 HS
      by_cases hlv : cv < 0
      · have HR1 : Hid (bsF PP (f + 1) i j = bsF PP f (h0 + 1) j) := hide (by
          have hp : PP ((i + j) / 2) = true := by rw [hh1, unhide HPP]; simp only []; rw [unhide HLT]; simpa using hlv
          rw [bsF, if_pos hlt, if_pos hp, hh1])
        go_wp2_with fail
        go_quiet_grown (first | (go_at_call 150; exact Calls.grown_of (unhide HC _ _)))
        go_wp2_with fail
        have hB := below_grow wr nq osq
        have HS3 := hide ((unhide HS2).below hB)
        have HM3 := hide ((unhide HM2).trans (Mod.of_below (F := fun k => k = g) hB))
        clear hB
        go_roundg f
        case measure => omega
        case rel => exact ⟨h0 + 1, j, by go_num, rfl, by omega, by omega, by omega, by omega, hide ((unhide HR1).symm.trans (unhide HR)), unhide HS3, unhide HM3⟩
      · have HR1 : Hid (bsF PP (f + 1) i j = bsF PP f i h0) := hide (by
          have hp : PP ((i + j) / 2) = false := by rw [hh1, unhide HPP]; simp only []; rw [unhide HLT]; simpa using hlv
          rw [bsF, if_pos hlt, if_neg (by rw [hp]; simp), hh1])
        go_wp2_with fail
        go_quiet_grown (first | (go_at_call 150; exact Calls.grown_of (unhide HC _ _)))
        go_wp2_with fail
        have hB := below_grow wr nq osq
        have HS3 := hide ((unhide HS2).below hB)
        have HM3 := hide ((unhide HM2).trans (Mod.of_below (F := fun k => k = g) hB))
        clear hB
        go_roundg f
        case measure => omega
        case rel => exact ⟨i, h0, rfl, rfl, by omega, by omega, by omega, by omega, hide ((unhide HR1).symm.trans (unhide HR)), unhide HS3, unhide HM3⟩
    · have hltz : ¬ (i : Int) < (j : Int) := by omega
      obtain rfl : i = R := by rw [← unhide HR, bsF_done _ _ _ _ hlt]
      obtain ⟨r1, r2⟩ := unhide HRN
      have iz : (i : Int) ≤ 1024 := by omega
      have HS2 := hide hS
      have HM2 := hide hM
      clear hS hM HS HR hij hai hjb hgk hlt
      go_wp2_with fail
      go_loopg [13] (i - 1 - a) (fun gk s13 wx => ∃ n : Nat, s13 = .int .i64 ((a : Int) + n) ∧ n + gk = i - 1 - a ∧ ShAt wx base g cap (mvU xs a n) ∧ Mod (fun k => k = g) w wx)
      case atStart => exact ⟨0, by simp, by omega, unhide HS2, unhide HM2⟩
      case round =>
        obtain ⟨n, rfl, hnk, hS, hM⟩ := hrel
        by_cases hn : a + n < i - 1
        · have hnz : (a : Int) + (n : Int) < (i : Int) - 1 := by omega
          have hlen := mvU_len xs a n
          obtain ⟨x, hx⟩ : ∃ x, (mvU xs a n)[a + n]? = some x := ⟨_, List.getElem?_eq_getElem (by omega)⟩
          obtain ⟨y, hy⟩ : ∃ y, (mvU xs a n)[a + n + 1]? = some y := ⟨_, List.getElem?_eq_getElem (by omega)⟩
          obtain ⟨x0, x1⟩ := hS.two hx
          obtain ⟨y0, y1⟩ := hS.two hy
          have fz := hS.frozen
          have HW := hide (hS.swap hx hy)
          have HM := hide hM
          obtain ⟨k, hk⟩ : ∃ k, a + n = k := ⟨_, rfl⟩
          have hkz : (a : Int) + (n : Int) = (k : Int) := by omega
          rw [hk] at x0 x1 y0 y1 HW
          have kl : (k : Int) < (xs.length : Int) := by omega
          have kl1 : (k : Int) + 1 < (xs.length : Int) := by omega
          have k0 : (0 : Int) ≤ (k : Int) + 1 := by omega
          have e0 : ((k : Int) + 1).toNat = k + 1 := by omega
          have h1 : ¬ (k = k + 1) := by omega
          have h2 : ¬ (k + 1 = k) := by omega
          have hnz' : (k : Int) < (i : Int) - 1 := by omega
          have HK : Hid (a + n = k ∧ n + gk = i - 1 - a) := hide ⟨hk, hnk⟩
          rw [hkz]
          clear hS hM hx hy hlen hnz hk hnk HS2 HM2
          go_wp2_with fail
          go_big_region
          go_wp2
          go_roundg (gk - 1)
          case measure => have := (unhide HK).2; omega
          case rel =>
            obtain ⟨k1, k2⟩ := unhide HK
            refine ⟨n + 1, ?_, by omega, ?_, (unhide HM).trans (Mod.drewR (unhide HW).2)⟩
            · first | (congr 1; omega) | go_num
            · rw [mvU, k1]; exact (unhide HW).1
        · have hnz : ¬ (a : Int) + (n : Int) < (i : Int) - 1 := by omega
          obtain rfl : n = i - 1 - a := by omega
          have HSF := hide hS
          have HMF := hide hM
          clear hS hM
          go_wp2_with fail
          refine bodyPost_ret (results_none rfl _ _ _) rfl ?_
          exact ⟨rfl, by rw [unhide HRR]; exact unhide HSF, unhide HMF⟩
end Go.Proofs.Ytlbkoafeedlfaaa

namespace Go.Proofs.Ytlbkoafeedlfaaa
open Go.RowKit Go.Sort

def one2 (xs : List ShA) (a m : Nat) : List ShA := mvD xs m (m - bsF (fun h => !ltAt xs m h) (m - a) a m)

set_option maxRecDepth 100000 in
set_option maxHeartbeats 4000000 in
theorem merge_two {w : World} {base g cap : Nat} {xs : List ShA} (h : ShAt w base g cap xs) (a m : Nat) (ham : a + 1 < m) (hb : m + 1 ≤ xs.length) (hl : xs.length ≤ 1024) :
    Calls Try.prog 163 #[.slice (some ⟨g, 0, none⟩) xs.length cap, .int .i64 a, .int .i64 m, .int .i64 ((m : Int) + 1), cmpF] w fun e w' => e = .returned (.tuple #[]) ∧ ShAt w' base g cap (one2 xs a m) ∧ Mod (fun k => k = g) w w' := by
  have HS := hide h
  have HN := hide (And.intro ham (And.intro hb hl))
  have hA : (a : Int) ≤ 1024 := by omega
  have hMz : (m : Int) ≤ 1024 := by omega
  have hw0 : (m : Int) + 1 - (m : Int) = 1 := by omega
  have hw1 : ¬ ((m : Int) - (a : Int) = 1) := by omega
  have hw2 : (((m : Int) - (a : Int)) == 1) = false := by rw [beq_eq_false_iff_ne]; omega
  have hmx : Try.prog.follows .mixedOrders = true := by kernel_rfl
  obtain ⟨PP, hPP⟩ : ∃ PP : Nat → Bool, PP = fun h => !ltAt xs m h := ⟨_, rfl⟩
  have HPP := hide hPP
  obtain ⟨R, hR⟩ : ∃ R, bsF PP (m - a) a m = R := ⟨_, rfl⟩
  have HRR : Hid (one2 xs a m = mvD xs m (m - R)) := hide (by unfold one2; rw [← hR, hPP])
  have HRN : Hid (a ≤ R ∧ R ≤ m) := hide (by have := bsF_range PP (m - a) a m (by omega); rw [hR] at this; exact this)
  have HR0 := hide hR
  unfold cmpF
  clear h ham hb hl hPP hR
  go_enter Try.func163, Try.ntmps163
  go_wp2_with fail
  go_loopg [14, 15] (m - a) (fun gk s10 s11 wx => ∃ (i j : Nat), s10 = .int .i64 i ∧ s11 = .int .i64 j ∧ i ≤ j ∧ a ≤ i ∧ j ≤ m ∧ j - i ≤ gk ∧ Hid (bsF PP gk i j = R) ∧ ShAt wx base g cap xs ∧ Mod (fun k => k = g) w wx)
  case atStart =>
    obtain ⟨q1, q2, q3⟩ := unhide HN
    exact ⟨a, m, rfl, rfl, by omega, Nat.le_refl _, Nat.le_refl _, by omega, HR0, unhide HS, Mod.refl _ _⟩
  case round =>
    obtain ⟨i, j, rfl, rfl, hij, hai, hjb, hgk, HR, hS, hM⟩ := hrel
    obtain ⟨q1, q2, q3⟩ := unhide HN
    by_cases hlt : i < j
    · have hltz : (i : Int) < (j : Int) := by omega
      have iz : (i : Int) ≤ 1024 := by omega
      have jz : (j : Int) ≤ 1024 := by omega
      obtain ⟨f, rfl⟩ : ∃ f, gk = f + 1 := ⟨gk - 1, by omega⟩
      obtain ⟨h0, hh1⟩ : ∃ h0, (i + j) / 2 = h0 := ⟨_, rfl⟩
      have hh0 : ((i : Int) + (j : Int)) / 2 = (h0 : Int) := by omega
      have hz1 : i ≤ h0 := by omega
      have hz2 : h0 < j := by omega
      obtain ⟨x, hx⟩ : ∃ x, xs[m]? = some x := ⟨_, List.getElem?_eq_getElem (by omega)⟩
      obtain ⟨y, hy⟩ : ∃ y, xs[h0]? = some y := ⟨_, List.getElem?_eq_getElem (by omega)⟩
      obtain ⟨x0, x1⟩ := hS.two hx
      obtain ⟨y0, y1⟩ := hS.two hy
      have hgl := hS.lt.2
      have pz : ((m : Nat) : Int) < (xs.length : Int) := by omega
      have qz : ((h0 : Nat) : Int) < (xs.length : Int) := by omega
      have h0z : (h0 : Int) < (xs.length : Int) := by omega
      have h0w : (h0 : Int) ≤ 1024 := by omega
      have g0 := cell_grown (w := wr) (a := ⟨g, (m) * 2, none⟩) hgl x0
      have g1 := cell_grown (w := wr) (a := ⟨g, (m) * 2 + 1, none⟩) hgl x1
      have g2 := cell_grown (w := wr) (a := ⟨g, (h0) * 2, none⟩) hgl y0
      have g3 := cell_grown (w := wr) (a := ⟨g, (h0) * 2 + 1, none⟩) hgl y1
      have HLT : Hid (ltAt xs (m) (h0) = decide (cmpS x y < 0)) := hide (by unfold ltAt; rw [hx, hy])
      have HC := hide (fun (n' : Nat) (os' : Array Obj) => cmp_grow x y (grow (wr.drewN n') os'))
      generalize hcv : cmpS x y = cv at HC HLT
      have HS2 := hide hS
      have HM2 := hide hM
      have HIX := hide (And.intro (And.intro hij hai) (And.intro hjb hgk))
      clear hS hM hx hy hcv x0 x1 y0 y1 HS
      by_cases hlv : cv < 0
      · have HR1 : Hid (bsF PP (f + 1) i j = bsF PP f i h0) := hide (by
          have hp : PP ((i + j) / 2) = false := by rw [hh1, unhide HPP]; simp only []; rw [unhide HLT]; simpa using hlv
          rw [bsF, if_pos hlt, if_neg (by rw [hp]; simp), hh1])
        have hdv : decide (cv < 0) = true := by simpa using hlv
        have hdn : (!decide (cv < 0)) = false := by simpa using hlv
        go_wp2_with fail
        go_quiet_grown (first | (go_at_call 150; exact Calls.grown_of (unhide HC _ _)))
        go_wp2_with fail
        have hB := below_grow wr nq osq
        have HS3 := hide ((unhide HS2).below hB)
        have HM3 := hide ((unhide HM2).trans (Mod.of_below (F := fun k => k = g) hB))
        clear hB
        go_roundg f
        case measure => omega
        case rel => exact ⟨i, h0, rfl, rfl, by omega, by omega, by omega, by omega, hide ((unhide HR1).symm.trans (unhide HR)), unhide HS3, unhide HM3⟩
      · have HR1 : Hid (bsF PP (f + 1) i j = bsF PP f (h0 + 1) j) := hide (by
          have hp : PP ((i + j) / 2) = true := by rw [hh1, unhide HPP]; simp only []; rw [unhide HLT]; simpa using hlv
          rw [bsF, if_pos hlt, if_pos hp, hh1])
        have hdv : decide (cv < 0) = false := by simpa using hlv
        have hdn : (!decide (cv < 0)) = true := by simpa using hlv
        go_wp2_with fail
        go_quiet_grown (first | (go_at_call 150; exact Calls.grown_of (unhide HC _ _)))
        go_wp2_with fail
        have hB := below_grow wr nq osq
        have HS3 := hide ((unhide HS2).below hB)
        have HM3 := hide ((unhide HM2).trans (Mod.of_below (F := fun k => k = g) hB))
        clear hB
        go_roundg f
        case measure => omega
        case rel => exact ⟨h0 + 1, j, by go_num, rfl, by omega, by omega, by omega, by omega, hide ((unhide HR1).symm.trans (unhide HR)), unhide HS3, unhide HM3⟩
    · have hltz : ¬ (i : Int) < (j : Int) := by omega
      obtain rfl : i = R := by rw [← unhide HR, bsF_done _ _ _ _ hlt]
      obtain ⟨r1, r2⟩ := unhide HRN
      have iz : (i : Int) ≤ 1024 := by omega
      have HS2 := hide hS
      have HM2 := hide hM
      clear hS hM HS HR hij hai hjb hgk hlt
      go_wp2_with fail
      go_loopg [17] (m - i) (fun gk s17 wx => ∃ n : Nat, s17 = .int .i64 ((m : Int) - n) ∧ n + gk = m - i ∧ ShAt wx base g cap (mvD xs m n) ∧ Mod (fun k => k = g) w wx)
      case atStart => exact ⟨0, by simp, by omega, unhide HS2, unhide HM2⟩
      case round =>
        obtain ⟨n, rfl, hnk, hS, hM⟩ := hrel
        by_cases hn : i < m - n
        · have hlen := mvD_len xs m n
          obtain ⟨k, hk⟩ : ∃ k, m - n = k + 1 := ⟨m - n - 1, by omega⟩
          have hkz : (m : Int) - (n : Int) = (k : Int) + 1 := by omega
          obtain ⟨x, hx⟩ : ∃ x, (mvD xs m n)[k + 1]? = some x := ⟨_, List.getElem?_eq_getElem (by omega)⟩
          obtain ⟨y, hy⟩ : ∃ y, (mvD xs m n)[k]? = some y := ⟨_, List.getElem?_eq_getElem (by omega)⟩
          obtain ⟨x0, x1⟩ := hS.two hx
          obtain ⟨y0, y1⟩ := hS.two hy
          have fz := hS.frozen
          have HW := hide (hS.swap hx hy)
          have HM := hide hM
          have kl : (k : Int) < (xs.length : Int) := by omega
          have kl1 : (k : Int) + 1 < (xs.length : Int) := by omega
          have k0 : (0 : Int) ≤ (k : Int) + 1 := by omega
          have e0 : ((k : Int) + 1).toNat = k + 1 := by omega
          have hwp : IntKind.i64.wrap (k : Int) = (k : Int) := by rw [IntKind.wrap_i64]; omega
          have h1 : ¬ (k = k + 1) := by omega
          have h2 : ¬ (k + 1 = k) := by omega
          have hnz' : (i : Int) < (k : Int) + 1 := by omega
          have HK : Hid (m - n = k + 1 ∧ n + gk = m - i) := hide ⟨hk, hnk⟩
          rw [hkz]
          clear hS hM hx hy hlen hn hk hnk HS2 HM2
          go_wp2_with fail
          go_big_region
          go_wp2
          go_roundg (gk - 1)
          case measure => have := (unhide HK); omega
          case rel =>
            obtain ⟨k1, k2⟩ := unhide HK
            refine ⟨n + 1, ?_, by omega, ?_, (unhide HM).trans (Mod.drewR (unhide HW).2)⟩
            · first | (congr 1; omega) | go_num
            · rw [mvD, k1]; exact (unhide HW).1
        · have hnz : ¬ (i : Int) < (m : Int) - (n : Int) := by omega
          obtain rfl : n = m - i := by omega
          have HSF := hide hS
          have HMF := hide hM
          clear hS hM
          go_wp2_with fail
          refine bodyPost_ret (results_none rfl _ _ _) rfl ?_
          exact ⟨rfl, by rw [unhide HRR]; exact unhide HSF, unhide HMF⟩
end Go.Proofs.Ytlbkoafeedlfaaa
