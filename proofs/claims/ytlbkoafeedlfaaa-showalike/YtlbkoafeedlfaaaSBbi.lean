/-
  The comparison of shown attributes. The insertion sort of shown attributes. The stable sort of shown attributes: rotate, which swaps ranges till all lies where it should.
-/
import Derived.Test.YtlbkoafeedlfaaaSBbh
import Derived.Lib.Bytealg
import Derived.Shelf.SlSortCmp.QuietGrown
namespace Go.Proofs.Ytlbkoafeedlfaaa
open Go.RowKit

def cmpS (x y : ShA) : Int := Lib.compareBytes x.name.data.toList y.name.data.toList

theorem run164 (a b : ByteArray) (w : World) : (callFunc 164 #[.string a, .string b]).run Try.prog w = .ok (.value (.int .i64 (Lib.compareBytes a.data.toList b.data.toList))) w := by
  rw [run_callFunc_extern Try.func164 (by kernel_rfl) (by kernel_rfl) (by kernel_rfl) (e := Extern.BytealgCompare.compare) (by kernel_rfl), Lib.run_compareString]
  rfl

set_option maxHeartbeats 1000000 in
theorem cmp157 (a b : ByteArray) (w : World) :
    Calls Try.prog 157 #[.string a, .string b] w fun e w' => e = .returned (.int .i64 (Lib.compareBytes a.data.toList b.data.toList)) ∧ w = w' := by
  have h := run164 a b
  generalize Lib.compareBytes a.data.toList b.data.toList = r at *
  go_enter Try.func157, Try.ntmps157
  go_wp2
  go_ret
  exact ⟨rfl, rfl⟩

theorem cmp151 (a b : ByteArray) (w : World) :
    Calls Try.prog 151 #[.string a, .string b] w fun e w' => e = .returned (.int .i64 (Lib.compareBytes a.data.toList b.data.toList)) ∧ w = w' := by
  have H := hide (cmp157 a b)
  generalize Lib.compareBytes a.data.toList b.data.toList = r at *
  go_enter Try.func151, Try.ntmps151
  go_wp2_with (go_at_call 157; refine (unhide H _).mono ?_; rintro e w' ⟨rfl, rfl⟩)
  go_ret
  exact ⟨rfl, rfl⟩

set_option maxHeartbeats 1000000 in
theorem cmp_any (x y : ShA) (w : World) :
    Calls Try.prog 150 #[.agg #[.string x.name, .string x.val], .agg #[.string y.name, .string y.val]] w fun e w' => e = .returned (.int .i64 (cmpS x y)) ∧ Below w.heap.size w w' := by
  have H := hide (cmp151 x.name y.name)
  unfold cmpS
  generalize Lib.compareBytes x.name.data.toList y.name.data.toList = r at *
  go_enter Try.func150, Try.ntmps150
  go_wp2_with (go_at_call 151; refine (unhide H _).mono ?_; rintro e w' ⟨rfl, rfl⟩)
  go_ret
  exact ⟨rfl, ((Below.refl _ w).alloc (Nat.le_refl _) _).alloc (by simp) _⟩
end Go.Proofs.Ytlbkoafeedlfaaa

namespace Go.Proofs.Ytlbkoafeedlfaaa
open Go.RowKit Go.Sort

set_option maxHeartbeats 1000000 in
theorem cmp_grow (x y : ShA) (w : World) :
    Calls Try.prog 150 #[.agg #[.string x.name, .string x.val], .agg #[.string y.name, .string y.val]] w fun e w' => e = .returned (.int .i64 (cmpS x y)) ∧ ∃ q os', w' = grow (w.drewN q) os' := by
  have H := hide (cmp151 x.name y.name)
  unfold cmpS
  generalize Lib.compareBytes x.name.data.toList y.name.data.toList = r at *
  go_enter Try.func150, Try.ntmps150
  go_wp2_with (go_at_call 151; refine (unhide H _).mono ?_; rintro e w' ⟨rfl, rfl⟩)
  go_ret
  exact ⟨rfl, 0, #[Obj.cells #[.string x.name, .string x.val] 173] ++ #[Obj.cells #[.string y.name, .string y.val] 173], by rw [← grow_grow, ← alloc_eq_grow, ← alloc_eq_grow]; rfl⟩

def ltAt (xs : List ShA) (p q : Nat) : Bool := match xs[p]?, xs[q]? with
  | some x, some y => decide (cmpS x y < 0)
  | _, _ => false
def insJ (a : Nat) : Nat → List ShA → List ShA
  | 0, xs => xs
  | j + 1, xs => if a < j + 1 ∧ ltAt xs (j + 1) j = true then insJ a j (swp xs (j + 1) j) else xs
theorem insJ_len (a : Nat) : ∀ (j : Nat) (xs : List ShA), (insJ a j xs).length = xs.length
  | 0, xs => rfl
  | j + 1, xs => by
    unfold insJ
    split
    · rw [insJ_len, swp_len]
    · rfl
theorem insJ_stop {a j : Nat} {xs : List ShA} (h : j ≤ a) : insJ a j xs = xs := by
  cases j with
  | zero => rfl
  | succ j => unfold insJ; rw [if_neg (by omega)]
theorem insJ_no {a j : Nat} {xs : List ShA} (h : ltAt xs (j + 1) j = false) : insJ a (j + 1) xs = xs := by
  unfold insJ; rw [if_neg (by simp [h])]
theorem insJ_yes {a j : Nat} {xs : List ShA} (h : ltAt xs (j + 1) j = true) (ha : a < j + 1) : insJ a (j + 1) xs = insJ a j (swp xs (j + 1) j) := by
  show (if a < j + 1 ∧ ltAt xs (j + 1) j = true then insJ a j (swp xs (j + 1) j) else xs) = _
  rw [if_pos ⟨ha, h⟩]
def insI (a : Nat) (xs : List ShA) : Nat → List ShA
  | 0 => xs
  | k + 1 => insJ a (a + 1 + k) (insI a xs k)
theorem insI_len (a : Nat) (xs : List ShA) (k : Nat) : (insI a xs k).length = xs.length := by induction k with | zero => rfl | succ k ih => rw [insI, insJ_len, ih]

def cmpF : Value := .func (.func 150) #[] #[]

theorem ShAt.below {w w' : World} {base g cap : Nat} {xs : List ShA} (h : ShAt w base g cap xs) (hb : Below w.heap.size w w') : ShAt w' base g cap xs := ownsRow_kept h (fun k hk => hb.block k (World.ownsRow.lt h k hk).2)
theorem ShAt.lt {w : World} {base g cap : Nat} {xs : List ShA} (h : ShAt w base g cap xs) : base ≤ g ∧ g < w.heap.size := World.ownsRow.lt h g rfl
theorem below_grow (w : World) (n : Nat) (os : Array Obj) : Below w.heap.size w (grow (w.drewN n) os) :=
  ⟨rfl, rfl, rfl, by simp [grow, World.drewN], fun k hk => heap_grow_old (w.drewN n) os hk⟩
theorem ShAt.drew {w : World} {base g cap : Nat} {xs : List ShA} (h : ShAt w base g cap xs) : ShAt w.drew base g cap xs := h

set_option maxRecDepth 100000 in
set_option maxHeartbeats 4000000 in
theorem ins_any {w : World} {base g cap : Nat} {xs : List ShA} (h : ShAt w base g cap xs) (a b : Nat) (hab : a ≤ b) (hb : b ≤ xs.length) (hl : xs.length ≤ 1024) :
    Calls Try.prog 162 #[.slice (some ⟨g, 0, none⟩) xs.length cap, .int .i64 a, .int .i64 b, cmpF] w fun e w' => e = .returned (.tuple #[]) ∧ ShAt w' base g cap (insI a xs (b - (a + 1))) ∧ Mod (fun k => k = g) w w' := by
  have HS := hide h
  clear h
  unfold cmpF
  have hA : (a : Int) ≤ 1024 := by omega
  go_enter Try.func162, Try.ntmps162
  go_wp2_with fail
  go_loopg [8] (b - (a + 1)) (fun gk s wx => ∃ k : Nat, s = .int .i64 ((a : Int) + 1 + k) ∧ k + gk = b - (a + 1) ∧ ShAt wx base g cap (insI a xs k) ∧ Mod (fun k => k = g) w wx)
  case atStart => exact ⟨0, by simp, by omega, unhide HS, Mod.refl _ _⟩
  case round =>
    obtain ⟨k, rfl, hkk, hS, hM⟩ := hrel
    have HSI := hide hS
    have HMI := hide hM
    clear hS hM
    obtain ⟨gk0, hgk0⟩ : ∃ x, x = gk := ⟨_, rfl⟩
    have HGK : Hid (k + gk0 = b - (a + 1) ∧ gk0 = gk) := hide ⟨by omega, hgk0⟩
    clear hgk0
    by_cases hk : a + 1 + k < b
    · have hkz : (a : Int) + 1 + (k : Int) < (b : Int) := by omega
      have HT := hide (show insI a xs (k + 1) = insJ a (a + 1 + k) (insI a xs k) from rfl)
      clear hkk
      go_wp2_with fail
      go_loopg [9] (a + 1 + k) (fun gj s wx => ∃ (j : Nat) (ys : List ShA), s = .int .i64 j ∧ j = gj ∧ j ≤ a + 1 + k ∧ ys.length = xs.length ∧ insJ a j ys = insI a xs (k + 1) ∧ ShAt wx base g cap ys ∧ Mod (fun k => k = g) w wx)
      case atStart => exact ⟨a + 1 + k, insI a xs k, by go_num, rfl, Nat.le_refl _, insI_len _ _ _, (unhide HT).symm, unhide HSI, unhide HMI⟩
      case round =>
        obtain ⟨j, ys, rfl, hjk, hji, hyl, hT, hS, hM⟩ := hrel
        have HT2 := hide hT
        have HS2 := hide hS
        have HM2 := hide hM
        have HJK := hide hjk
        have HYL := hide hyl
        have HJI := hide hji
        clear hT hM HT
        by_cases hja : a < j
        · have hjaz : (a : Int) < (j : Int) := by omega
          obtain ⟨j1, rfl⟩ : ∃ j1, j = j1 + 1 := ⟨j - 1, by omega⟩
          obtain ⟨x, hx⟩ : ∃ x, ys[j1 + 1]? = some x := ⟨_, List.getElem?_eq_getElem (by omega)⟩
          obtain ⟨y, hy⟩ : ∃ y, ys[j1]? = some y := ⟨_, List.getElem?_eq_getElem (by omega)⟩
          obtain ⟨x0, x1⟩ := hS.two hx
          obtain ⟨y0, y1⟩ := hS.two hy
          have hgl := hS.lt.2
          have hwp : IntKind.i64.wrap (j1 : Int) = (j1 : Int) := by rw [IntKind.wrap_i64]; omega
          have jz : (j1 : Int) + 1 < (xs.length : Int) := by omega
          have jz1 : (j1 : Int) < (xs.length : Int) := by omega
          have hjaz' : (a : Int) < (j1 : Int) + 1 := by omega
          have p0 : (0 : Int) ≤ (j1 : Int) + 1 := by omega
          have e0 : ((j1 : Int) + 1).toNat = j1 + 1 := by omega
          have g0 := cell_grown (w := wr) (a := ⟨g, (j1 + 1) * 2, none⟩) hgl x0
          have g1 := cell_grown (w := wr) (a := ⟨g, (j1 + 1) * 2 + 1, none⟩) hgl x1
          have g2 := cell_grown (w := wr) (a := ⟨g, j1 * 2, none⟩) hgl y0
          have g3 := cell_grown (w := wr) (a := ⟨g, j1 * 2 + 1, none⟩) hgl y1
          have hlt : ltAt ys (j1 + 1) j1 = decide (cmpS x y < 0) := by unfold ltAt; rw [hx, hy]
          have HLT := hide hlt
          have HC := hide (fun (n' : Nat) (os' : Array Obj) => cmp_grow x y (grow (wr.drewN n') os'))
          have HX := hide hx
          have HY := hide hy
          generalize hcv : cmpS x y = cv at HC HLT
          clear hS hlt hx hy hji hjk hcv hyl x0 x1 y0 y1
          have hmx : Try.prog.follows .mixedOrders = true := by kernel_rfl
          by_cases hlv : cv < 0
          · go_wp2_with fail
            go_quiet_grown (first | (go_at_call 150; exact Calls.grown_of (unhide HC _ _)))
            go_wp2_with fail
            have hB := below_grow wr nq osq
            have hS3 := (unhide HS2).below hB
            have hM3 := (unhide HM2).trans (Mod.of_below (F := fun k => k = g) hB)
            clear g0 g1 g2 g3
            generalize grow (wr.drewN nq) osq = w5 at *
            obtain ⟨x0, x1⟩ := hS3.two (unhide HX)
            obtain ⟨y0, y1⟩ := hS3.two (unhide HY)
            have fz := hS3.frozen
            have HW := hide (hS3.swap (unhide HX) (unhide HY))
            have HM3 := hide hM3
            have HT3 := hide (insJ_yes (a := a) (by rw [unhide HLT]; simpa using hlv) hja)
            have h1 : ¬ (j1 + 1 = j1) := by omega
            have h2 : ¬ (j1 = j1 + 1) := by omega
            clear hS3 hM3 hB
            go_big_region
            go_wp2
            go_roundg (gk - 1)
            case measure => have := unhide HJK; omega
            case rel => exact ⟨j1, swp ys (j1 + 1) j1, by go_num, by have := unhide HJK; omega, by have := unhide HJI; omega, by rw [swp_len]; exact unhide HYL, by rw [← unhide HT3]; exact unhide HT2, (unhide HW).1, (unhide HM3).trans (Mod.drewR (unhide HW).2)⟩
          · go_wp2_with fail
            go_quiet_grown (first | (go_at_call 150; exact Calls.grown_of (unhide HC _ _)))
            go_wp2_with fail
            have hB := below_grow wr nq osq
            have HS3 := hide ((unhide HS2).below hB)
            have HM3 := hide ((unhide HM2).trans (Mod.of_below (F := fun k => k = g) hB))
            have HT3 := hide ((insJ_no (a := a) (by rw [unhide HLT]; simpa using hlv)).symm.trans (unhide HT2))
            clear hB
            go_roundg (gk0 - 1)
            case measure => have := unhide HGK; omega
            case rel => exact ⟨k + 1, by go_num, by have := unhide HGK; omega, by rw [← unhide HT3]; exact unhide HS3, unhide HM3⟩
        · have hjaz : decide ((j : Int) > (a : Int)) = false := decide_eq_false (by omega)
          have hjaz' : ¬ (a : Int) < (j : Int) := by omega
          have HT3 := hide ((insJ_stop (a := a) (j := j) (xs := ys) (by omega)).symm.trans (unhide HT2))
          clear hS hyl hjk hji
          go_wp2_with fail
          go_big_region
          go_wp2
          go_roundg (gk0 - 1)
          case measure => have := unhide HGK; omega
          case rel => exact ⟨k + 1, by go_num, by have := unhide HGK; omega, by rw [← unhide HT3]; exact (unhide HS2).drew, Mod.drewR (unhide HM2)⟩
    · have hkz : ¬ (a : Int) + 1 + (k : Int) < (b : Int) := by omega
      obtain rfl : k = b - (a + 1) := by omega
      go_wp2_with fail
      go_end0
      exact ⟨rfl, unhide HSI, unhide HMI⟩
end Go.Proofs.Ytlbkoafeedlfaaa

namespace Go.Proofs.Ytlbkoafeedlfaaa
open Go.RowKit Go.Sort

def rotF : Nat → List ShA → Nat → Nat → Nat → List ShA
  | 0, xs, _, _, _ => xs
  | f + 1, xs, m, i, j => if i = j then swr xs (m - i) m i else if j < i then rotF f (swr xs (m - i) m j) m (i - j) j else rotF f (swr xs (m - i) (m + j - i) i) m i (j - i)
theorem rotF_len : ∀ (f : Nat) (xs : List ShA) (m i j : Nat), (rotF f xs m i j).length = xs.length
  | 0, _, _, _, _ => rfl
  | f + 1, xs, m, i, j => by
    rw [rotF]
    split
    · rw [swr_len]
    · split
      · rw [rotF_len, swr_len]
      · rw [rotF_len, swr_len]
def rotM (xs : List ShA) (a m b : Nat) : List ShA := rotF (b - a) xs m (m - a) (b - m)
theorem rotM_len (xs : List ShA) (a m b : Nat) : (rotM xs a m b).length = xs.length := rotF_len _ _ _ _ _

set_option maxHeartbeats 2000000 in
theorem rotate_any {w : World} {base g cap : Nat} {xs : List ShA} (h : ShAt w base g cap xs) (a m b : Nat) (ham : a < m) (hmb : m < b) (hb : b ≤ xs.length) (hl : xs.length ≤ 1024) :
    Calls Try.prog 166 #[.slice (some ⟨g, 0, none⟩) xs.length cap, .int .i64 a, .int .i64 m, .int .i64 b, cmpF] w fun e w' => e = .returned (.tuple #[]) ∧ ShAt w' base g cap (rotM xs a m b) ∧ Mod (fun k => k = g) w w' := by
  have HS := hide h
  have hA : (a : Int) ≤ 1024 := by omega
  have hMz : (m : Int) ≤ 1024 := by omega
  have hBz : (b : Int) ≤ 1024 := by omega
  have hamz : (a : Int) < (m : Int) := by omega
  have hmbz : (m : Int) < (b : Int) := by omega
  have HN := hide (And.intro (And.intro ham hmb) (And.intro hb hl))
  have HGO : Hid (∀ (ys : List ShA) (W : World) (p q n : Nat), ys.length = xs.length → ShAt W base g cap ys → p ≠ q → p + n ≤ xs.length → q + n ≤ xs.length → Calls Try.prog 168 #[.slice (some ⟨g, 0, none⟩) xs.length cap, .int .i64 p, .int .i64 q, .int .i64 n, cmpF] W fun e w' => e = .returned (.tuple #[]) ∧ ShAt w' base g cap (swr ys p q n) ∧ Mod (fun k => k = g) W w') := hide (fun ys W p q n hy hS hpq h1 h2 => by
    rw [← hy]; exact swapRange_any hS p q n cmpF hpq (by omega) (by omega) (by omega))
  clear h hb hl
  unfold cmpF at *
  go_enter Try.func166, Try.ntmps166
  go_wp2_with fail
  go_loopg [10, 11] (b - a) (fun gk s5 s6 wx => ∃ (i j : Nat) (ys : List ShA), s5 = .int .i64 i ∧ s6 = .int .i64 j ∧ 0 < i ∧ 0 < j ∧ i + j ≤ gk ∧ i ≤ m - a ∧ j ≤ b - m ∧ ys.length = xs.length ∧ Hid (rotF gk ys m i j = rotM xs a m b) ∧ ShAt wx base g cap ys ∧ Mod (fun k => k = g) w wx)
  case atStart =>
    refine ⟨m - a, b - m, xs, ?_, ?_, by omega, by omega, by omega, Nat.le_refl _, Nat.le_refl _, rfl, hide rfl, unhide HS, Mod.refl _ _⟩
    · congr 1; omega
    · congr 1; omega
  case round =>
    obtain ⟨i, j, ys, rfl, rfl, hi, hj, hij, him, hjb, hyl, HR, hS, hM⟩ := hrel
    obtain ⟨⟨ham', hmb'⟩, hb', hl'⟩ := unhide HN
    have HSY := hide hS
    have HMY := hide hM
    have iz : (i : Int) ≤ 1024 := by omega
    have jz : (j : Int) ≤ 1024 := by omega
    have iz0 : (0 : Int) < (i : Int) := by omega
    have jz0 : (0 : Int) < (j : Int) := by omega
    have imz : (i : Int) ≤ (m : Int) := by omega
    obtain ⟨f, rfl⟩ : ∃ f, gk = f + 1 := ⟨gk - 1, by omega⟩
    by_cases e : i = j
    · subst e
      have HE : Hid (rotM xs a m b = swr ys (m - i) m i) := hide (by rw [← unhide HR, rotF, if_pos rfl])
      have HC := hide (unhide HGO ys wr (m - i) m i hyl hS (by omega) (by omega) (by omega))
      rw [show ((m - i : Nat) : Int) = (m : Int) - (i : Int) by omega] at HC
      clear hS hM hij him hjb hyl ham' hmb' hb' hl'
      go_wp2_with (go_at_call 168; refine (unhide HC).mono ?_; rintro e w1 ⟨rfl, hs1, hm1⟩; have HS1 := hide hs1; have HM1 := hide hm1; clear hs1 hm1)
      go_end0
      exact ⟨rfl, by rw [unhide HE]; exact unhide HS1, (unhide HMY).trans (unhide HM1)⟩
    · by_cases hlt : j < i
      · have hltz : (j : Int) < (i : Int) := by omega
        have hne : ((i : Int) != (j : Int)) = true := by rw [bne_iff_ne]; omega
        have HE : Hid (rotF f (swr ys (m - i) m j) m (i - j) j = rotM xs a m b) := hide (by rw [← unhide HR, rotF, if_neg e, if_pos hlt])
        have HC := hide (unhide HGO ys wr (m - i) m j hyl hS (by omega) (by omega) (by omega))
        rw [show ((m - i : Nat) : Int) = (m : Int) - (i : Int) by omega] at HC
        have HY := hide hyl
        have HX := hide (And.intro hij (And.intro him hjb))
        have hne2 : ¬ (i : Int) = (j : Int) := by omega
        clear hS hM hij him hjb hyl ham' hmb' hb' hl'
        go_wp2_with (go_at_call 168; refine (unhide HC).mono ?_; rintro e w1 ⟨rfl, hs1, hm1⟩; have HS1 := hide hs1; have HM1 := hide hm1; clear hs1 hm1)
        go_roundg f
        case measure => omega
        case rel =>
          obtain ⟨q1, q2, q3⟩ := unhide HX
          exact ⟨i - j, j, _, by first | (congr 1; omega) | go_num, rfl, by omega, hj, by omega, by omega, q3, by rw [swr_len]; exact unhide HY, HE, unhide HS1, (unhide HMY).trans (unhide HM1)⟩
      · have hltz : (i : Int) < (j : Int) := by omega
        have hltz2 : ¬ (j : Int) < (i : Int) := by omega
        have hne : ((i : Int) != (j : Int)) = true := by rw [bne_iff_ne]; omega
        have HE : Hid (rotF f (swr ys (m - i) (m + j - i) i) m i (j - i) = rotM xs a m b) := hide (by rw [← unhide HR, rotF, if_neg e, if_neg hlt])
        have HC := hide (unhide HGO ys wr (m - i) (m + j - i) i hyl hS (by omega) (by omega) (by omega))
        rw [show ((m - i : Nat) : Int) = (m : Int) - (i : Int) by omega, show ((m + j - i : Nat) : Int) = (m : Int) + (j : Int) - (i : Int) by omega] at HC
        have HY := hide hyl
        have HX := hide (And.intro hij (And.intro him hjb))
        have hne2 : ¬ (i : Int) = (j : Int) := by omega
        clear hS hM hij him hjb hyl ham' hmb' hb' hl'
        go_wp2_with (go_at_call 168; refine (unhide HC).mono ?_; rintro e w1 ⟨rfl, hs1, hm1⟩; have HS1 := hide hs1; have HM1 := hide hm1; clear hs1 hm1)
        go_roundg f
        case measure => omega
        case rel =>
          obtain ⟨q1, q2, q3⟩ := unhide HX
          exact ⟨i, j - i, _, rfl, by first | (congr 1; omega) | go_num, hi, by omega, by omega, q2, by omega, by rw [swr_len]; exact unhide HY, HE, unhide HS1, (unhide HMY).trans (unhide HM1)⟩
end Go.Proofs.Ytlbkoafeedlfaaa
