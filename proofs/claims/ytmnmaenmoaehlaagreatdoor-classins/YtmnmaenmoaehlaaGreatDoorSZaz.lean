/-
  Comments: which the program takes. Comments, by the document. The program's and the document's comments are the same.
-/
import Derived.Test.YtmnmaenmoaehlaaGreatDoorSZat
import Derived.Test.YtmnmaenmoaehlaaGreatDoorSZay
namespace Go.Proofs.YtmnmaenmoaehlaaGreatDoor
open Go.RowKit Go.Lib

def okComP (s : ByteArray) : Bool := plainU s.data.toList && !Lib.contains s.data.toList (⟨#[45, 45]⟩ : ByteArray).data.toList && !Lib.hasPrefix s.data.toList (⟨#[62]⟩ : ByteArray).data.toList && !Lib.hasPrefix s.data.toList (⟨#[45, 62]⟩ : ByteArray).data.toList && !Lib.hasSuffix s.data.toList (⟨#[45]⟩ : ByteArray).data.toList

set_option maxHeartbeats 4000000 in
theorem isPlainComment_any (n : NodeM) (a : Option Addr) (cap : Nat) (w : World) (hs : n.data.size < 4294967281) (hg : GV w) : Calls Tryz.prog 57 #[nodW n a cap] w fun e w' => e = .returned (.bool (okComP n.data)) ∧ Below w.heap.size w w' := by
  have HB := hide (below_new w (nodeB n a cap))
  have HG := hide (fun W hb => cplain_any n.data W hs (hg.below hb))
  have HC : Hid (∀ W, Below w.heap.size w W → Calls Tryz.prog 82 #[.string n.data, .string ⟨#[45, 45]⟩] W fun e w' => e = .returned (.bool (Lib.contains n.data.data.toList (⟨#[45, 45]⟩ : ByteArray).data.toList)) ∧ w' = W) := hide (fun W hb => by
    obtain ⟨m, hm⟩ := (hg.below hb).cell
    exact Any.strings_Contains Tryz.lays144 n.data ⟨#[45, 45]⟩ m W hs hm)
  have HP : Hid (∀ p W, Calls Tryz.prog 83 #[.string n.data, .string p] W fun e w' => e = .returned (.bool (Lib.hasPrefix n.data.data.toList p.data.toList)) ∧ w' = W) := hide (fun p W => Any.strings_HasPrefix Tryz.lays99 n.data p W)
  have HS : Hid (∀ p W, Calls Tryz.prog 84 #[.string n.data, .string p] W fun e w' => e = .returned (.bool (Lib.hasSuffix n.data.data.toList p.data.toList)) ∧ w' = W) := hide (fun p W => Any.strings_HasSuffix Tryz.lays100 n.data p W (by omega))
  have HK : Hid (∀ W, Below (w.alloc (nodeB n a cap)).heap.size (w.alloc (nodeB n a cap)) W → W.cell? ⟨w.heap.size, 4, none⟩ = some (.string n.data)) := hide (fun W hb => cell_row _ _ 4 _ _ _ ((hb.block _ (by simp)).trans (heap_alloc_new w _)))
  clear hg
  unfold nodeB at HB HK
  unfold nodW
  cases h1 : plainU n.data.data.toList
  · have HR : Hid (okComP n.data = false) := hide (by unfold okComP; rw [h1]; simp)
    go_enter Tryz.func57, Tryz.ntmps57
    go_wp2_with (go_at_call 81; refine ((unhide HG) _ (unhide HB)).mono ?_; rintro e w1 ⟨rfl, hb⟩; rw [h1]; have c4 := (unhide HK) _ hb; have HB1 := hide ((unhide HB).trans (hb.mono (unhide HB).size)); clear hb)
    go_ret
    exact ⟨by rw [unhide HR]; rfl, unhide HB1⟩
  · cases h2 : Lib.contains n.data.data.toList (⟨#[45, 45]⟩ : ByteArray).data.toList
    · cases h3 : Lib.hasPrefix n.data.data.toList (⟨#[62]⟩ : ByteArray).data.toList
      · cases h4 : Lib.hasPrefix n.data.data.toList (⟨#[45, 62]⟩ : ByteArray).data.toList
        · cases h5 : Lib.hasSuffix n.data.data.toList (⟨#[45]⟩ : ByteArray).data.toList
          · have HR : Hid (okComP n.data = true) := hide (by unfold okComP; rw [h1, h2, h3, h4, h5]; simp)
            go_enter Tryz.func57, Tryz.ntmps57
            go_wp2_with (go_at_call 81; refine ((unhide HG) _ (unhide HB)).mono ?_; rintro e w1 ⟨rfl, hb⟩; rw [h1]; have c4 := (unhide HK) _ hb; have HB1 := hide ((unhide HB).trans (hb.mono (unhide HB).size)); clear hb)
            go_wp2_with (go_at_call 82; refine ((unhide HC) _ (unhide HB1)).mono ?_; rintro e w2 ⟨rfl, hw⟩; rw [hw, h2]; clear hw)
            go_wp2_with (go_at_call 83; refine ((unhide HP) _ _).mono ?_; rintro e w2 ⟨rfl, hw⟩; rw [hw]; clear hw; first | rw [h3] | rw [h4])
            go_wp2_with (go_at_call 84; refine ((unhide HS) _ _).mono ?_; rintro e w2 ⟨rfl, hw⟩; rw [hw, h5]; clear hw)
            go_ret
            exact ⟨by rw [unhide HR]; rfl, unhide HB1⟩
          · have HR : Hid (okComP n.data = false) := hide (by unfold okComP; rw [h1, h2, h3, h4, h5]; simp)
            go_enter Tryz.func57, Tryz.ntmps57
            go_wp2_with (go_at_call 81; refine ((unhide HG) _ (unhide HB)).mono ?_; rintro e w1 ⟨rfl, hb⟩; rw [h1]; have c4 := (unhide HK) _ hb; have HB1 := hide ((unhide HB).trans (hb.mono (unhide HB).size)); clear hb)
            go_wp2_with (go_at_call 82; refine ((unhide HC) _ (unhide HB1)).mono ?_; rintro e w2 ⟨rfl, hw⟩; rw [hw, h2]; clear hw)
            go_wp2_with (go_at_call 83; refine ((unhide HP) _ _).mono ?_; rintro e w2 ⟨rfl, hw⟩; rw [hw]; clear hw; first | rw [h3] | rw [h4])
            go_wp2_with (go_at_call 84; refine ((unhide HS) _ _).mono ?_; rintro e w2 ⟨rfl, hw⟩; rw [hw, h5]; clear hw)
            go_ret
            exact ⟨by rw [unhide HR]; rfl, unhide HB1⟩
        · have HR : Hid (okComP n.data = false) := hide (by unfold okComP; rw [h1, h2, h3, h4]; simp)
          go_enter Tryz.func57, Tryz.ntmps57
          go_wp2_with (go_at_call 81; refine ((unhide HG) _ (unhide HB)).mono ?_; rintro e w1 ⟨rfl, hb⟩; rw [h1]; have c4 := (unhide HK) _ hb; have HB1 := hide ((unhide HB).trans (hb.mono (unhide HB).size)); clear hb)
          go_wp2_with (go_at_call 82; refine ((unhide HC) _ (unhide HB1)).mono ?_; rintro e w2 ⟨rfl, hw⟩; rw [hw, h2]; clear hw)
          go_wp2_with (go_at_call 83; refine ((unhide HP) _ _).mono ?_; rintro e w2 ⟨rfl, hw⟩; rw [hw]; clear hw; first | rw [h3] | rw [h4])
          go_ret
          exact ⟨by rw [unhide HR]; rfl, unhide HB1⟩
      · have HR : Hid (okComP n.data = false) := hide (by unfold okComP; rw [h1, h2, h3]; simp)
        go_enter Tryz.func57, Tryz.ntmps57
        go_wp2_with (go_at_call 81; refine ((unhide HG) _ (unhide HB)).mono ?_; rintro e w1 ⟨rfl, hb⟩; rw [h1]; have c4 := (unhide HK) _ hb; have HB1 := hide ((unhide HB).trans (hb.mono (unhide HB).size)); clear hb)
        go_wp2_with (go_at_call 82; refine ((unhide HC) _ (unhide HB1)).mono ?_; rintro e w2 ⟨rfl, hw⟩; rw [hw, h2]; clear hw)
        go_wp2_with (go_at_call 83; refine ((unhide HP) ⟨#[62]⟩ _).mono ?_; rintro e w2 ⟨rfl, hw⟩; rw [hw, h3]; clear hw)
        go_ret
        exact ⟨by rw [unhide HR]; rfl, unhide HB1⟩
    · have HR : Hid (okComP n.data = false) := hide (by unfold okComP; rw [h1, h2]; simp)
      go_enter Tryz.func57, Tryz.ntmps57
      go_wp2_with (go_at_call 81; refine ((unhide HG) _ (unhide HB)).mono ?_; rintro e w1 ⟨rfl, hb⟩; rw [h1]; have c4 := (unhide HK) _ hb; have HB1 := hide ((unhide HB).trans (hb.mono (unhide HB).size)); clear hb)
      go_wp2_with (go_at_call 82; refine ((unhide HC) _ (unhide HB1)).mono ?_; rintro e w2 ⟨rfl, hw⟩; rw [hw, h2]; clear hw)
      go_ret
      exact ⟨by rw [unhide HR]; rfl, unhide HB1⟩
end Go.Proofs.YtmnmaenmoaehlaaGreatDoor

namespace Go.Proofs.YtmnmaenmoaehlaaGreatDoor
open Go.RowKit Go.Lib

def hasDD : List UInt8 → Bool
  | a :: b :: t => (a == 45 && b == 45) || hasDD (b :: t)
  | _ => false
def okComD (l : List UInt8) : Bool := plainU l && !(l.head? == some 62) && !(l.take 2 == [45, 62]) && !(l.getLast? == some 45) && !hasDD l
theorem dd_at : ∀ {l : List UInt8} {i : Nat}, l[i]? = some 45 → l[i + 1]? = some 45 → hasDD l = true
  | [], _, h, _ => by cases h
  | [a], 0, _, h => by cases h
  | [a], i + 1, h, _ => by simp at h
  | a :: b :: t, 0, h1, h2 => by
    simp at h1 h2
    subst h1; subst h2
    rfl
  | a :: b :: t, i + 1, h1, h2 => by
    have := dd_at (l := b :: t) (i := i) (by simpa using h1) (by simpa using h2)
    unfold hasDD
    rw [this, Bool.or_true]
theorem dd_no : ∀ {l : List UInt8}, (∀ i a b, l[i]? = some a → l[i + 1]? = some b → ¬ (a = 45 ∧ b = 45)) → hasDD l = false
  | [], _ => rfl
  | [a], _ => rfl
  | a :: b :: t, h => by
    have ih := dd_no (l := b :: t) (fun i x y hx hy => h (i + 1) x y (by simpa using hx) (by simpa using hy))
    have h0 := h 0 a b rfl rfl
    unfold hasDD
    rw [ih, Bool.or_false]
    cases ha : (a == 45) with
    | false => rfl
    | true =>
      cases hb : (b == 45) with
      | false => rfl
      | true => exact absurd ⟨by simpa using ha, by simpa using hb⟩ h0

set_option maxHeartbeats 8000000 in
set_option maxRecDepth 100000 in
theorem xcomment_any (s : ByteArray) (w : World) (hs : s.size ≤ 100000000) : Calls Tryz.prog 87 #[.string s] w fun e w' => e = .returned (.bool (okComD s.data.toList)) ∧ Below w.heap.size w w' := by
  have hn := len_data s
  have HX := hide (fun W => xplain_any s W hs)
  obtain ⟨q, hq⟩ : ∃ q, okComD s.data.toList = q := ⟨_, rfl⟩
  rw [hq]
  have HQ := hide hq
  clear hq
  cases hp : plainU s.data.toList
  · have HR : Hid (q = false) := hide (by rw [← unhide HQ]; unfold okComD; rw [hp]; rfl)
    clear hn
    go_enter Tryz.func87, Tryz.ntmps87
    go_wp2_with (go_at_call 61; refine ((unhide HX) _).mono ?_; rintro e w1 ⟨rfl, hb⟩; rw [hp]; have HB := hide hb; clear hb)
    go_ret
    exact ⟨by rw [unhide HR]; rfl, unhide HB⟩
  by_cases h0 : s.size = 0
  · have he : s.toList.isEmpty = true := by rw [toList_data, List.isEmpty_iff, ← List.length_eq_zero_iff, hn, h0]
    have hnil := List.length_eq_zero_iff.1 (hn.trans h0)
    have HR : Hid (q = true) := hide (by rw [← unhide HQ, hnil]; unfold okComD; rw [← hnil, hp, hnil]; rfl)
    have h2 : ¬ (2 : Int) ≤ (s.size : Int) := by omega
    have h1 : ¬ ((1 : Int) < (s.size : Int)) := by omega
    clear hn hnil
    go_enter Tryz.func87, Tryz.ntmps87
    go_wp2_with (go_at_call 61; refine ((unhide HX) _).mono ?_; rintro e w1 ⟨rfl, hb⟩; rw [hp]; have HB := hide hb; clear hb)
    go_loopg [3] 1 (fun g v3 wx => v3 = .int .i64 0 ∧ wx = w1)
    case atStart => exact ⟨rfl, rfl⟩
    case round =>
      obtain ⟨rfl, rfl⟩ := hrel
      go_wp2
      go_ret
      exact ⟨by rw [unhide HR]; rfl, unhide HB⟩
  have he : s.toList.isEmpty = false := by
    rw [toList_data, Bool.eq_false_iff]
    intro h
    rw [List.isEmpty_iff, ← List.length_eq_zero_iff, hn] at h
    exact h0 h
  have hi0 : 0 < s.size := by omega
  obtain ⟨c0, hc0⟩ : ∃ c0 : UInt8, s[0]'hi0 = c0 := ⟨_, rfl⟩
  have hl0 : s.data.toList[0]? = some c0 := by rw [List.getElem?_eq_getElem (by rw [hn]; exact hi0), ← hc0]; rfl
  have hhd : s.data.toList.head? = some c0 := by rw [List.head?_eq_getElem?]; exact hl0
  by_cases h62 : c0 = 62
  · have hq0 : ((c0.toNat : Int) == 62) = true := by rw [h62]; rfl
    have HR : Hid (q = false) := hide (by rw [← unhide HQ]; unfold okComD; rw [hp, hhd, h62]; rfl)
    clear hn hl0 hhd h62
    go_enter Tryz.func87, Tryz.ntmps87
    go_wp2_with (go_at_call 61; refine ((unhide HX) _).mono ?_; rintro e w1 ⟨rfl, hb⟩; rw [hp]; have HB := hide hb; clear hb)
    go_ret
    exact ⟨by rw [unhide HR]; rfl, unhide HB⟩
  have hq0 : ((c0.toNat : Int) == 62) = false := by
    rw [beq_eq_false_iff_ne]
    intro e
    apply h62
    apply UInt8.toNat_inj.1
    show c0.toNat = 62
    omega
  have hil : s.size - 1 < s.size := by omega
  obtain ⟨c1, hc1⟩ : ∃ c1 : UInt8, s[s.size - 1]'hil = c1 := ⟨_, rfl⟩
  have hlast : s.data.toList.getLast? = some c1 := by
    rw [List.getLast?_eq_getElem?, hn, List.getElem?_eq_getElem (by rw [hn]; exact hil), ← hc1]
    rfl
  have hht : (s.extract 0 2).toList = s.data.toList.take 2 := by
    rw [toList_data, ByteArray.data_extract]
    simp
  have hne0 : ((some c0 : Option UInt8) == some 62) = false := by rw [beq_eq_false_iff_ne]; intro e; exact h62 (Option.some.inj e)
  by_cases h2 : (2 : Int) ≤ (s.size : Int)
  · cases hg2 : ((s.extract 0 2).toList == [45, 62])
    · have hht2 : (s.data.toList.take 2 == [45, 62]) = false := by rw [← hht]; exact hg2
      by_cases h45 : c1 = 45
      · have hq1 : ((c1.toNat : Int) == 45) = true := by rw [h45]; rfl
        have HR : Hid (q = false) := hide (by rw [← unhide HQ]; unfold okComD; rw [hp, hhd, hht2, hlast, hne0, h45]; rfl)
        clear hn hl0 hhd hlast hht hht2 hne0 h45
        go_enter Tryz.func87, Tryz.ntmps87
        go_wp2_with (go_at_call 61; refine ((unhide HX) _).mono ?_; rintro e w1 ⟨rfl, hb⟩; rw [hp]; have HB := hide hb; clear hb)
        go_ret
        exact ⟨by rw [unhide HR]; rfl, unhide HB⟩
      have hq1 : ((c1.toNat : Int) == 45) = false := by rw [beq_eq_false_iff_ne]; intro e; apply h45; apply UInt8.toNat_inj.1; show c1.toNat = 45; omega
      have hne1 : ((some c1 : Option UInt8) == some 45) = false := by rw [beq_eq_false_iff_ne]; intro e; exact h45 (Option.some.inj e)
      have HQ2 : Hid (q = !hasDD s.data.toList) := hide (by rw [← unhide HQ]; unfold okComD; rw [hp, hhd, hht2, hlast, hne0, hne1]; simp)
      have HN := hide hn
      clear hn hl0 hhd hlast hht hht2 hne0 hne1
      go_enter Tryz.func87, Tryz.ntmps87
      go_wp2_with (go_at_call 61; refine ((unhide HX) _).mono ?_; rintro e w1 ⟨rfl, hb⟩; rw [hp]; have HB := hide hb; clear hb)
      go_loopg [3] s.size (fun g v3 wx => ∃ i : Nat, i + g = s.size ∧ v3 = .int .i64 i ∧ wx = w1 ∧ ∀ k a b, k < i → s.data.toList[k]? = some a → s.data.toList[k + 1]? = some b → ¬ (a = 45 ∧ b = 45))
      case atStart => exact ⟨0, by omega, rfl, rfl, fun k _ _ hk => absurd hk (Nat.not_lt_zero _)⟩
      case round =>
        obtain ⟨i, hig, rfl, rfl, hno⟩ := hrel
        have HNO := hide hno
        clear hno
        by_cases hi : i + 1 < s.size
        · have hiz : (i : Int) + 1 < (s.size : Int) := by omega
          have hiz0 : (i : Int) < (s.size : Int) := by omega
          have hi0' : i < s.size := by omega
          obtain ⟨d0, hd0⟩ : ∃ d : UInt8, s[i]'hi0' = d := ⟨_, rfl⟩
          obtain ⟨d1, hd1⟩ : ∃ d : UInt8, s[i + 1]'hi = d := ⟨_, rfl⟩
          have hx0 : s.data.toList[i]? = some d0 := by rw [List.getElem?_eq_getElem (by rw [unhide HN]; exact hi0'), ← hd0]; rfl
          have hx1 : s.data.toList[i + 1]? = some d1 := by rw [List.getElem?_eq_getElem (by rw [unhide HN]; exact hi), ← hd1]; rfl
          have HG : Hid (¬ (d0 = 45 ∧ d1 = 45) → ∀ k a b, k < i + 1 → s.data.toList[k]? = some a → s.data.toList[k + 1]? = some b → ¬ (a = 45 ∧ b = 45)) := hide (fun hgd k a b hk ha hb => by
            by_cases e : k = i
            · subst e; rw [hx0] at ha; rw [hx1] at hb; cases ha; cases hb; exact hgd
            · exact (unhide HNO) k a b (by omega) ha hb)
          have HBAD : Hid (d0 = 45 ∧ d1 = 45 → q = false) := hide (fun ⟨e0, e1⟩ => by rw [unhide HQ2, dd_at (i := i) (by rw [hx0, e0]) (by rw [hx1, e1])]; rfl)
          clear hx0 hx1
          by_cases g0 : d0 = 45
          · have z0 : ((d0.toNat : Int) == 45) = true := by rw [g0]; rfl
            by_cases g1 : d1 = 45
            · have z1 : ((d1.toNat : Int) == 45) = true := by rw [g1]; rfl
              have HR := hide ((unhide HBAD) ⟨g0, g1⟩)
              clear g0 g1
              go_wp2
              go_ret
              exact ⟨by rw [unhide HR]; rfl, unhide HB⟩
            · have z1 : ((d1.toNat : Int) == 45) = false := by rw [beq_eq_false_iff_ne]; intro e; apply g1; apply UInt8.toNat_inj.1; show d1.toNat = 45; omega
              have HV := hide ((unhide HG) (fun e => g1 e.2))
              clear g0 g1
              go_wp2
              go_roundg (gk - 1)
              case measure => omega
              case rel => exact ⟨i + 1, by omega, by go_num, rfl, unhide HV⟩
          · have z0 : ((d0.toNat : Int) == 45) = false := by rw [beq_eq_false_iff_ne]; intro e; apply g0; apply UInt8.toNat_inj.1; show d0.toNat = 45; omega
            have HV := hide ((unhide HG) (fun e => g0 e.1))
            clear g0
            go_wp2
            go_roundg (gk - 1)
            case measure => omega
            case rel => exact ⟨i + 1, by omega, by go_num, rfl, unhide HV⟩
        · have hiz : ¬ (i : Int) + 1 < (s.size : Int) := by omega
          have HR : Hid (q = true) := hide (by
            rw [unhide HQ2, dd_no (fun k a b ha hb => (unhide HNO) k a b (by have := (List.getElem?_eq_some_iff.1 hb).1; rw [unhide HN] at this; omega) ha hb)]
            rfl)
          go_wp2
          go_ret
          exact ⟨by rw [unhide HR]; rfl, unhide HB⟩
    · have hht2 : (s.data.toList.take 2 == [45, 62]) = true := by rw [← hht]; exact hg2
      have HR : Hid (q = false) := hide (by rw [← unhide HQ]; unfold okComD; rw [hp, hhd, hht2, hne0]; rfl)
      clear hn hl0 hhd hlast hht hht2 hne0
      go_enter Tryz.func87, Tryz.ntmps87
      go_wp2_with (go_at_call 61; refine ((unhide HX) _).mono ?_; rintro e w1 ⟨rfl, hb⟩; rw [hp]; have HB := hide hb; clear hb)
      go_ret
      exact ⟨by rw [unhide HR]; rfl, unhide HB⟩
  · have hht2 : (s.data.toList.take 2 == [45, 62]) = false := by
      rw [beq_eq_false_iff_ne]
      intro e
      have := congrArg List.length e
      rw [List.length_take, hn] at this
      simp at this
      omega
    by_cases h45 : c1 = 45
    · have hq1 : ((c1.toNat : Int) == 45) = true := by rw [h45]; rfl
      have HR : Hid (q = false) := hide (by rw [← unhide HQ]; unfold okComD; rw [hp, hhd, hht2, hlast, hne0, h45]; rfl)
      clear hn hl0 hhd hlast hht hht2 hne0 h45
      go_enter Tryz.func87, Tryz.ntmps87
      go_wp2_with (go_at_call 61; refine ((unhide HX) _).mono ?_; rintro e w1 ⟨rfl, hb⟩; rw [hp]; have HB := hide hb; clear hb)
      go_ret
      exact ⟨by rw [unhide HR]; rfl, unhide HB⟩
    have hq1 : ((c1.toNat : Int) == 45) = false := by rw [beq_eq_false_iff_ne]; intro e; apply h45; apply UInt8.toNat_inj.1; show c1.toNat = 45; omega
    have hne1 : ((some c1 : Option UInt8) == some 45) = false := by rw [beq_eq_false_iff_ne]; intro e; exact h45 (Option.some.inj e)
    have HQ2 : Hid (q = !hasDD s.data.toList) := hide (by rw [← unhide HQ]; unfold okComD; rw [hp, hhd, hht2, hlast, hne0, hne1]; simp)
    have HN := hide hn
    clear hn hl0 hhd hlast hht hht2 hne0 hne1
    go_enter Tryz.func87, Tryz.ntmps87
    go_wp2_with (go_at_call 61; refine ((unhide HX) _).mono ?_; rintro e w1 ⟨rfl, hb⟩; rw [hp]; have HB := hide hb; clear hb)
    go_loopg [3] s.size (fun g v3 wx => ∃ i : Nat, i + g = s.size ∧ v3 = .int .i64 i ∧ wx = w1 ∧ ∀ k a b, k < i → s.data.toList[k]? = some a → s.data.toList[k + 1]? = some b → ¬ (a = 45 ∧ b = 45))
    case atStart => exact ⟨0, by omega, rfl, rfl, fun k _ _ hk => absurd hk (Nat.not_lt_zero _)⟩
    case round =>
      obtain ⟨i, hig, rfl, rfl, hno⟩ := hrel
      have HNO := hide hno
      clear hno
      by_cases hi : i + 1 < s.size
      · have hiz : (i : Int) + 1 < (s.size : Int) := by omega
        have hiz0 : (i : Int) < (s.size : Int) := by omega
        have hi0' : i < s.size := by omega
        obtain ⟨d0, hd0⟩ : ∃ d : UInt8, s[i]'hi0' = d := ⟨_, rfl⟩
        obtain ⟨d1, hd1⟩ : ∃ d : UInt8, s[i + 1]'hi = d := ⟨_, rfl⟩
        have hx0 : s.data.toList[i]? = some d0 := by rw [List.getElem?_eq_getElem (by rw [unhide HN]; exact hi0'), ← hd0]; rfl
        have hx1 : s.data.toList[i + 1]? = some d1 := by rw [List.getElem?_eq_getElem (by rw [unhide HN]; exact hi), ← hd1]; rfl
        have HG : Hid (¬ (d0 = 45 ∧ d1 = 45) → ∀ k a b, k < i + 1 → s.data.toList[k]? = some a → s.data.toList[k + 1]? = some b → ¬ (a = 45 ∧ b = 45)) := hide (fun hgd k a b hk ha hb => by
          by_cases e : k = i
          · subst e; rw [hx0] at ha; rw [hx1] at hb; cases ha; cases hb; exact hgd
          · exact (unhide HNO) k a b (by omega) ha hb)
        have HBAD : Hid (d0 = 45 ∧ d1 = 45 → q = false) := hide (fun ⟨e0, e1⟩ => by rw [unhide HQ2, dd_at (i := i) (by rw [hx0, e0]) (by rw [hx1, e1])]; rfl)
        clear hx0 hx1
        by_cases g0 : d0 = 45
        · have z0 : ((d0.toNat : Int) == 45) = true := by rw [g0]; rfl
          by_cases g1 : d1 = 45
          · have z1 : ((d1.toNat : Int) == 45) = true := by rw [g1]; rfl
            have HR := hide ((unhide HBAD) ⟨g0, g1⟩)
            clear g0 g1
            go_wp2
            go_ret
            exact ⟨by rw [unhide HR]; rfl, unhide HB⟩
          · have z1 : ((d1.toNat : Int) == 45) = false := by rw [beq_eq_false_iff_ne]; intro e; apply g1; apply UInt8.toNat_inj.1; show d1.toNat = 45; omega
            have HV := hide ((unhide HG) (fun e => g1 e.2))
            clear g0 g1
            go_wp2
            go_roundg (gk - 1)
            case measure => omega
            case rel => exact ⟨i + 1, by omega, by go_num, rfl, unhide HV⟩
        · have z0 : ((d0.toNat : Int) == 45) = false := by rw [beq_eq_false_iff_ne]; intro e; apply g0; apply UInt8.toNat_inj.1; show d0.toNat = 45; omega
          have HV := hide ((unhide HG) (fun e => g0 e.1))
          clear g0
          go_wp2
          go_roundg (gk - 1)
          case measure => omega
          case rel => exact ⟨i + 1, by omega, by go_num, rfl, unhide HV⟩
      · have hiz : ¬ (i : Int) + 1 < (s.size : Int) := by omega
        have HR : Hid (q = true) := hide (by
          rw [unhide HQ2, dd_no (fun k a b ha hb => (unhide HNO) k a b (by have := (List.getElem?_eq_some_iff.1 hb).1; rw [unhide HN] at this; omega) ha hb)]
          rfl)
        go_wp2
        go_ret
        exact ⟨by rw [unhide HR]; rfl, unhide HB⟩
end Go.Proofs.YtmnmaenmoaehlaaGreatDoor

namespace Go.Proofs.YtmnmaenmoaehlaaGreatDoor
open Go.Lib

theorem pre_one (l : List UInt8) (c : UInt8) : Lib.hasPrefix l [c] = (l.head? == some c) := by
  unfold Lib.hasPrefix
  cases l with
  | nil => rfl
  | cons a t => rw [Bool.eq_iff_iff]; simp [List.isPrefixOf]; exact eq_comm
theorem pre_two (l : List UInt8) (c d : UInt8) : Lib.hasPrefix l [c, d] = (l.take 2 == [c, d]) := by
  unfold Lib.hasPrefix
  match l with
  | [] => rfl
  | [a] => simp [List.isPrefixOf]
  | a :: b :: t => rw [Bool.eq_iff_iff]; simp [List.isPrefixOf]; exact and_congr eq_comm eq_comm
theorem suf_one (l : List UInt8) (c : UInt8) : Lib.hasSuffix l [c] = (l.getLast? == some c) := by
  unfold Lib.hasSuffix
  rw [Bool.eq_iff_iff, List.isSuffixOf_iff_suffix, beq_iff_eq]
  constructor
  · rintro ⟨a, rfl⟩; simp
  · intro h
    obtain ⟨a, rfl⟩ := List.getLast?_eq_some_iff.1 h
    exact ⟨a, rfl⟩
theorem occ_dd (l : List UInt8) (i : Nat) : Lib.occAt l [45, 45] i = true ↔ (l[i]? = some 45 ∧ l[i + 1]? = some 45) := by
  unfold Lib.occAt
  constructor
  · intro h
    have h2 : ([45, 45] : List UInt8) <+: l.drop i := by simpa using h
    obtain ⟨t, ht⟩ := h2
    have e0 := List.getElem?_drop (xs := l) (i := i) (j := 0)
    have e1 := List.getElem?_drop (xs := l) (i := i) (j := 1)
    rw [← ht] at e0 e1
    exact ⟨e0.symm, e1.symm⟩
  · rintro ⟨h0, h1⟩
    have hl := (List.getElem?_eq_some_iff.1 h1).1
    have hd : l.drop i = 45 :: 45 :: l.drop (i + 2) := by
      rw [List.drop_eq_getElem_cons (by omega), List.drop_eq_getElem_cons (i := i + 1) (by omega)]
      have a0 := (List.getElem?_eq_some_iff.1 h0).2
      have a1 := (List.getElem?_eq_some_iff.1 h1).2
      rw [a0, a1]
    simp [hd]
theorem con_dd (l : List UInt8) : Lib.contains l [45, 45] = hasDD l := by
  unfold Lib.contains
  rcases Lib.index_spec l [45, 45] with ⟨h1, h2⟩ | ⟨i, h1, _, h3, _⟩
  · rw [h1]
    have : hasDD l = false := dd_no (fun k a b ha hb => by
      rintro ⟨rfl, rfl⟩
      have := h2 k (by have := (List.getElem?_eq_some_iff.1 ha).1; omega)
      rw [(occ_dd l k).2 ⟨ha, hb⟩] at this
      cases this)
    rw [this]; rfl
  · rw [h1]
    obtain ⟨a, b⟩ := (occ_dd l i).1 h3
    rw [dd_at a b]
    simp
theorem okCom_eq (s : ByteArray) : okComP s = okComD s.data.toList := by
  unfold okComP okComD
  show (plainU s.data.toList && !Lib.contains s.data.toList [45, 45] && !Lib.hasPrefix s.data.toList [62] && !Lib.hasPrefix s.data.toList [45, 62] && !Lib.hasSuffix s.data.toList [45]) = _
  rw [con_dd, pre_one, pre_two, suf_one]
  generalize plainU s.data.toList = a
  generalize hasDD s.data.toList = b
  generalize (s.data.toList.head? == some 62) = c
  generalize (List.take 2 s.data.toList == [45, 62]) = d
  generalize (s.data.toList.getLast? == some 45) = e
  revert a b c d e
  decide
end Go.Proofs.YtmnmaenmoaehlaaGreatDoor
