/-
  The document's side: small, Blank, pass, begins, behind.
-/
import Derived.Test.YtmikcdmlhocgbaaDoorTc
namespace Go.Proofs.YtmikcdmlhocgbaaDoor
open Go.RowKit Go.Lib

theorem refSmall_any (c : UInt8) (w : World) : Calls Tryd.prog 45 #[.int .u8 c.toNat] w fun e w' => e = .returned (.int .u8 ((low c).toNat : Int)) ∧ w' = w := by
  by_cases h1 : (65 : Int) ≤ (c.toNat : Int)
  · by_cases h2 : (c.toNat : Int) ≤ 90
    · have HE := hide (low_cap c (by omega) (by omega))
      go_enter Tryd.func45, Tryd.ntmps45
      go_wp2
      go_ret
      exact ⟨congrArg (fun v => Ending.returned (Value.int .u8 v)) (by rw [unhide HE]), rfl⟩
    · have HE := hide (low_other c (by omega))
      go_enter Tryd.func45, Tryd.ntmps45
      go_wp2
      go_ret
      exact ⟨congrArg (fun v : UInt8 => Ending.returned (Value.int .u8 (v.toNat : Int))) (unhide HE).symm, rfl⟩
  · have HE := hide (low_other c (by omega))
    go_enter Tryd.func45, Tryd.ntmps45
    go_wp2
    go_ret
    exact ⟨congrArg (fun v : UInt8 => Ending.returned (Value.int .u8 (v.toNat : Int))) (unhide HE).symm, rfl⟩

theorem byte_ne (c k : UInt8) (hk : c ≠ k) : ((c.toNat : Int) == (k.toNat : Int)) = false := by
  rw [beq_eq_false_iff_ne]; intro e; apply hk; apply UInt8.toNat_inj.1; omega
theorem blank_any (c : UInt8) (w : World) : Calls Tryd.prog 24 #[.int .u8 c.toNat] w fun e w' => e = .returned (.bool (blankP c)) ∧ w' = w := by
  by_cases h9 : c = 9
  · subst h9; go_enter Tryd.func24, Tryd.ntmps24; go_wp2; go_ret; exact ⟨rfl, rfl⟩
  by_cases h10 : c = 10
  · subst h10; go_enter Tryd.func24, Tryd.ntmps24; go_wp2; go_ret; exact ⟨rfl, rfl⟩
  by_cases h12 : c = 12
  · subst h12; go_enter Tryd.func24, Tryd.ntmps24; go_wp2; go_ret; exact ⟨rfl, rfl⟩
  by_cases h13 : c = 13
  · subst h13; go_enter Tryd.func24, Tryd.ntmps24; go_wp2; go_ret; exact ⟨rfl, rfl⟩
  by_cases h32 : c = 32
  · subst h32; go_enter Tryd.func24, Tryd.ntmps24; go_wp2; go_ret; exact ⟨rfl, rfl⟩
  have b9 : ((c.toNat : Int) == 9) = false := byte_ne c 9 h9
  have b10 : ((c.toNat : Int) == 10) = false := byte_ne c 10 h10
  have b12 : ((c.toNat : Int) == 12) = false := byte_ne c 12 h12
  have b13 : ((c.toNat : Int) == 13) = false := byte_ne c 13 h13
  have b32 : ((c.toNat : Int) == 32) = false := byte_ne c 32 h32
  have HC : Hid (blankP c = false) := hide (by simp [blankP, blanks, h9, h10, h12, h13, h32])
  clear h9 h10 h12 h13 h32
  go_enter Tryd.func24, Tryd.ntmps24
  go_wp2
  go_ret
  exact ⟨by rw [unhide HC]; rfl, rfl⟩

structure Row (w : World) (b : Nat) (l : List UInt8) : Prop where
  cells : ∀ (i : Nat) x, l[i]? = some x → w.cell? ⟨b, i, none⟩ = some (.int .u8 (x.toNat : Int))
theorem Row.dn {w : World} {b : Nat} {l : List UInt8} (h : Row w b l) (n : Nat) : Row (w.drewN n) b l := ⟨h.cells⟩
theorem Row.at {w : World} {b : Nat} {l : List UInt8} (h : Row w b l) {i : Nat} (hi : i < l.length) : w.cell? ⟨b, i, none⟩ = some (.int .u8 (l[i].toNat : Int)) := h.cells i _ (List.getElem?_eq_getElem hi)
def Short (n : Nat) : Prop := (n : Int) < 281474976710656

section
variable {w : World} {b k cap : Nat} {l : List UInt8}
theorem refPass_any (h : Row w b l) (hk : k ≤ l.length) (hs : Short l.length) :
    Calls Tryd.prog 35 #[.slice (some ⟨b, 0, none⟩) l.length cap, .int .i64 k, .bool false] w fun e w' => e = .returned (.int .i64 (passP blankP l k)) ∧ ∃ n, w' = w.drewN n := by
  have HR := hide h
  have HS := hide hs
  have HK := hide hk
  clear h hs hk
  go_enter Tryd.func35, Tryd.ntmps35
  go_wp2
  go_loopg [1] (l.length + 1 - k) (fun g s1 wx => ∃ j : Nat, s1 = .int .i64 j ∧ j + g = l.length + 1 ∧ j ≤ l.length ∧ passP blankP l k = passP blankP l j ∧ ∃ n, wx = w.drewN n)
  case atStart => exact ⟨k, rfl, by have := unhide HK; omega, unhide HK, rfl, 0, rfl⟩
  case round =>
    obtain ⟨j, rfl, hjg, hjl, hp, n, rfl⟩ := hrel
    have HP := hide hp
    have HJ := hide (And.intro hjg hjl)
    by_cases hj : j < l.length
    · have hjz : (j : Int) < (l.length : Int) := by omega
      have hc := ((unhide HR).dn n).at hj
      have HB := hide (blank_any l[j])
      have hw : IntKind.i64.wrap ((j : Int) + 1) = (j : Int) + 1 := by have := unhide HS; unfold Short at this; exact wrap_add j 1 (by omega) (by omega)
      have HY := hide (fun h => passP_yes (p := blankP) (l := l) (k := j) h)
      have HN := hide (fun h => passP_no (p := blankP) (l := l) (k := j) h)
      have e1 : askP blankP l j = blankP l[j] := by unfold askP; rw [List.getElem?_eq_getElem hj]
      rw [e1] at HY HN
      generalize l[j] = c at hc HB HY HN
      clear hp hjg hjl e1 hj
      cases hb : blankP c with
      | true =>
        rw [hb] at HB
        have HY1 := hide ((unhide HY) hb)
        clear HY HN hb
        go_wp2_with (first | (go_at_call 24; refine ((unhide HB) _).mono ?_; rintro e w1 ⟨rfl, rfl⟩))
        go_roundg (gk - 1)
        case measure => have := unhide HJ; omega
        case rel => exact ⟨j + 1, by go_num, by have := unhide HJ; omega, by have := unhide HJ; omega, by rw [unhide HP, (unhide HY1).2], _, rfl⟩
      | false =>
        rw [hb] at HB
        have HN1 := hide ((unhide HN) hb)
        clear HY HN hb
        go_wp2_with (first | (go_at_call 24; refine ((unhide HB) _).mono ?_; rintro e w1 ⟨rfl, rfl⟩))
        go_ret
        rw [unhide HP, unhide HN1]
        exact ⟨rfl, _, rfl⟩
    · have hjz : ¬ (j : Int) < (l.length : Int) := by omega
      have HN := hide (passP_no (p := blankP) (l := l) (k := j) (by unfold askP; rw [List.getElem?_eq_none (by omega)]))
      clear hp hjg hjl hj
      go_wp2
      go_ret
      rw [unhide HP, unhide HN]
      exact ⟨rfl, _, rfl⟩

theorem sees_get {x : List UInt8} {j : Nat} (hx : k + x.length ≤ l.length) (hj : j < x.length) : (((l.drop k).take x.length).map low)[j]? = some (low (l[k + j]'(by omega))) := by
  rw [List.getElem?_map, List.getElem?_take, if_pos hj, List.getElem?_drop, List.getElem?_eq_getElem (by omega)]
  rfl
theorem refBegins_any (h : Row w b l) (hk : k ≤ l.length) (hs : Short l.length) (x : ByteArray) (hx0 : 0 < x.size) (hx : x.size ≤ 100) :
    Calls Tryd.prog 22 #[.slice (some ⟨b, 0, none⟩) l.length cap, .int .i64 k, .string x] w fun e w' => e = .returned (.bool (seesM l k x.data.toList)) ∧ ∃ n, w' = w.drewN n := by
  have HR := hide h
  unfold Short at hs
  have hw0 : IntKind.i64.wrap ((l.length : Int) - (k : Int)) = (l.length : Int) - (k : Int) := by
    simp [IntKind.wrap, IntKind.bits, IntKind.signed]
    omega
  have HW1 := hide (fun (j : Nat) (hj : j < x.size) => wrap_add j 1 (by omega) (by omega))
  have HW2 := hide (fun (j : Nat) (hj : j < x.size) => wrap_add k j (by omega) (by omega))
  by_cases hl : l.length < k + x.size
  · have hz : (l.length : Int) - (k : Int) < (x.size : Int) := by omega
    have HE : Hid (seesM l k x.data.toList = false) := hide (by
      cases hh : seesM l k x.data.toList with
      | false => rfl
      | true =>
        have := sees_fits hh (by rw [len_data]; exact hx0)
        rw [len_data] at this
        omega)
    clear h hs hx hk
    go_enter Tryd.func22, Tryd.ntmps22
    go_wp2
    go_ret
    rw [unhide HE]
    exact ⟨rfl, 0, rfl⟩
  · have hz : ¬ (l.length : Int) - (k : Int) < (x.size : Int) := by omega
    have HL := hide (show k + x.data.toList.length ≤ l.length by rw [len_data]; omega)
    clear h hs hx hk hl
    go_enter Tryd.func22, Tryd.ntmps22
    go_wp2
    go_loopg [7] x.size (fun g s5 wx => ∃ j : Nat, s5 = .int .i64 j ∧ j + g = x.size ∧ (∀ i, i < j → (((l.drop k).take x.data.toList.length).map low)[i]? = x.data.toList[i]?) ∧ ∃ n, wx = w.drewN n)
    case atStart => exact ⟨0, rfl, by omega, fun i hi => by omega, 0, rfl⟩
    case round =>
      obtain ⟨j, rfl, hjg, hpre, hwx⟩ := hrel
      have HP := hide hpre
      have HX := hide hwx
      have hrow : Row wr b l := by obtain ⟨n, e⟩ := hwx; rw [e]; exact (unhide HR).dn n
      clear hwx
      by_cases hj : j < x.size
      · have hjz : (j : Int) < (x.size : Int) := by omega
        have hw1 := (unhide HW1) j hj
        obtain ⟨m, hm⟩ : ∃ m : Nat, m = k + j := ⟨_, rfl⟩
        have hcast : (k : Int) + (j : Int) = (m : Int) := by omega
        have hw2 := (unhide HW2) j hj
        rw [hcast] at hw2
        have hml : m < l.length := by have := unhide HL; rw [len_data] at this; omega
        have hmz : (m : Int) < (l.length : Int) := by omega
        have hc := hrow.at hml
        have HA := hide (sees_get (unhide HL) (by rw [len_data]; exact hj))
        have em : l[k + j]'(by omega) = l[m]'hml := by simp only [hm]
        rw [em] at HA
        have HY : Hid (x.data.toList[j]? = some (x[j]'hj)) := hide (Lib.data_getElem? x j hj)
        obtain ⟨y, hy⟩ : ∃ y : UInt8, x[j]'hj = y := ⟨_, rfl⟩
        rw [hy] at HY
        have HSM := hide (refSmall_any (l[m]'hml))
        generalize l[m]'hml = c at hc HA HSM
        clear hpre hm em hml hrow
        by_cases hcy : low c = y
        · have hq : (((low c).toNat : Int) != (y.toNat : Int)) = false := by simp [hcy]
          have HE := hide hcy
          clear hcy
          go_wp2
          go_quiet ((go_at_call 45; exact Calls.quiet_of_same ((unhide HSM) _)))
          go_wp2
          go_roundg (gk - 1)
          case measure => omega
          case rel =>
            refine ⟨j + 1, by go_num, by omega, fun i hi => ?_, drewN_more (unhide HX) _⟩
            by_cases e : i = j
            · subst e; rw [unhide HA, unhide HY, unhide HE]
            · exact (unhide HP) i (by omega)
        · have hq : (((low c).toNat : Int) != (y.toNat : Int)) = true := by
            have := byte_ne (low c) y hcy
            simp only [bne, this]
            rfl
          have HE := hide hcy
          clear hcy
          go_wp2
          go_quiet ((go_at_call 45; exact Calls.quiet_of_same ((unhide HSM) _)))
          go_wp2
          go_ret
          refine ⟨?_, drewN_more (unhide HX) _⟩
          have : seesM l k x.data.toList = false := by
            unfold seesM
            rw [decide_eq_false_iff_not]
            intro e
            have h1 := unhide HA
            rw [e, unhide HY] at h1
            cases h1; exact unhide HE rfl
          rw [this]; rfl
      · have hjz : ¬ (j : Int) < (x.size : Int) := by omega
        have HE : Hid (seesM l k x.data.toList = true) := hide (by
          unfold seesM
          rw [decide_eq_true_eq]
          apply List.ext_getElem?
          intro i
          by_cases hi : i < x.size
          · exact (unhide HP) i (by omega)
          · rw [List.getElem?_eq_none (by rw [List.length_map, List.length_take, len_data]; omega), List.getElem?_eq_none (by rw [len_data]; omega)])
        clear hpre hrow
        go_wp2
        go_ret
        rw [unhide HE]
        exact ⟨rfl, unhide HX⟩

theorem refBehind_any (h : Row w b l) (hk : k ≤ l.length) (hs : Short l.length) (c : UInt8) (hc : ∀ d : UInt8, low d = c ↔ d = c) :
    Calls Tryd.prog 28 #[.slice (some ⟨b, 0, none⟩) l.length cap, .int .i64 k, .int .u8 c.toNat] w fun e w' => e = .returned (.int .i64 (if findM [c] l k < l.length then ((findM [c] l k : Nat) : Int) + 1 else -1)) ∧ ∃ n, w' = w.drewN n := by
  obtain ⟨A, hA⟩ : ∃ A : Int, (if findM [c] l k < l.length then ((findM [c] l k : Nat) : Int) + 1 else -1) = A := ⟨_, rfl⟩
  rw [hA]
  have HAA := hide hA
  clear hA
  have HR := hide h
  have HS := hide hs
  have HK := hide hk
  have HC := hide hc
  clear h hs hk hc
  go_enter Tryd.func28, Tryd.ntmps28
  go_wp2
  go_loopg [7] (l.length + 1 - k) (fun g s5 wx => ∃ j : Nat, s5 = .int .i64 j ∧ j + g = l.length + 1 ∧ j ≤ l.length ∧ findM [c] l k = findM [c] l j ∧ ∃ n, wx = w.drewN n)
  case atStart => exact ⟨k, rfl, by have := unhide HK; omega, unhide HK, rfl, 0, rfl⟩
  case round =>
    obtain ⟨j, rfl, hjg, hjl, hp, n, rfl⟩ := hrel
    have HP := hide hp
    have HJ := hide (And.intro hjg hjl)
    by_cases hj : j < l.length
    · have hjz : (j : Int) < (l.length : Int) := by omega
      have hcell := ((unhide HR).dn n).at hj
      have hw : IntKind.i64.wrap ((j : Int) + 1) = (j : Int) + 1 := by have := unhide HS; unfold Short at this; exact wrap_add j 1 (by omega) (by omega)
      have e1 : findM [c] l j = if seesM l j [c] then j else findM [c] l (j + 1) := by
        unfold findM
        rw [show l.length - j = (l.length - (j + 1)) + 1 by omega, findF]
      rw [sees_one hj] at e1
      by_cases hd : l[j] = c
      · have hq : ((l[j].toNat : Int) == (c.toNat : Int)) = true := by rw [hd]; simp
        have e2 : findM [c] l j = j := by rw [e1, if_pos (by rw [(unhide HC l[j]).2 hd]; simp)]
        have HE := hide (hp.trans e2)
        have HJL := hide hj
        generalize l[j] = d at hcell hq
        clear e1 hd e2 hp hjg hjl hj
        go_wp2
        go_ret
        have h9 := unhide HAA
        rw [unhide HE, if_pos (unhide HJL)] at h9
        rw [← h9]
        exact ⟨rfl, _, rfl⟩
      · have hq : ((l[j].toNat : Int) == (c.toNat : Int)) = false := byte_ne _ _ hd
        have e2 : findM [c] l j = findM [c] l (j + 1) := by rw [e1, if_neg (by simp; intro h; exact hd ((unhide HC l[j]).1 h))]
        have HE := hide (hp.trans e2)
        generalize l[j] = d at hcell hq
        clear e1 e2 hp hjg hjl hd hj
        go_wp2
        go_roundg (gk - 1)
        case measure => have := unhide HJ; omega
        case rel => exact ⟨j + 1, by go_num, by have := unhide HJ; omega, by have := unhide HJ; omega, unhide HE, _, rfl⟩
    · have hjz : ¬ (j : Int) < (l.length : Int) := by omega
      have HE : Hid (¬ findM [c] l k < l.length) := hide (by rw [hp]; have := find_le (x := [c]) (l := l) (k := j) hjl; omega)
      clear hp hjg hjl hj
      go_wp2
      go_ret
      have h9 := unhide HAA
      rw [if_neg (unhide HE)] at h9
      rw [← h9]
      exact ⟨rfl, _, rfl⟩
end
end Go.Proofs.YtmikcdmlhocgbaaDoor
