/-
  The walk of InputChunks.
-/
import Derived.Test.YtlhebbhpcepfhaaPs
namespace Go.Proofs.Ytlhebbhpcepfhaa
open Go.RowKit

set_option maxHeartbeats 4000000 in
theorem inputChunks_walk (w : World) (a : Option Addr) (l : List Int) (c : Nat) (hr : RunesIn w a l) (hl : l.length ≤ 35184372087808) (a1 : Option Addr) (l1 : List Int) (c1 : Nat) (hr1 : BytesIn w a1 l1) (hl1 : l1.length ≤ maxLen) :
    Calls Try.prog 4 #[.slice a l.length c, .slice a1 l1.length c1] w fun e w' => e = .returned (.bool true) ∧ Below w.heap.size w w' := by
  have HP := hide (plain_any w a l c hr (by omega))
  have HR1 := hide hr1
  have HL1 := hide hl1
  have HNE := hide (plain_ne l)
  have HPL := hide (plainM_len l)
  clear hr hl hr1 hl1
  go_enter Try.func4, Try.ntmps4
  go_wp2_with (first
    | (go_at_call 15; go_must (refine (unhide HP).mono ?_); rintro e w1 ⟨p, rfl, hp, hx, hb⟩; have HX := hide hx; have HE1 := hide (show Env w w1 [partOb _ p] from (Env.start w).list hb hp); clear hb hp hx)
    | (go_at_call 9; have _x := unhide HE2; go_must (refine (env_new (unhide HE2)).mono ?_); rintro e w3 ⟨bT, rfl, hE⟩; have HE3 := hide (show Env w w3 [partOb _ p, strOb _ bS (gotM (p.xs.take 0)), strOb _ bT newM] from hE); clear hE)
    | (go_at_call 9; go_must (refine (env_new (unhide HE1)).mono ?_); rintro e w2 ⟨bS, rfl, hE⟩; have HE2 := hide (show Env w w2 [partOb _ p, strOb _ bS newM] from hE); clear hE))
  have HNP : Hid (∀ x ∈ p.xs, x ≠ -1) := hide (by rw [unhide HX]; exact unhide HNE)
  have HLP : Hid (p.xs.length ≤ 5000) := hide (by rw [unhide HX]; exact unhide HPL)
  clear HP HNE HPL HX HE1 HE2
  go_loopg [8, 9] l1.length (fun gx s8 s9 wx => ∃ (i k r rcap : Nat) (ra : Option Addr), s9 = .int .i64 i ∧ s8 = .slice ra r rcap ∧ i + gx = l1.length ∧ k + r = p.xs.length ∧ Rest p ra rcap k ∧ Env w wx [partOb _ p, strOb _ bS (gotM (p.xs.take k)), strOb _ bT newM])
  case atStart => exact ⟨0, 0, p.xs.length, p.cap, p.a, rfl, rfl, by omega, by omega, Rest.first ((unhide HE3).part (i := 0) rfl), unhide HE3⟩
  case round =>
    obtain ⟨i, k, r, rcap, ra, rfl, rfl, hig, hkr, hrest, hE⟩ := hrel
    have HG := hide hig
    have HKR := hide hkr
    have HRE := hide hrest
    have HE := hide hE
    clear HE3
    by_cases hil : i < l1.length
    · have hiz : (i : Int) < (l1.length : Int) := by omega
      have hw1 : IntKind.i64.wrap ((i : Int) + 1) = (i : Int) + 1 := by have := unhide HL1; unfold maxLen at this; rw [IntKind.wrap_i64]; omega
      obtain ⟨⟨b, off, ha1, hcell⟩, hx0, hx1⟩ := ((unhide HR1).below hE.bel) i l1[i] (List.getElem?_eq_getElem hil)
      generalize l1[i] = x at hcell hx0 hx1
      subst ha1
      obtain ⟨k8, hk8⟩ : ∃ k : Nat, (k : Int) = x % 8 := ⟨(x % 8).toNat, by omega⟩
      have hcv : IntKind.i64.wrap (x % 8) = (k8 : Int) := by rw [IntKind.wrap_i64]; omega
      have HI := hide hil
      clear hig hil hk8
      by_cases hcap : rcap = 0
      · subst hcap
        have hr0 : r = 0 := by have := hrest.zero; omega
        subst hr0
        have HF := hide (fun cc => c_feed (n := 0) (cc := cc) hE hrest (by omega) (unhide HLP))
        clear hkr hrest hE
        have hmin : min (0 : Int) (k8 : Int) = 0 := by omega
        go_wp2_with (go_at_call 16; go_must (refine ((unhide HF) _).mono ?_); rintro e w4 ⟨rfl, hv⟩; have HV4 := hide hv; clear hv)
        go_roundg (gk - 1)
        case measure => have := unhide HG; have := unhide HI; omega
        case rel => exact ⟨i + 1, k, 0, 0, ra, by go_num, rfl, by have := unhide HG; have := unhide HI; omega, unhide HKR, unhide HRE, unhide HV4⟩
      · obtain ⟨b2, o2, rfl⟩ : ∃ b off, ra = some ⟨b, off, none⟩ := by
          rcases hrest.form with e | e
          · exact absurd e hcap
          · exact e
        obtain ⟨n, hn⟩ : ∃ n : Nat, min (r : Int) (k8 : Int) = (n : Int) := ⟨min r k8, by omega⟩
        have hnr : n ≤ r := by omega
        have hrc : r ≤ rcap := by have := hrest.room; omega
        have hm := hrest.most
        unfold maxLen at hm
        have HF := hide (fun cc => c_feed (n := n) (cc := cc) hE hrest (by omega) (unhide HLP))
        have HNX := hide (hrest.next (n := n) (by omega))
        have n1 : (n : Int) ≤ (r : Int) := by omega
        have n2 : (r : Int) ≤ (rcap : Int) := by omega
        have n3 : (n : Int) ≤ (rcap : Int) := by omega
        have HNR := hide hnr
        clear hkr hrest hE hrc hnr hcap
        by_cases hcn : rcap = n
        · have hz : rcap - n = 0 := by omega
          rw [if_pos hcn] at HNX
          go_wp2_with (go_at_call 16; go_must (refine ((unhide HF) _).mono ?_); rintro e w4 ⟨rfl, hv⟩; have HV4 := hide hv; clear hv)
          go_roundg (gk - 1)
          case measure => have := unhide HG; have := unhide HI; omega
          case rel => exact ⟨i + 1, k + n, r - n, 0, some ⟨b2, o2, none⟩, by go_num, rfl, by have := unhide HG; have := unhide HI; omega, by have := unhide HKR; have := unhide HNR; omega, by have := unhide HNX; rw [hz] at this; exact this, unhide HV4⟩
        · have hz : ¬ rcap - n = 0 := by omega
          have hz2 : ¬ rcap = n := hcn
          rw [if_neg hcn] at HNX
          go_wp2_with (go_at_call 16; go_must (refine ((unhide HF) _).mono ?_); rintro e w4 ⟨rfl, hv⟩; have HV4 := hide hv; clear hv)
          go_roundg (gk - 1)
          case measure => have := unhide HG; have := unhide HI; omega
          case rel => exact ⟨i + 1, k + n, r - n, rcap - n, some ⟨b2, o2 + n, none⟩, by go_num, rfl, by have := unhide HG; have := unhide HI; omega, by have := unhide HKR; have := unhide HNR; omega, unhide HNX, unhide HV4⟩
    · have hiz : ¬ (i : Int) < (l1.length : Int) := by omega
      have HF : Hid (Calls Try.prog 16 #[.pointer (some ⟨bS, 0, none⟩), .slice ra r rcap] wr fun e w' => e = .returned (.int .i64 0) ∧ Env w w' [partOb _ p, strOb _ bS (gotM p.xs), strOb _ bT newM]) := hide (by
        have := c_feed (n := r) (cc := rcap) hE hrest (by omega) (unhide HLP)
        rw [hkr, List.take_length] at this
        exact this)
      clear hig hkr hrest hE hil HG HKR HRE HE
      go_wp2_with (first
        | (go_at_call 16; have _x := unhide HE4; go_must (refine (c_feedT (unhide HE4) (unhide HLP)).mono ?_); rintro e w5 ⟨rfl, hv⟩; have HE5 := hide hv; clear hv)
        | (go_at_call 16; go_must (refine (unhide HF).mono ?_); rintro e w4 ⟨rfl, hv⟩; have HE4 := hide hv; clear hv)
        | (go_at_call 17; have _x := unhide HE6; go_must (refine (c_endT (unhide HE6)).mono ?_); rintro e w7 ⟨rfl, hv⟩; have HE7 := hide hv; clear hv)
        | (go_at_call 17; go_must (refine (c_endS (unhide HE5)).mono ?_); rintro e w6 ⟨rfl, hv⟩; have HE6 := hide hv; clear hv)
        | (go_at_call 18; have _x := unhide HE8; go_must (refine (c_allT (unhide HE8) (unhide HNP) (unhide HLP)).mono ?_); rintro e w9 ⟨y, rfl, hy, hv⟩; have HY := hide hy; have HE9 := hide hv; clear hv hy)
        | (go_at_call 18; go_must (refine (c_allS (unhide HE7) (unhide HNP) (unhide HLP)).mono ?_); rintro e w8 ⟨x, rfl, hx, hv⟩; have HX := hide hx; have HE8 := hide hv; clear hv hx))
      have hvp : p.val = .slice p.a p.xs.length p.cap := rfl
      have hvx : x.val = .slice x.a x.xs.length x.cap := rfl
      have HPR := hide ((unhide HE9).part (i := 0) (q := p) rfl).runes
      have HXR := hide ((unhide HE9).part (i := 3) (q := x) rfl).runes
      have HYR := hide ((unhide HE9).part (i := 4) (q := y) rfl).runes
      clear HF HE4 HE5 HE6 HE7 HE8
      rw [hvp, hvx]
      go_loop [13, 14] (fun s13 s14 => ∃ i : Nat, i ≤ p.xs.length ∧ s14 = .int .i64 i ∧ s13 = .int .i64 (linesM false (p.xs.take i) : Int)) (fun _ s14 => p.xs.length - (intOf s14).toNat)
      case atStart => exact ⟨0, Nat.zero_le _, rfl, rfl⟩
      case round =>
        obtain ⟨j, hj, rfl, rfl⟩ := hrel
        by_cases hjl : j < p.xs.length
        · have hjz : (j : Int) < (p.xs.length : Int) := by omega
          have hw2 : IntKind.i64.wrap ((j : Int) + 1) = (j : Int) + 1 := by have := unhide HLP; rw [IntKind.wrap_i64]; omega
          obtain ⟨b, off, ha, hcell⟩ := (unhide HPR) j p.xs[j] (List.getElem?_eq_getElem hjl)
          have hS := lines_snoc false (p.xs.take j) p.xs[j]
          rw [← take_next hjl] at hS
          obtain ⟨r, hr⟩ : ∃ r, r = p.xs[j] := ⟨_, rfl⟩
          rw [← hr] at hS hcell
          have hn5 : linesM false (p.xs.take j) ≤ 5000 := by
            have h1 := lines_le false (p.xs.take j)
            have h2 := unhide HLP
            rw [List.length_take] at h1
            omega
          obtain ⟨n, hn⟩ : ∃ n, n = linesM false (p.xs.take j) := ⟨_, rfl⟩
          rw [← hn] at hS hn5 ⊢
          have hnz : (n : Int) ≤ 5000 := by omega
          have hwn : IntKind.i64.wrap ((n : Int) + 1) = (n : Int) + 1 := by rw [IntKind.wrap_i64]; omega
          have HN := hide hn
          rw [ha]
          have HJ := hide hjl
          clear hr hn hn5 hvp hvx
          cases h13 : (r == 13) with
          | true =>
            have HT : Hid (linesM false (p.xs.take (j + 1)) = n + 1) := hide (by rw [hS, h13]; rfl)
            clear hS
            go_wp2
            go_round
            case rel => exact ⟨j + 1, by have := unhide HJ; omega, by go_num, by rw [unhide HT]; go_num⟩
            case measure => have := unhide HJ; simp [intOf]; omega
          | false =>
            rw [h13, Bool.false_or] at hS
            cases h10 : (r == 10) with
            | false =>
              have HT : Hid (linesM false (p.xs.take (j + 1)) = n) := hide (by rw [hS, h10]; rfl)
              clear hS
              go_wp2
              go_round
              case rel => exact ⟨j + 1, by have := unhide HJ; omega, by go_num, by rw [unhide HT]⟩
              case measure => have := unhide HJ; simp [intOf]; omega
            | true =>
              rw [h10, Bool.true_and] at hS
              by_cases hj0 : j = 0
              · subst hj0
                have HT : Hid (linesM false (p.xs.take (0 + 1)) = n + 1) := hide (by rw [hS]; rfl)
                rw [Nat.add_zero] at hcell
                clear hS
                go_wp2
                go_round
                case rel => exact ⟨1, by have := unhide HJ; omega, by go_num, by have := unhide HT; rw [Nat.zero_add] at this; rw [this]; go_num⟩
                case measure => have := unhide HJ; simp [intOf]; omega
              · obtain ⟨j', hj'⟩ : ∃ j', j = j' + 1 := ⟨j - 1, by omega⟩
                have hjl' : j' < p.xs.length := by omega
                obtain ⟨b', off', ha', hcell'⟩ := (unhide HPR) j' p.xs[j'] (List.getElem?_eq_getElem hjl')
                rw [hj', cr_at hjl', ← hj'] at hS
                rw [ha] at ha'
                cases ha'
                generalize p.xs[j'] = r' at hS hcell'
                have hj3 : ((j : Int) == 0) = false := by simp; omega
                have hjm : IntKind.i64.wrap ((j : Int) - 1) = (j : Int) - 1 := by have := unhide HLP; rw [IntKind.wrap_i64]; omega
                have hj1 : (0 : Int) ≤ (j : Int) - 1 := by omega
                have hj2 : (j : Int) - 1 < (p.xs.length : Int) := by omega
                have hj4 : ((j : Int) - 1).toNat = j' := by omega
                have hj5 : (1 : Int) ≤ (j : Int) := by omega
                clear hjl' hj' hj0
                cases h13' : (r' == 13) with
                | true =>
                  have HT : Hid (linesM false (p.xs.take (j + 1)) = n) := hide (by rw [hS, h13']; rfl)
                  clear hS
                  go_wp2
                  go_round
                  case rel => exact ⟨j + 1, by have := unhide HJ; omega, by go_num, by rw [unhide HT]⟩
                  case measure => have := unhide HJ; simp [intOf]; omega
                | false =>
                  have HT : Hid (linesM false (p.xs.take (j + 1)) = n + 1) := hide (by rw [hS, h13']; rfl)
                  clear hS
                  go_wp2
                  go_round
                  case rel => exact ⟨j + 1, by have := unhide HJ; omega, by go_num, by rw [unhide HT]; go_num⟩
                  case measure => have := unhide HJ; simp [intOf]; omega
        · have hjz : ¬ (j : Int) < (p.xs.length : Int) := by omega
          obtain rfl : j = p.xs.length := by omega
          rw [List.take_length]
          have HLT : Hid (linesM false p.xs = tens x.xs) := hide (by rw [unhide HX, lines_tens])
          have htl : linesM false p.xs ≤ 5000 := by have h1 := lines_le false p.xs; have h2 := unhide HLP; omega
          rw [unhide HLT] at htl ⊢
          clear hj hjl hvp hvx
          go_wp2
          go_loop [13, 15] (fun s13 s15 => ∃ i : Nat, i ≤ x.xs.length ∧ s15 = .int .i64 i ∧ s13 = .int .i64 ((tens x.xs : Int) - (tens (x.xs.take i) : Int))) (fun _ s15 => x.xs.length - (intOf s15).toNat)
          case atStart => exact ⟨0, Nat.zero_le _, rfl, by simp [tens]⟩
          case round =>
            obtain ⟨j, hj, rfl, rfl⟩ := hrel
            have hxl : x.xs.length ≤ 5000 := by have h1 := endsM_len false p.xs; have h2 := unhide HLP; rw [unhide HX]; omega
            by_cases hjl : j < x.xs.length
            · have hjz2 : (j : Int) < (x.xs.length : Int) := by omega
              have hw2 : IntKind.i64.wrap ((j : Int) + 1) = (j : Int) + 1 := by rw [IntKind.wrap_i64]; omega
              obtain ⟨b, off, ha, hcell⟩ := (unhide HXR) j x.xs[j] (List.getElem?_eq_getElem hjl)
              have hS := tens_snoc hjl
              obtain ⟨r, hr⟩ : ∃ r, r = x.xs[j] := ⟨_, rfl⟩
              have h13 : (r == 13) = false := by
                have := (ends_ne (unhide HNP) false r (by rw [← unhide HX, hr]; exact List.getElem_mem hjl)).2
                simpa using this
              rw [← hr] at hS hcell
              have ht1 := tens_le x.xs (j + 1)
              have ht2 := tens_le x.xs j
              obtain ⟨n, hn⟩ : ∃ n : Int, n = (tens x.xs : Int) - (tens (x.xs.take j) : Int) := ⟨_, rfl⟩
              rw [← hn]
              have hn0 : 0 ≤ n := by omega
              have hn5 : n ≤ 5000 := by omega
              have HN := hide hn
              have HJ := hide hjl
              rw [ha]
              cases h10 : (r == 10) with
              | true =>
                have HT : Hid ((tens x.xs : Int) - (tens (x.xs.take (j + 1)) : Int) = n - 1) := hide (by rw [hS, h10, hn]; simp; omega)
                have hwn : IntKind.i64.wrap (n - 1) = n - 1 := by rw [IntKind.wrap_i64]; omega
                clear hS hr hn ht1 ht2 hj hjl hxl htl
                go_wp2
                go_round
                case rel => exact ⟨j + 1, by have := unhide HJ; omega, by go_num, by rw [unhide HT]⟩
                case measure => have := unhide HJ; simp [intOf]; omega
              | false =>
                have HT : Hid ((tens x.xs : Int) - (tens (x.xs.take (j + 1)) : Int) = n) := hide (by rw [hS, h10, hn]; simp)
                clear hS hr hn ht1 ht2 hj hjl hxl htl
                go_wp2
                go_round
                case rel => exact ⟨j + 1, by have := unhide HJ; omega, by go_num, by rw [unhide HT]⟩
                case measure => have := unhide HJ; simp [intOf]; omega
            · have hjz2 : ¬ (j : Int) < (x.xs.length : Int) := by omega
              obtain rfl : j = x.xs.length := by omega
              rw [List.take_length, Int.sub_self]
              have HRU := hide (runes_any w9 x.a y.a x.xs y.xs x.cap y.cap (unhide HXR) (unhide HYR) (by omega))
              rw [decide_eq_true (show x.xs = y.xs by rw [unhide HX, unhide HY])] at HRU
              clear hj hjl hxl htl
              go_wp2_with (first
                | (go_at_call 19; go_must (refine (unhide HRU).mono ?_); rintro e w10 ⟨rfl, hb⟩; have HE10 := hide ((unhide HE9).more hb); clear hb)
                | (go_at_call 14; go_must (refine (awake_any _).mono ?_); rintro e w11 ⟨rfl, hb⟩; have HE11 := hide ((unhide HE10).more hb); clear hb))
              go_ret
              exact ⟨rfl, (unhide HE11).bel⟩
end Go.Proofs.Ytlhebbhpcepfhaa
