/-
  The document's pick and Element; AdjustElements' walk.
-/
import Derived.Test.YtgbinemombgckaaAs
namespace Go.Proofs.Ytgbinemombgckaa
open Go.RowKit Go.Lib

set_option maxHeartbeats 2000000 in
theorem pick_any (l : List ByteArray) (hl : l.length ≤ 1000) (hsz : ∀ x ∈ l, x.size ≤ 1000) (n : ByteArray) (b : Nat) (w : World) (ht : TabAt w b l) :
    Calls Try.prog 24 #[.slice (some ⟨b, 0, none⟩) l.length l.length, .string n] w fun e w' => e = .returned (.string (properM l n)) ∧ Below w.heap.size w w' := by
  unfold properM
  have HT := hide ht
  have HA := hide hsz
  have hlz : (l.length : Int) ≤ 1000 := by omega
  clear ht hsz hl
  go_enter Try.func24, Try.ntmps24
  go_wp2
  go_loopg [5] l.length (fun g s9 wx => ∃ j : Nat, j + g = l.length ∧ s9 = .int .i64 j ∧ Below w.heap.size w wx ∧ (∀ i s, i < j → l[i]? = some s → isM s n = false))
  case atStart => exact ⟨0, by omega, rfl, Below.refl _ w, fun i s hi => absurd hi (Nat.not_lt_zero _)⟩
  case round =>
    obtain ⟨j, hjg, rfl, hb, hno⟩ := hrel
    have HN := hide hno
    have HB := hide hb
    clear hno hb
    by_cases hj : j < l.length
    · have hjz : (j : Int) < (l.length : Int) := by omega
      obtain ⟨y, hy⟩ : ∃ y, l[j]? = some y := ⟨_, List.getElem?_eq_getElem hj⟩
      have hcell := ((unhide HT).below (unhide HB)).cells j y hy
      have hcall := fun W => rsmall_any y W (by have := unhide HA y (List.mem_of_getElem? hy); omega)
      have hle := low_eq y n
      have HY := hide hy
      have HTB := hide ((unhide HT).below (unhide HB))
      clear hy
      generalize lowS y = z at hcall hle
      cases hq : isM y n with
      | true =>
        rw [hq] at hle
        have HQ := hide hq
        clear hq
        go_wp2_with (go_at_call 37; refine (hcall _).mono ?_; rintro e w' ⟨rfl, hb'⟩; have hcell2 := ((unhide HTB).below hb').cells j y (unhide HY); have HB' := hide ((unhide HB).trans (hb'.mono (unhide HB).size)); clear hb')
        go_ret
        refine ⟨?_, unhide HB'⟩
        rw [find_at (p := fun x => isM x n) (unhide HY) (unhide HQ) (unhide HN)]
        rfl
      | false =>
        rw [hq] at hle
        have HQ := hide hq
        clear hq
        go_wp2_with (go_at_call 37; refine (hcall _).mono ?_; rintro e w' ⟨rfl, hb'⟩; have HB' := hide ((unhide HB).trans (hb'.mono (unhide HB).size)); clear hb')
        go_roundg (gk - 1)
        case measure => omega
        case rel =>
          refine ⟨j + 1, by omega, by go_num, unhide HB', fun i s hi hs => ?_⟩
          by_cases e : i = j
          · subst e; rw [unhide HY] at hs; cases hs; exact unhide HQ
          · exact (unhide HN) i s (by omega) hs
    · have hjz : ¬ (j : Int) < (l.length : Int) := by omega
      obtain rfl : j = l.length := by omega
      go_wp2
      go_ret
      refine ⟨?_, unhide HB⟩
      rw [find_none (p := fun x => isM x n) (unhide HN)]
      rfl

theorem sizeE : ∀ x ∈ svgE, x.size ≤ 1000 := by
  intro x hx
  have : svgE.all (fun y => decide (y.size ≤ 1000)) = true := by decide +kernel
  exact of_decide_eq_true (List.all_eq_true.1 this x hx)
theorem sizeA : ∀ x ∈ svgA, x.size ≤ 1000 := by
  intro x hx
  have : svgA.all (fun y => decide (y.size ≤ 1000)) = true := by decide +kernel
  exact of_decide_eq_true (List.all_eq_true.1 this x hx)

theorem relement_any (n : ByteArray) (w : World) : Calls Try.prog 9 #[.string n] w fun e w' => e = .returned (.string (properM svgE n)) ∧ Below w.heap.size w w' := by
  have HP : Hid (Calls Try.prog 24 #[.slice (some ⟨w.heap.size, 0, none⟩) 37 37, .string n] (w.alloc (.cells (sRow svgE) 9)) fun e w' => e = .returned (.string (properM svgE n)) ∧ Below (w.alloc (.cells (sRow svgE) 9)).heap.size (w.alloc (.cells (sRow svgE) 9)) w') :=
    hide (pick_any svgE (by decide) sizeE n w.heap.size _ (tab_new w svgE))
  have HS := hide (rsvgE_any w)
  have HB := hide (below_new w (.cells (sRow svgE) 9))
  generalize properM svgE n = r at HP
  generalize w.alloc (.cells (sRow svgE) 9) = w1 at HP HS HB
  go_enter Try.func9, Try.ntmps9
  go_wp2_with (first | (go_at_call 25; refine (unhide HS).mono ?_; rintro e w' ⟨rfl, rfl⟩) | (go_at_call 24; refine (unhide HP).mono ?_; rintro e w' ⟨rfl, hb'⟩; have HB' := hide ((unhide HB).trans (hb'.mono (unhide HB).size)); clear hb'))
  go_ret
  exact ⟨rfl, unhide HB'⟩

theorem adjustElements_any (n : ByteArray) (w : World) : Calls Try.prog 3 #[.string n] w fun e w' => e = .returned (.bool true) ∧ Below w.heap.size w w' := by
  have H1 := hide (element_any n w)
  have H2 := hide (fun W => relement_any n W)
  have H3 := hide (fun W => awake_any W)
  generalize properM svgE n = r at H1 H2
  go_enter Try.func3, Try.ntmps3
  go_wp2_with (first
    | (go_at_call 8; refine (unhide H1).mono ?_; rintro e w1 ⟨rfl, hb1⟩; have HB1 := hide hb1; clear hb1)
    | (go_at_call 9; refine (unhide H2 _).mono ?_; rintro e w2 ⟨rfl, hb2⟩; have HB2 := hide ((unhide HB1).trans (hb2.mono (unhide HB1).size)); clear hb2)
    | (go_at_call 10; refine (unhide H3 _).mono ?_; rintro e w3 ⟨rfl, hb3⟩; have HB3 := hide ((unhide HB2).trans (hb3.mono (unhide HB2).size)); clear hb3))
  go_ret
  exact ⟨rfl, unhide HB3⟩
end Go.Proofs.Ytgbinemombgckaa
