/-
  Proved: EditAppends returns true.
-/
import Derived.Test.YtlbkoafeedlfaaaEa4
import Derived.Deep.RegionWith
namespace Go.Proofs.Ytlbkoafeedlfaaa
open Go.RowKit

set_option maxHeartbeats 16000000 in
theorem appends_walk {w : World} (a : Option Addr) (cap : Nat) (l : List UInt8) (hs : BytesIn w a l) (hn : l.length ≤ maxLen) :
    Calls Try.prog 6 #[.slice a l.length cap] w fun e w' => e = .returned (.bool true) ∧ Below w.heap.size w w' := by
  have HN := hide (new_any w w.heap.size (Nat.le_refl _))
  have HS := hide hs
  obtain ⟨n, hn1, hn2⟩ : ∃ n : Nat, n ≤ 100 ∧ n ≤ l.length ∧ min (l.length : Int) 100 = (n : Int) := ⟨min l.length 100, by omega, by omega, by omega⟩
  obtain ⟨hn2, hmin⟩ := hn2
  unfold maxLen at hn
  clear hs
  go_enter Try.func6, Try.ntmps6
  go_wp2_with (first
    | (go_at_call 13; refine (unhide HN).mono ?_; rintro e w1 ⟨F, rfl, h1, hb1, hF⟩; have H1 := hide h1; have HB1 := hide hb1; have HF := hide hF; have HAD := hide (start_call h1); clear h1 hb1 hF)
    | (go_at_call 24; refine (unhide HAD).mono ?_; rintro e w2 ⟨rfl, hu2⟩; have HU2 := hide hu2; clear hu2))
  have hst : ∃ ms F', Built w (w2.alloc (.cells #[.string ⟨#[100, 105, 118]⟩, .string ⟨#[66]⟩, .string ⟨#[]⟩, .string ⟨#[120, 49]⟩, .string ⟨#[83, 112, 97, 110]⟩, .string ⟨#[]⟩] 9)) (w.heap.size + 3) w2.heap.size (osA []) ms F' := by
    obtain ⟨ms, ⟨F', ha, hm, hF⟩, hsim⟩ := unhide HU2
    have hb1 := unhide HB1
    have hb2 : Below w.heap.size w w2 := hb1.trans (hm.below hb1.size (unhide HF))
    refine ⟨ms, F', ha.below ((Below.refl _ w2).alloc (Nat.le_refl _) _), hsim, hb2.alloc hb2.size _, fun k hk => ?_, fun e => ?_, by simp, lits_new w2⟩
    · rcases hF k hk with e | e
      · exact (unhide HF) k e
      · exact Nat.le_trans hb1.size e
    · have := (ha.lt e).2; omega
  have HST := hide hst
  clear hst
  go_loopg [8] n (fun k sl wx => ∃ j : Nat, sl = .int .i64 j ∧ j + k = n ∧ ∃ ms F', Built w wx (w.heap.size + 3) w2.heap.size (osA (l.take j)) ms F')
  case atStart => exact ⟨0, rfl, by omega, by simpa using unhide HST⟩
  case round =>
    obtain ⟨j, rfl, hjk, ms, F', hB⟩ := hrel
    by_cases hj : j < n
    · have hjz : (j : Int) < (n : Int) := by omega
      have hjl : (j : Int) < (l.length : Int) := by omega
      have hx : l[j]? = some l[j] := List.getElem?_eq_getElem (by omega)
      generalize l[j] = v at hx
      obtain ⟨nb, noff, rfl, dv⟩ := ((unhide HS).below hB.below).cells j v hx
      obtain ⟨q0, q1, q2, q3, q4, q5⟩ := hB.lits
      have HX := hide hx
      have hv1 : (0 : Int) ≤ (v.toNat : Int) := by omega
      have hv2 : (v.toNat : Int) ≤ 255 := by have := v.toNat_lt; omega
      clear hx
      rcases pick_cases v with ⟨hm, hp⟩ | ⟨hm, hp⟩ | ⟨hm, hp⟩ | ⟨hm, hp⟩ | ⟨hm, hp⟩ | ⟨hm, hp⟩
      · have m1 : (v.toNat : Int) % 6 = 0 := by omega
        have m2 : Int.tmod (v.toNat : Int) 6 = 0 := by rw [Int.tmod_eq_emod_of_nonneg (by omega)]; exact m1
        have HC := hide (hB.elem v ⟨#[100, 105, 118]⟩ (by omega) hp (by rw [List.length_take]; omega) (by decide) elemName_div (by decide +kernel))
        clear hm hp hB
        go_wp2_with (first | (go_at_call 24; refine (unhide HC).mono ?_; rintro e w5 ⟨⟨xx, rfl⟩, hB5⟩; have HB5 := hide hB5; clear hB5))
        go_roundg (gk - 1)
        case measure => omega
        case rel => exact ⟨j + 1, by go_num, by omega, by rw [← take_next (unhide HX)]; exact unhide HB5⟩
      · have m1 : (v.toNat : Int) % 6 = 1 := by omega
        have m2 : Int.tmod (v.toNat : Int) 6 = 1 := by rw [Int.tmod_eq_emod_of_nonneg (by omega)]; exact m1
        have HC := hide (hB.elem v ⟨#[66]⟩ (by omega) hp (by rw [List.length_take]; omega) (by decide) elemName_b (by decide +kernel))
        clear hm hp hB
        go_wp2_with (first | (go_at_call 24; refine (unhide HC).mono ?_; rintro e w5 ⟨⟨xx, rfl⟩, hB5⟩; have HB5 := hide hB5; clear hB5))
        go_roundg (gk - 1)
        case measure => omega
        case rel => exact ⟨j + 1, by go_num, by omega, by rw [← take_next (unhide HX)]; exact unhide HB5⟩
      · have m1 : (v.toNat : Int) % 6 = 2 := by omega
        have m2 : Int.tmod (v.toNat : Int) 6 = 2 := by rw [Int.tmod_eq_emod_of_nonneg (by omega)]; exact m1
        have HC := hide (hB.text v (by omega) (by rw [List.length_take]; omega))
        clear hm hp hB
        go_wp2_with (first | (go_at_call 25; refine (unhide HC).mono ?_; rintro e w5 ⟨⟨xx, rfl⟩, hB5⟩; have HB5 := hide hB5; clear hB5))
        go_roundg (gk - 1)
        case measure => omega
        case rel => exact ⟨j + 1, by go_num, by omega, by rw [← take_next (unhide HX)]; exact unhide HB5⟩
      · have m1 : (v.toNat : Int) % 6 = 3 := by omega
        have m2 : Int.tmod (v.toNat : Int) 6 = 3 := by rw [Int.tmod_eq_emod_of_nonneg (by omega)]; exact m1
        have HC := hide (hB.elem v ⟨#[120, 49]⟩ (by omega) hp (by rw [List.length_take]; omega) (by decide) elemName_x1 (by decide +kernel))
        clear hm hp hB
        go_wp2_with (first | (go_at_call 24; refine (unhide HC).mono ?_; rintro e w5 ⟨⟨xx, rfl⟩, hB5⟩; have HB5 := hide hB5; clear hB5))
        go_roundg (gk - 1)
        case measure => omega
        case rel => exact ⟨j + 1, by go_num, by omega, by rw [← take_next (unhide HX)]; exact unhide HB5⟩
      · have m1 : (v.toNat : Int) % 6 = 4 := by omega
        have m2 : Int.tmod (v.toNat : Int) 6 = 4 := by rw [Int.tmod_eq_emod_of_nonneg (by omega)]; exact m1
        have HC := hide (hB.elem v ⟨#[83, 112, 97, 110]⟩ (by omega) hp (by rw [List.length_take]; omega) (by decide) elemName_span (by decide +kernel))
        clear hm hp hB
        go_wp2_with (first | (go_at_call 24; refine (unhide HC).mono ?_; rintro e w5 ⟨⟨xx, rfl⟩, hB5⟩; have HB5 := hide hB5; clear hB5))
        go_roundg (gk - 1)
        case measure => omega
        case rel => exact ⟨j + 1, by go_num, by omega, by rw [← take_next (unhide HX)]; exact unhide HB5⟩
      · have m1 : (v.toNat : Int) % 6 = 5 := by omega
        have m2 : Int.tmod (v.toNat : Int) 6 = 5 := by rw [Int.tmod_eq_emod_of_nonneg (by omega)]; exact m1
        have HC := hide (hB.text v (by omega) (by rw [List.length_take]; omega))
        clear hm hp hB
        go_wp2_with (first | (go_at_call 25; refine (unhide HC).mono ?_; rintro e w5 ⟨⟨xx, rfl⟩, hB5⟩; have HB5 := hide hB5; clear hB5))
        go_roundg (gk - 1)
        case measure => omega
        case rel => exact ⟨j + 1, by go_num, by omega, by rw [← take_next (unhide HX)]; exact unhide HB5⟩
    · have hjz : ¬ (j : Int) < (n : Int) := by omega
      obtain rfl : j = n := by omega
      have HKR := hide (kids_root hB j (by rw [List.length_take]; omega))
      have HBB := hide hB
      have HBW := hide hB.below
      clear hB HST HU2 HAD H1 HB1 HF HN
      obtain ⟨wo, hwo⟩ : ∃ wo, wo = wr := ⟨_, rfl⟩
      subst hwo
      go_wp2_with (first | (go_at_call 19; refine (unhide HKR).mono ?_; rintro e w6 ⟨ka, kc, rfl, hkk, hb6⟩; have HKK := hide hkk; have HB6 := hide hb6; clear hkk hb6))
      obtain ⟨n, hnn⟩ : ∃ n : Nat, n = j := ⟨_, rfl⟩
      go_loopg [11] j (fun k sl wx => ∃ q : Nat, sl = .int .i64 q ∧ q + k = j ∧ Below w6.heap.size w6 wx)
      case atStart => exact ⟨0, rfl, by omega, Below.refl _ _⟩
      case round =>
        obtain ⟨q, rfl, hqk, hbz⟩ := hrel
        have HBz := hide (((unhide HBB).more (unhide HB6)).more hbz)
        have HBqz := hide hbz
        by_cases hq : q < j
        · have hqz : (q : Int) < (j : Int) := by omega
          have hql : (q : Int) < (l.length : Int) := by omega
          have hx : l[q]? = some l[q] := List.getElem?_eq_getElem (by omega)
          generalize l[q] = v at hx
          obtain ⟨nb, noff, rfl, dv⟩ := ((unhide HS).below (unhide HBz).below).cells q v hx
          have hnb : nb < wr.heap.size := World.block_lt_of_cell? wr _ dv
          obtain ⟨g6, rfl, dk⟩ := (unhide HKK) q hq
          have dkz := (hbz.cell (p := ⟨g6, q, none⟩) (World.block_lt_of_cell? w6 _ dk)).trans dk
          have HX2 : Hid ((l.take j)[q]? = some v) := hide (by rw [List.getElem?_take_of_lt hq]; exact hx)
          have hv1 : (0 : Int) ≤ (v.toNat : Int) := by omega
          have hv2 : (v.toNat : Int) ≤ 255 := by have := v.toNat_lt; omega
          clear hx hbz dk
          rcases pick_cases v with ⟨hm, hp⟩ | ⟨hm, hp⟩ | ⟨hm, hp⟩ | ⟨hm, hp⟩ | ⟨hm, hp⟩ | ⟨hm, hp⟩
          · have m1 : (v.toNat : Int) % 6 = 0 := by omega
            have m2 : Int.tmod (v.toNat : Int) 6 = 0 := by rw [Int.tmod_eq_emod_of_nonneg (by omega)]; exact m1
            obtain ⟨i1, i2, i3⟩ := item_elem (v := v) (s := ⟨#[100, 105, 118]⟩) (by omega) hp
            have HC := hide (node_item (unhide HBz) (unhide HX2) i1 i2 i3)
            clear hm hp i1 i2 i3
            set_option maxRecDepth 10000 in
            go_wp2_with (first | (go_at_call 18; refine (unhide HC).mono ?_; rintro e w7 ⟨ao, q7, cp7, x1, x6, x7, x8, x9, x10, x11, x5, rfl, hb7⟩; have hv7 := (hb7.cell (p := ⟨nb, noff + q, none⟩) hnb).trans dv; have hnb7 : nb < w7.heap.size := Nat.lt_of_lt_of_le hnb hb7.size; obtain ⟨q0, q1, q2, q3, q4, q5⟩ := ((unhide HBz).more hb7).lits; have hbl7 := ((unhide HBz).more hb7).lt; have HB7 := hide hb7; clear hb7))
            first | go_region_with ((go_at_call 26; refine (refSmall_any ⟨#[100, 105, 118]⟩ _ (by decide)).mono ?_; rintro e w9 ⟨rfl, hb9⟩; have y0 := (hb9.cell (p := ⟨w7.heap.size, 0, none⟩) (by simp)); have y2 := (hb9.cell (p := ⟨w7.heap.size, 2, none⟩) (by simp)); simp at y0 y2; have HB9 := hide hb9; clear hb9)) | fail
            all_goals go_wp2
            all_goals
              go_roundg (gk - 1)
              case measure => omega
              case rel => exact ⟨q + 1, by go_num, by omega, (unhide HBqz).trans ((small_below (unhide HB7) (unhide HB9) (by repeat (first | exact Below.refl _ _ | apply Below.drew | (refine Below.alloc ?_ (by first | (simp; done) | (simp; omega)) _)))).mono (unhide HBqz).size)⟩
          · have m1 : (v.toNat : Int) % 6 = 1 := by omega
            have m2 : Int.tmod (v.toNat : Int) 6 = 1 := by rw [Int.tmod_eq_emod_of_nonneg (by omega)]; exact m1
            obtain ⟨i1, i2, i3⟩ := item_elem (v := v) (s := ⟨#[66]⟩) (by omega) hp
            have HC := hide (node_item (unhide HBz) (unhide HX2) i1 i2 i3)
            clear hm hp i1 i2 i3
            set_option maxRecDepth 10000 in
            go_wp2_with (first | (go_at_call 18; refine (unhide HC).mono ?_; rintro e w7 ⟨ao, q7, cp7, x1, x6, x7, x8, x9, x10, x11, x5, rfl, hb7⟩; have hv7 := (hb7.cell (p := ⟨nb, noff + q, none⟩) hnb).trans dv; have hnb7 : nb < w7.heap.size := Nat.lt_of_lt_of_le hnb hb7.size; obtain ⟨q0, q1, q2, q3, q4, q5⟩ := ((unhide HBz).more hb7).lits; have hbl7 := ((unhide HBz).more hb7).lt; have HB7 := hide hb7; clear hb7))
            first | go_region_with ((go_at_call 26; refine (refSmall_any ⟨#[66]⟩ _ (by decide)).mono ?_; rintro e w9 ⟨rfl, hb9⟩; have y0 := (hb9.cell (p := ⟨w7.heap.size, 0, none⟩) (by simp)); have y2 := (hb9.cell (p := ⟨w7.heap.size, 2, none⟩) (by simp)); simp at y0 y2; have HB9 := hide hb9; clear hb9)) | fail
            all_goals go_wp2
            all_goals
              go_roundg (gk - 1)
              case measure => omega
              case rel => exact ⟨q + 1, by go_num, by omega, (unhide HBqz).trans ((small_below (unhide HB7) (unhide HB9) (by repeat (first | exact Below.refl _ _ | apply Below.drew | (refine Below.alloc ?_ (by first | (simp; done) | (simp; omega)) _)))).mono (unhide HBqz).size)⟩
          · have m1 : (v.toNat : Int) % 6 = 2 := by omega
            have m2 : Int.tmod (v.toNat : Int) 6 = 2 := by rw [Int.tmod_eq_emod_of_nonneg (by omega)]; exact m1
            obtain ⟨i1, i2, i3⟩ := item_text (v := v) (by omega)
            have HC := hide (node_item (unhide HBz) (unhide HX2) i1 i2 i3)
            clear hm hp i1 i2 i3
            set_option maxRecDepth 10000 in
            go_wp2_with (first | (go_at_call 18; refine (unhide HC).mono ?_; rintro e w7 ⟨ao, q7, cp7, x1, x6, x7, x8, x9, x10, x11, x5, rfl, hb7⟩; have hv7 := (hb7.cell (p := ⟨nb, noff + q, none⟩) hnb).trans dv; have hnb7 : nb < w7.heap.size := Nat.lt_of_lt_of_le hnb hb7.size; obtain ⟨q0, q1, q2, q3, q4, q5⟩ := ((unhide HBz).more hb7).lits; have hbl7 := ((unhide HBz).more hb7).lt; have HB7 := hide hb7; clear hb7))
            go_quiet (fail)
            go_wp2
            go_roundg (gk - 1)
            case measure => omega
            case rel => exact ⟨q + 1, by go_num, by omega, below_drewE ((unhide HBqz).trans (((unhide HB7).alloc (unhide HB7).size _).mono (unhide HBqz).size)) _⟩
          · have m1 : (v.toNat : Int) % 6 = 3 := by omega
            have m2 : Int.tmod (v.toNat : Int) 6 = 3 := by rw [Int.tmod_eq_emod_of_nonneg (by omega)]; exact m1
            obtain ⟨i1, i2, i3⟩ := item_elem (v := v) (s := ⟨#[120, 49]⟩) (by omega) hp
            have HC := hide (node_item (unhide HBz) (unhide HX2) i1 i2 i3)
            clear hm hp i1 i2 i3
            set_option maxRecDepth 10000 in
            go_wp2_with (first | (go_at_call 18; refine (unhide HC).mono ?_; rintro e w7 ⟨ao, q7, cp7, x1, x6, x7, x8, x9, x10, x11, x5, rfl, hb7⟩; have hv7 := (hb7.cell (p := ⟨nb, noff + q, none⟩) hnb).trans dv; have hnb7 : nb < w7.heap.size := Nat.lt_of_lt_of_le hnb hb7.size; obtain ⟨q0, q1, q2, q3, q4, q5⟩ := ((unhide HBz).more hb7).lits; have hbl7 := ((unhide HBz).more hb7).lt; have HB7 := hide hb7; clear hb7))
            first | go_region_with ((go_at_call 26; refine (refSmall_any ⟨#[120, 49]⟩ _ (by decide)).mono ?_; rintro e w9 ⟨rfl, hb9⟩; have y0 := (hb9.cell (p := ⟨w7.heap.size, 0, none⟩) (by simp)); have y2 := (hb9.cell (p := ⟨w7.heap.size, 2, none⟩) (by simp)); simp at y0 y2; have HB9 := hide hb9; clear hb9)) | fail
            all_goals go_wp2
            all_goals
              go_roundg (gk - 1)
              case measure => omega
              case rel => exact ⟨q + 1, by go_num, by omega, (unhide HBqz).trans ((small_below (unhide HB7) (unhide HB9) (by repeat (first | exact Below.refl _ _ | apply Below.drew | (refine Below.alloc ?_ (by first | (simp; done) | (simp; omega)) _)))).mono (unhide HBqz).size)⟩
          · have m1 : (v.toNat : Int) % 6 = 4 := by omega
            have m2 : Int.tmod (v.toNat : Int) 6 = 4 := by rw [Int.tmod_eq_emod_of_nonneg (by omega)]; exact m1
            obtain ⟨i1, i2, i3⟩ := item_elem (v := v) (s := ⟨#[83, 112, 97, 110]⟩) (by omega) hp
            have HC := hide (node_item (unhide HBz) (unhide HX2) i1 i2 i3)
            clear hm hp i1 i2 i3
            set_option maxRecDepth 10000 in
            go_wp2_with (first | (go_at_call 18; refine (unhide HC).mono ?_; rintro e w7 ⟨ao, q7, cp7, x1, x6, x7, x8, x9, x10, x11, x5, rfl, hb7⟩; have hv7 := (hb7.cell (p := ⟨nb, noff + q, none⟩) hnb).trans dv; have hnb7 : nb < w7.heap.size := Nat.lt_of_lt_of_le hnb hb7.size; obtain ⟨q0, q1, q2, q3, q4, q5⟩ := ((unhide HBz).more hb7).lits; have hbl7 := ((unhide HBz).more hb7).lt; have HB7 := hide hb7; clear hb7))
            first | go_region_with ((go_at_call 26; refine (refSmall_any ⟨#[83, 112, 97, 110]⟩ _ (by decide)).mono ?_; rintro e w9 ⟨rfl, hb9⟩; have y0 := (hb9.cell (p := ⟨w7.heap.size, 0, none⟩) (by simp)); have y2 := (hb9.cell (p := ⟨w7.heap.size, 2, none⟩) (by simp)); simp at y0 y2; have HB9 := hide hb9; clear hb9)) | fail
            all_goals go_wp2
            all_goals
              go_roundg (gk - 1)
              case measure => omega
              case rel => exact ⟨q + 1, by go_num, by omega, (unhide HBqz).trans ((small_below (unhide HB7) (unhide HB9) (by repeat (first | exact Below.refl _ _ | apply Below.drew | (refine Below.alloc ?_ (by first | (simp; done) | (simp; omega)) _)))).mono (unhide HBqz).size)⟩
          · have m1 : (v.toNat : Int) % 6 = 5 := by omega
            have m2 : Int.tmod (v.toNat : Int) 6 = 5 := by rw [Int.tmod_eq_emod_of_nonneg (by omega)]; exact m1
            obtain ⟨i1, i2, i3⟩ := item_text (v := v) (by omega)
            have HC := hide (node_item (unhide HBz) (unhide HX2) i1 i2 i3)
            clear hm hp i1 i2 i3
            set_option maxRecDepth 10000 in
            go_wp2_with (first | (go_at_call 18; refine (unhide HC).mono ?_; rintro e w7 ⟨ao, q7, cp7, x1, x6, x7, x8, x9, x10, x11, x5, rfl, hb7⟩; have hv7 := (hb7.cell (p := ⟨nb, noff + q, none⟩) hnb).trans dv; have hnb7 : nb < w7.heap.size := Nat.lt_of_lt_of_le hnb hb7.size; obtain ⟨q0, q1, q2, q3, q4, q5⟩ := ((unhide HBz).more hb7).lits; have hbl7 := ((unhide HBz).more hb7).lt; have HB7 := hide hb7; clear hb7))
            go_quiet (fail)
            go_wp2
            go_roundg (gk - 1)
            case measure => omega
            case rel => exact ⟨q + 1, by go_num, by omega, below_drewE ((unhide HBqz).trans (((unhide HB7).alloc (unhide HB7).size _).mono (unhide HBqz).size)) _⟩
        · have hqz : ¬ (q : Int) < (j : Int) := by omega
          clear hbz
          go_wp2
          go_ret
          exact ⟨rfl, (unhide HBz).below⟩
end Go.Proofs.Ytlbkoafeedlfaaa
