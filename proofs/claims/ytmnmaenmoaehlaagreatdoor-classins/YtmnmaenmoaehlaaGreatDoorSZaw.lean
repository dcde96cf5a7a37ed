/-
  The document's UTF-8: the first code point.
-/
import Derived.Test.YtmnmaenmoaehlaaGreatDoorSZav
namespace Go.Proofs.YtmnmaenmoaehlaaGreatDoor
open Go.RowKit Go.Lib

theorem wants_le (c : Nat) : wantsM c = none ∨ ∃ n lo hi, wantsM c = some (n, lo, hi) ∧ n ≤ 3 ∧ lo < 256 ∧ hi < 256 ∧ (n = 0 → c < 128) := by
  unfold wantsM
  by_cases h0 : c < 128
  · rw [if_pos h0]; exact .inr ⟨0, 0, 0, rfl, by omega, by omega, by omega, fun _ => h0⟩
  rw [if_neg h0]
  repeat' split
  all_goals first
    | exact .inl rfl
    | exact .inr ⟨_, _, _, rfl, by omega, by omega, by omega, fun h => by omega⟩

set_option maxHeartbeats 8000000 in
set_option maxRecDepth 100000 in
theorem dutf8_rest (n : Nat) (hn1 : 1 ≤ n) (hn3 : n ≤ 3) (lo0 hi0 : Nat) (l : List UInt8) (c0 : UInt8) (t : List UInt8) (hl : l = c0 :: t) (fin : Bool) (hw : wantsM c0.toNat = some (n, lo0, hi0)) (w : World) (a : Option Addr) (cap : Nat) (hb : BytesAt w a l) (hlen : l.length ≤ 140737488355328) :
    Calls Tryz.prog 130 #[.slice a l.length cap, .bool fin] w fun e w' => e = .returned (.tuple #[.int .i32 (utf8M l fin).1, .int .i64 (utf8M l fin).2]) ∧ w' = w := by
  have hu : utf8M l fin = restU l fin n 1 lo0 hi0 (c0.toNat % (if n = 1 then 32 else if n = 2 then 16 else 8)) := by
    subst hl
    unfold utf8M
    show (match wantsM c0.toNat with | none => _ | some (n, low, high) => _) = _
    rw [hw]
    simp only
    rw [if_neg (show ¬ n = 0 by omega)]
    rfl
  obtain ⟨q, hq⟩ : ∃ q, utf8M l fin = q := ⟨_, rfl⟩
  rw [hq]
  have HQ : Hid (q = restU l fin n 1 lo0 hi0 (c0.toNat % (if n = 1 then 32 else if n = 2 then 16 else 8))) := hide (hq.symm.trans hu)
  have HB := hide hb
  obtain ⟨b, off, rfl, d0⟩ := hb 0 c0 (by rw [hl]; rfl)
  rw [Nat.add_zero] at d0
  have h1len : (1 : Int) ≤ (l.length : Int) := by rw [hl]; simp; omega
  have h0len : (0 : Int) < (l.length : Int) := by omega
  have HW := hide (wants_any c0 w)
  have hwv : wantsV c0.toNat = ((n : Int), lo0, hi0) := by rw [wantsV_eq, hw]
  rw [hwv] at HW
  simp only at HW
  have hc := c0.toNat_lt
  clear hq hu hb hw hwv hl
  rcases (by omega : n = 1 ∨ n = 2 ∨ n = 3) with rfl | rfl | rfl
  · have HQ1 : Hid (q = restU l fin 1 1 lo0 hi0 (c0.toNat % 32)) := hide (by have := unhide HQ; simpa using this)
    clear HQ hn1 hn3
    go_enter Tryz.func130, Tryz.ntmps130
    go_wp2_with (go_at_call 140; refine (unhide HW).mono ?_; rintro e w1 ⟨rfl, hw⟩; rw [hw]; clear hw)
    go_loopg [7, 8, 9, 10] 1 (fun g v7 v8 v9 v10 wx => ∃ i lo hi v : Nat, i + g = 2 ∧ 1 ≤ i ∧ v10 = .int .i64 i ∧ v7 = .int .u8 lo ∧ v8 = .int .u8 hi ∧ v9 = .int .i32 v ∧ wx = w ∧ i ≤ l.length ∧ v * 64 ^ g < 2097152 ∧ q = restU l fin g i lo hi v)
    case atStart => exact ⟨1, lo0, hi0, c0.toNat % 32, by omega, by omega, rfl, rfl, rfl, by push_cast; rfl, rfl, by omega, by omega, unhide HQ1⟩
    case round =>
      obtain ⟨i, lo, hi, v, hig, hi1, rfl, rfl, rfl, rfl, rfl, hil, hvb, hq⟩ := hrel
      cases gk with
      | zero =>
        have hgt : ¬ ((i : Int) ≤ 1) := by omega
        have hq2 : q = (v, i) := hq
        obtain rfl : i = 2 := by omega
        have HQ2 := hide hq2
        clear hq hq2 hvb
        go_wp2
        go_ret2
        exact ⟨by rw [unhide HQ2]; rfl, rfl⟩
      | succ k =>
        have hle : (i : Int) ≤ 1 := by omega
        rw [restU] at hq
        by_cases he : i = l.length
        · have heq : ((i : Int) == (l.length : Int)) = true := by simp [he]
          rw [if_pos he] at hq
          clear he hvb
          cases fin with
          | true =>
            have HQ2 : Hid (q = (65533, i)) := hide hq
            clear hq
            go_wp2
            go_ret2
            exact ⟨by rw [unhide HQ2]; rfl, rfl⟩
          | false =>
            have HQ2 : Hid (q = (0, 0)) := hide hq
            clear hq
            go_wp2
            go_ret2
            exact ⟨by rw [unhide HQ2]; rfl, rfl⟩
        · have heq : ((i : Int) == (l.length : Int)) = false := by rw [beq_eq_false_iff_ne]; omega
          rw [if_neg he] at hq
          have hlt : i < l.length := by omega
          have hltz : (i : Int) < (l.length : Int) := by omega
          obtain ⟨c, hx⟩ : ∃ c, l[i]? = some c := ⟨_, List.getElem?_eq_getElem hlt⟩
          have hg : l.getD i 0 = c := by rw [List.getD, hx]; rfl
          rw [hg] at hq
          obtain ⟨b2, off2, e2, c0d⟩ := (unhide HB) i c hx
          cases e2
          clear hx hg he
          by_cases hlo : c.toNat < lo
          · have hloz : (c.toNat : Int) < (lo : Int) := by omega
            have HQ2 : Hid (q = (65533, i)) := hide (by rw [if_pos (.inl hlo)] at hq; exact hq)
            clear hq hvb hlo
            go_wp2
            go_ret2
            exact ⟨by rw [unhide HQ2]; rfl, rfl⟩
          · have hloz : ¬ (c.toNat : Int) < (lo : Int) := by omega
            by_cases hhi : hi < c.toNat
            · have hhiz : (hi : Int) < (c.toNat : Int) := by omega
              have HQ2 : Hid (q = (65533, i)) := hide (by rw [if_pos (.inr hhi)] at hq; exact hq)
              clear hq hvb hlo hhi
              go_wp2
              go_ret2
              exact ⟨by rw [unhide HQ2]; rfl, rfl⟩
            · have hhiz : ¬ (hi : Int) < (c.toNat : Int) := by omega
              have HQ2 : Hid (q = restU l fin k (i + 1) 128 191 (v * 64 + c.toNat % 64)) := hide (by rw [if_neg (by omega)] at hq; exact hq)
              have hv2 : v * 64 < 2097152 := by
                rw [Nat.pow_succ] at hvb
                have h1 : 1 ≤ 64 ^ k := Nat.pos_of_ne_zero (by simp)
                have h2 : v * 64 * 1 ≤ v * 64 * 64 ^ k := Nat.mul_le_mul_left _ h1
                have h3 : v * (64 ^ k * 64) = v * 64 * 64 ^ k := by rw [Nat.mul_comm (64 ^ k) 64, Nat.mul_assoc]
                omega
              have hvn : (v * 64 + c.toNat % 64) * 64 ^ k < 2097152 := by
                have hk3 : k = 0 ∨ k = 1 ∨ k = 2 := by omega
                rcases hk3 with rfl | rfl | rfl
                · simp at hvb ⊢; omega
                · simp at hvb ⊢; omega
                · simp at hvb ⊢; omega
              have HVN := hide hvn
              clear hq hvb hlo hhi hvn
              go_wp2
              go_roundg k
              case measure => omega
              case rel => exact ⟨i + 1, 128, 191, v * 64 + c.toNat % 64, by omega, by omega, by go_num, rfl, rfl, by push_cast; rfl, rfl, by omega, unhide HVN, unhide HQ2⟩
  · have HQ1 : Hid (q = restU l fin 2 1 lo0 hi0 (c0.toNat % 16)) := hide (by have := unhide HQ; simpa using this)
    clear HQ hn1 hn3
    go_enter Tryz.func130, Tryz.ntmps130
    go_wp2_with (go_at_call 140; refine (unhide HW).mono ?_; rintro e w1 ⟨rfl, hw⟩; rw [hw]; clear hw)
    go_loopg [7, 8, 9, 10] 2 (fun g v7 v8 v9 v10 wx => ∃ i lo hi v : Nat, i + g = 3 ∧ 1 ≤ i ∧ v10 = .int .i64 i ∧ v7 = .int .u8 lo ∧ v8 = .int .u8 hi ∧ v9 = .int .i32 v ∧ wx = w ∧ i ≤ l.length ∧ v * 64 ^ g < 2097152 ∧ q = restU l fin g i lo hi v)
    case atStart => exact ⟨1, lo0, hi0, c0.toNat % 16, by omega, by omega, rfl, rfl, rfl, by push_cast; rfl, rfl, by omega, by omega, unhide HQ1⟩
    case round =>
      obtain ⟨i, lo, hi, v, hig, hi1, rfl, rfl, rfl, rfl, rfl, hil, hvb, hq⟩ := hrel
      cases gk with
      | zero =>
        have hgt : ¬ ((i : Int) ≤ 2) := by omega
        have hq2 : q = (v, i) := hq
        obtain rfl : i = 3 := by omega
        have HQ2 := hide hq2
        clear hq hq2 hvb
        go_wp2
        go_ret2
        exact ⟨by rw [unhide HQ2]; rfl, rfl⟩
      | succ k =>
        have hle : (i : Int) ≤ 2 := by omega
        rw [restU] at hq
        by_cases he : i = l.length
        · have heq : ((i : Int) == (l.length : Int)) = true := by simp [he]
          rw [if_pos he] at hq
          clear he hvb
          cases fin with
          | true =>
            have HQ2 : Hid (q = (65533, i)) := hide hq
            clear hq
            go_wp2
            go_ret2
            exact ⟨by rw [unhide HQ2]; rfl, rfl⟩
          | false =>
            have HQ2 : Hid (q = (0, 0)) := hide hq
            clear hq
            go_wp2
            go_ret2
            exact ⟨by rw [unhide HQ2]; rfl, rfl⟩
        · have heq : ((i : Int) == (l.length : Int)) = false := by rw [beq_eq_false_iff_ne]; omega
          rw [if_neg he] at hq
          have hlt : i < l.length := by omega
          have hltz : (i : Int) < (l.length : Int) := by omega
          obtain ⟨c, hx⟩ : ∃ c, l[i]? = some c := ⟨_, List.getElem?_eq_getElem hlt⟩
          have hg : l.getD i 0 = c := by rw [List.getD, hx]; rfl
          rw [hg] at hq
          obtain ⟨b2, off2, e2, c0d⟩ := (unhide HB) i c hx
          cases e2
          clear hx hg he
          by_cases hlo : c.toNat < lo
          · have hloz : (c.toNat : Int) < (lo : Int) := by omega
            have HQ2 : Hid (q = (65533, i)) := hide (by rw [if_pos (.inl hlo)] at hq; exact hq)
            clear hq hvb hlo
            go_wp2
            go_ret2
            exact ⟨by rw [unhide HQ2]; rfl, rfl⟩
          · have hloz : ¬ (c.toNat : Int) < (lo : Int) := by omega
            by_cases hhi : hi < c.toNat
            · have hhiz : (hi : Int) < (c.toNat : Int) := by omega
              have HQ2 : Hid (q = (65533, i)) := hide (by rw [if_pos (.inr hhi)] at hq; exact hq)
              clear hq hvb hlo hhi
              go_wp2
              go_ret2
              exact ⟨by rw [unhide HQ2]; rfl, rfl⟩
            · have hhiz : ¬ (hi : Int) < (c.toNat : Int) := by omega
              have HQ2 : Hid (q = restU l fin k (i + 1) 128 191 (v * 64 + c.toNat % 64)) := hide (by rw [if_neg (by omega)] at hq; exact hq)
              have hv2 : v * 64 < 2097152 := by
                rw [Nat.pow_succ] at hvb
                have h1 : 1 ≤ 64 ^ k := Nat.pos_of_ne_zero (by simp)
                have h2 : v * 64 * 1 ≤ v * 64 * 64 ^ k := Nat.mul_le_mul_left _ h1
                have h3 : v * (64 ^ k * 64) = v * 64 * 64 ^ k := by rw [Nat.mul_comm (64 ^ k) 64, Nat.mul_assoc]
                omega
              have hvn : (v * 64 + c.toNat % 64) * 64 ^ k < 2097152 := by
                have hk3 : k = 0 ∨ k = 1 ∨ k = 2 := by omega
                rcases hk3 with rfl | rfl | rfl
                · simp at hvb ⊢; omega
                · simp at hvb ⊢; omega
                · simp at hvb ⊢; omega
              have HVN := hide hvn
              clear hq hvb hlo hhi hvn
              go_wp2
              go_roundg k
              case measure => omega
              case rel => exact ⟨i + 1, 128, 191, v * 64 + c.toNat % 64, by omega, by omega, by go_num, rfl, rfl, by push_cast; rfl, rfl, by omega, unhide HVN, unhide HQ2⟩
  · have HQ1 : Hid (q = restU l fin 3 1 lo0 hi0 (c0.toNat % 8)) := hide (by have := unhide HQ; simpa using this)
    clear HQ hn1 hn3
    go_enter Tryz.func130, Tryz.ntmps130
    go_wp2_with (go_at_call 140; refine (unhide HW).mono ?_; rintro e w1 ⟨rfl, hw⟩; rw [hw]; clear hw)
    go_loopg [7, 8, 9, 10] 3 (fun g v7 v8 v9 v10 wx => ∃ i lo hi v : Nat, i + g = 4 ∧ 1 ≤ i ∧ v10 = .int .i64 i ∧ v7 = .int .u8 lo ∧ v8 = .int .u8 hi ∧ v9 = .int .i32 v ∧ wx = w ∧ i ≤ l.length ∧ v * 64 ^ g < 2097152 ∧ q = restU l fin g i lo hi v)
    case atStart => exact ⟨1, lo0, hi0, c0.toNat % 8, by omega, by omega, rfl, rfl, rfl, by push_cast; rfl, rfl, by omega, by omega, unhide HQ1⟩
    case round =>
      obtain ⟨i, lo, hi, v, hig, hi1, rfl, rfl, rfl, rfl, rfl, hil, hvb, hq⟩ := hrel
      cases gk with
      | zero =>
        have hgt : ¬ ((i : Int) ≤ 3) := by omega
        have hq2 : q = (v, i) := hq
        obtain rfl : i = 4 := by omega
        have HQ2 := hide hq2
        clear hq hq2 hvb
        go_wp2
        go_ret2
        exact ⟨by rw [unhide HQ2]; rfl, rfl⟩
      | succ k =>
        have hle : (i : Int) ≤ 3 := by omega
        rw [restU] at hq
        by_cases he : i = l.length
        · have heq : ((i : Int) == (l.length : Int)) = true := by simp [he]
          rw [if_pos he] at hq
          clear he hvb
          cases fin with
          | true =>
            have HQ2 : Hid (q = (65533, i)) := hide hq
            clear hq
            go_wp2
            go_ret2
            exact ⟨by rw [unhide HQ2]; rfl, rfl⟩
          | false =>
            have HQ2 : Hid (q = (0, 0)) := hide hq
            clear hq
            go_wp2
            go_ret2
            exact ⟨by rw [unhide HQ2]; rfl, rfl⟩
        · have heq : ((i : Int) == (l.length : Int)) = false := by rw [beq_eq_false_iff_ne]; omega
          rw [if_neg he] at hq
          have hlt : i < l.length := by omega
          have hltz : (i : Int) < (l.length : Int) := by omega
          obtain ⟨c, hx⟩ : ∃ c, l[i]? = some c := ⟨_, List.getElem?_eq_getElem hlt⟩
          have hg : l.getD i 0 = c := by rw [List.getD, hx]; rfl
          rw [hg] at hq
          obtain ⟨b2, off2, e2, c0d⟩ := (unhide HB) i c hx
          cases e2
          clear hx hg he
          by_cases hlo : c.toNat < lo
          · have hloz : (c.toNat : Int) < (lo : Int) := by omega
            have HQ2 : Hid (q = (65533, i)) := hide (by rw [if_pos (.inl hlo)] at hq; exact hq)
            clear hq hvb hlo
            go_wp2
            go_ret2
            exact ⟨by rw [unhide HQ2]; rfl, rfl⟩
          · have hloz : ¬ (c.toNat : Int) < (lo : Int) := by omega
            by_cases hhi : hi < c.toNat
            · have hhiz : (hi : Int) < (c.toNat : Int) := by omega
              have HQ2 : Hid (q = (65533, i)) := hide (by rw [if_pos (.inr hhi)] at hq; exact hq)
              clear hq hvb hlo hhi
              go_wp2
              go_ret2
              exact ⟨by rw [unhide HQ2]; rfl, rfl⟩
            · have hhiz : ¬ (hi : Int) < (c.toNat : Int) := by omega
              have HQ2 : Hid (q = restU l fin k (i + 1) 128 191 (v * 64 + c.toNat % 64)) := hide (by rw [if_neg (by omega)] at hq; exact hq)
              have hv2 : v * 64 < 2097152 := by
                rw [Nat.pow_succ] at hvb
                have h1 : 1 ≤ 64 ^ k := Nat.pos_of_ne_zero (by simp)
                have h2 : v * 64 * 1 ≤ v * 64 * 64 ^ k := Nat.mul_le_mul_left _ h1
                have h3 : v * (64 ^ k * 64) = v * 64 * 64 ^ k := by rw [Nat.mul_comm (64 ^ k) 64, Nat.mul_assoc]
                omega
              have hvn : (v * 64 + c.toNat % 64) * 64 ^ k < 2097152 := by
                have hk3 : k = 0 ∨ k = 1 ∨ k = 2 := by omega
                rcases hk3 with rfl | rfl | rfl
                · simp at hvb ⊢; omega
                · simp at hvb ⊢; omega
                · simp at hvb ⊢; omega
              have HVN := hide hvn
              clear hq hvb hlo hhi hvn
              go_wp2
              go_roundg k
              case measure => omega
              case rel => exact ⟨i + 1, 128, 191, v * 64 + c.toNat % 64, by omega, by omega, by go_num, rfl, rfl, by push_cast; rfl, rfl, by omega, unhide HVN, unhide HQ2⟩

theorem dutf8_any (l : List UInt8) (hne : l ≠ []) (fin : Bool) (w : World) (a : Option Addr) (cap : Nat) (hb : BytesAt w a l) (hlen : l.length ≤ 140737488355328) :
    Calls Tryz.prog 130 #[.slice a l.length cap, .bool fin] w fun e w' => e = .returned (.tuple #[.int .i32 (utf8M l fin).1, .int .i64 (utf8M l fin).2]) ∧ w' = w := by
  cases hl : l with
  | nil => exact absurd hl hne
  | cons c0 t =>
    rw [← hl]
    have hu : utf8M l fin = (match wantsM c0.toNat with | none => (65533, 1) | some (n, low, high) => restU l fin n 1 low high (c0.toNat % (if n = 0 then 128 else if n = 1 then 32 else if n = 2 then 16 else 8))) := by subst hl; rfl
    have HW := hide (wants_any c0 w)
    obtain ⟨b, off, rfl, d0⟩ := hb 0 c0 (by rw [hl]; rfl)
    rw [Nat.add_zero] at d0
    have h0len : (0 : Int) < (l.length : Int) := by rw [hl]; simp
    have hc := c0.toNat_lt
    rcases wants_le c0.toNat with hw | ⟨n, lo, hi, hw, hn3, _, _, hz⟩
    · have HQ : Hid (utf8M l fin = (65533, 1)) := hide (by rw [hu, hw])
      rw [wantsV_eq, hw] at HW
      simp only at HW
      clear hu hw hl hb
      generalize utf8M l fin = q at HQ ⊢
      go_enter Tryz.func130, Tryz.ntmps130
      go_wp2_with (go_at_call 140; refine (unhide HW).mono ?_; rintro e w1 ⟨rfl, hw⟩; rw [hw]; clear hw)
      go_ret2
      exact ⟨by rw [unhide HQ]; rfl, rfl⟩
    · by_cases hn0 : n = 0
      · subst hn0
        have hlt := hz rfl
        have HQ : Hid (utf8M l fin = (c0.toNat, 1)) := hide (by rw [hu, hw]; show restU l fin 0 1 lo hi (c0.toNat % 128) = _; rw [Nat.mod_eq_of_lt hlt]; rfl)
        rw [wantsV_eq, hw] at HW
        simp only at HW
        clear hu hw hl hb
        generalize utf8M l fin = q at HQ ⊢
        go_enter Tryz.func130, Tryz.ntmps130
        go_wp2_with (go_at_call 140; refine (unhide HW).mono ?_; rintro e w1 ⟨rfl, hw⟩; rw [hw]; clear hw)
        go_ret2
        exact ⟨by rw [unhide HQ]; rfl, rfl⟩
      · exact dutf8_rest n (by omega) hn3 lo hi l c0 t hl fin hw w _ cap hb hlen
end Go.Proofs.YtmnmaenmoaehlaaGreatDoor
