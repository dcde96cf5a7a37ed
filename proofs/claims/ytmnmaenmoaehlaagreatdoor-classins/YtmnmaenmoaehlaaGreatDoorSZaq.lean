/-
  Names: which are plain ones, by the program and by the document. strings.IndexRune of two ASCII letters at other runes; what is plain.
-/
import Derived.Test.YtmnmaenmoaehlaaGreatDoorSZap
import Derived.Test.YtmnmaenmoaehlaaGreatDoorSZaj
import Derived.Test.YtmnmaenmoaehlaaGreatDoorSZal
import Derived.Laws.IdiomStrings
import Derived.Test.YtmnmaenmoaehlaaGreatDoorSZam
import Derived.Scope
namespace Go.Proofs.YtmnmaenmoaehlaaGreatDoor
open Go.RowKit Go.Lib

def letB (c : UInt8) : Bool := decide (97 ≤ c.toNat) && decide (c.toNat ≤ 122)
def nameB (c : UInt8) : Bool := letB c || (decide (48 ≤ c.toNat) && decide (c.toNat ≤ 57)) || c.toNat == 45
def nameU (l : List UInt8) : Bool := (match l with | [] => false | c :: _ => letB c) && decide (l.length ≤ 50) && l.all nameB

theorem letB_yes {c : UInt8} (h1 : (97 : Int) ≤ (c.toNat : Int)) (h2 : (c.toNat : Int) ≤ 122) : letB c = true := by unfold letB; simp; omega
theorem letB_low {c : UInt8} (h1 : ¬ (97 : Int) ≤ (c.toNat : Int)) : letB c = false := by unfold letB; simp; omega
theorem letB_high {c : UInt8} (h1 : ¬ (c.toNat : Int) ≤ 122) : letB c = false := by unfold letB; simp; omega

theorem letter_any (c : UInt8) (w : World) : Calls Tryz.prog 99 #[.int .u8 (c.toNat : Int)] w fun e w' => e = .returned (.bool (letB c)) ∧ w' = w := by
  by_cases h1 : (97 : Int) ≤ (c.toNat : Int)
  · by_cases h2 : (c.toNat : Int) ≤ 122
    · have HB := hide (letB_yes h1 h2)
      go_enter Tryz.func99, Tryz.ntmps99
      go_wp2
      go_ret
      exact ⟨by rw [unhide HB]; rfl, rfl⟩
    · have HB := hide (letB_high h2)
      go_enter Tryz.func99, Tryz.ntmps99
      go_wp2
      go_ret
      exact ⟨by rw [unhide HB]; rfl, rfl⟩
  · have HB := hide (letB_low h1)
    go_enter Tryz.func99, Tryz.ntmps99
    go_wp2
    go_ret
    exact ⟨by rw [unhide HB]; rfl, rfl⟩

theorem brow_get (s : ByteArray) (cap k : Nat) (hk : k < s.size) : (bytesRow s cap)[k]? = (s.data.toList[k]?).map fun c => Value.int .u8 (c.toNat : Int) := by
  have hk' : k < s.data.size := hk
  unfold bytesRow
  rw [Array.getElem?_append_left (by simpa using hk')]
  simp
theorem brow_cell (w : World) (s : ByteArray) (cap k : Nat) (c : UInt8) (hc : s.data.toList[k]? = some c) : (w.alloc (.cells (bytesRow s cap) 5 ((bytesRow s cap).size, (bytesRow s cap).size + 1))).drew.cell? ⟨w.heap.size, k, none⟩ = some (.int .u8 (c.toNat : Int)) := by
  have hb : (w.alloc (.cells (bytesRow s cap) 5 ((bytesRow s cap).size, (bytesRow s cap).size + 1))).drew.heap[w.heap.size]? = some (.cells (bytesRow s cap) 5 ((bytesRow s cap).size, (bytesRow s cap).size + 1)) := heap_alloc_new w _
  have hk : k < s.size := by have := (List.getElem?_eq_some_iff.1 hc).1; rwa [len_data] at this
  rw [cell_row _ w.heap.size k _ _ _ hb, brow_get s cap k hk, hc]
  simp

theorem all_hit {l : List UInt8} {c : UInt8} (hc : c ∈ l) (h : nameB c = false) : l.all nameB = false := by
  rw [List.all_eq_false]
  exact ⟨c, hc, by rw [h]; exact Bool.false_ne_true⟩

set_option maxHeartbeats 4000000 in
theorem pname_any (s : ByteArray) (w : World) (hs : (s.size : Int) ≤ 140737488355328) :
    Calls Tryz.prog 80 #[.string s] w fun e w' => e = .returned (.bool (nameU s.data.toList)) ∧ Below w.heap.size w w' := by
  have hn := len_data s
  by_cases h0 : s.size = 0
  · have he : s.toList.isEmpty = true := by rw [toList_data, List.isEmpty_iff, ← List.length_eq_zero_iff, hn, h0]
    have HU : Hid (nameU s.data.toList = false) := hide (by rw [List.length_eq_zero_iff.1 (hn.trans h0)]; rfl)
    clear hn
    go_enter Tryz.func80, Tryz.ntmps80
    go_wp2
    go_ret
    exact ⟨by rw [unhide HU]; rfl, Below.refl _ _⟩
  have he : s.toList.isEmpty = false := by
    rw [toList_data, Bool.eq_false_iff]
    intro h
    rw [List.isEmpty_iff, ← List.length_eq_zero_iff, hn] at h
    exact h0 h
  by_cases h5 : (50 : Int) < (s.size : Int)
  · have HU : Hid (nameU s.data.toList = false) := hide (by unfold nameU; rw [hn, show decide (s.size ≤ 50) = false from decide_eq_false (by omega)]; simp)
    clear hn
    go_enter Tryz.func80, Tryz.ntmps80
    go_wp2
    go_ret
    exact ⟨by rw [unhide HU]; rfl, Below.refl _ _⟩
  have hi0 : 0 < s.size := by omega
  obtain ⟨c0, hc0⟩ : ∃ c0 : UInt8, s[0]'hi0 = c0 := ⟨_, rfl⟩
  have hl0 : s.data.toList[0]? = some c0 := by rw [List.getElem?_eq_getElem (by rw [hn]; exact hi0), ← hc0]; rfl
  obtain ⟨t, ht⟩ : ∃ t, s.data.toList = c0 :: t := by
    cases h : s.data.toList with
    | nil => rw [h] at hl0; cases hl0
    | cons a t => rw [h] at hl0; cases hl0; exact ⟨t, rfl⟩
  cases hb : letB c0
  · have HU : Hid (nameU s.data.toList = false) := hide (by unfold nameU; rw [ht]; simp only; rw [hb]; rfl)
    clear hn hl0 ht
    go_enter Tryz.func80, Tryz.ntmps80
    go_wp2_with (go_at_call 99; refine (letter_any c0 _).mono ?_; rintro e w1 ⟨rfl, hw⟩; rw [hb, hw]; clear hw)
    go_ret
    exact ⟨by rw [unhide HU]; rfl, Below.refl _ _⟩
  have HU : Hid (nameU s.data.toList = s.data.toList.all nameB) := hide (by unfold nameU; rw [hn, show decide (s.size ≤ 50) = true from decide_eq_true (by omega), ht]; simp only; rw [hb]; simp)
  have HN := hide hn
  clear hn hl0 ht
  have hcv := fun W => run_bytes_of_string (P := Tryz.prog) W 9 101 5 s Tryz.underlying9 Tryz.underlying101 Tryz.underlying5
  go_enter Tryz.func80, Tryz.ntmps80
  go_wp2_with (go_at_call 99; refine (letter_any c0 _).mono ?_; rintro e w1 ⟨rfl, hw⟩; rw [hb, hw]; clear hw)
  generalize grownCap w s.size 0 5 = cap
  have HC : Hid (∀ k c, s.data.toList[k]? = some c → (w.alloc (.cells (bytesRow s cap) 5 ((bytesRow s cap).size, (bytesRow s cap).size + 1))).drew.cell? ⟨w.heap.size, k, none⟩ = some (.int .u8 (c.toNat : Int))) := hide (fun k c h => brow_cell w s cap k c h)
  have HB : Hid (Below w.heap.size w (w.alloc (.cells (bytesRow s cap) 5 ((bytesRow s cap).size, (bytesRow s cap).size + 1))).drew) := hide (((Below.refl _ _).alloc (Nat.le_refl _) _).drew)
  generalize (w.alloc (.cells (bytesRow s cap) 5 ((bytesRow s cap).size, (bytesRow s cap).size + 1))).drew = W at HC HB
  clear hcv
  go_loopg [4, 21, 23, 24, 25, 26, 27, 28, 29, 30, 31, 32, 33, 34, 35, 36, 37, 38, 39, 40] s.size (fun g v4 v21 v23 v24 v25 v26 v27 v28 v29 v30 v31 v32 v33 v34 v35 v36 v37 v38 v39 v40 wx => ∃ i : Nat, i + g = s.size ∧ v21 = .int .i64 i ∧ wx = W ∧ (s.data.toList.take i).all nameB = true)
  case atStart => exact ⟨0, by omega, rfl, rfl, rfl⟩
  case round =>
    obtain ⟨i, hig, rfl, rfl, hal⟩ := hrel
    by_cases hi : i < s.size
    · have hiz : (i : Int) < (s.size : Int) := by omega
      obtain ⟨c, hx⟩ : ∃ c, s.data.toList[i]? = some c := ⟨_, List.getElem?_eq_getElem (by rw [unhide HN]; exact hi)⟩
      have d0 := unhide HC i c hx
      have HNX : Hid (nameB c = true → (s.data.toList.take (i + 1)).all nameB = true) := hide (fun h => by rw [List.take_add_one, hx, List.all_append, hal]; simp [h])
      have HNO : Hid (nameB c = false → nameU s.data.toList = false) := hide (fun h => by rw [unhide HU]; exact all_hit (List.mem_of_getElem? hx) h)
      clear hx hal
      cases hlb : letB c
      · by_cases h2 : (c.toNat : Int) < 48
        · by_cases h4 : (c.toNat : Int) = 45
          · have hq : ((c.toNat : Int) == 45) = true := by simp [h4]
            have HV := hide (unhide HNX (by unfold nameB; rw [hlb, show (c.toNat == 45) = true by simp; omega]; simp))
            clear h4
            go_wp2_with (go_at_call 99; refine (letter_any c _).mono ?_; rintro e w1 ⟨rfl, hw⟩; rw [hlb, hw]; clear hw)
            go_roundg (gk - 1)
            case measure => omega
            case rel => exact ⟨i + 1, by omega, by go_num, rfl, unhide HV⟩
          · have hq : ((c.toNat : Int) == 45) = false := by simp [h4]
            have HV := hide (unhide HNO (by unfold nameB; rw [hlb, show (c.toNat == 45) = false by simp; omega, show decide (48 ≤ c.toNat) = false from decide_eq_false (by omega)]; simp))
            clear h4
            go_wp2_with (go_at_call 99; refine (letter_any c _).mono ?_; rintro e w1 ⟨rfl, hw⟩; rw [hlb, hw]; clear hw)
            go_ret
            exact ⟨by rw [unhide HV]; rfl, unhide HB⟩
        · by_cases h3 : (57 : Int) < (c.toNat : Int)
          · have hq : ((c.toNat : Int) == 45) = false := by simp; omega
            have HV := hide (unhide HNO (by unfold nameB; rw [hlb, show (c.toNat == 45) = false by simp; omega, show decide (c.toNat ≤ 57) = false from decide_eq_false (by omega)]; simp))
            go_wp2_with (go_at_call 99; refine (letter_any c _).mono ?_; rintro e w1 ⟨rfl, hw⟩; rw [hlb, hw]; clear hw)
            go_ret
            exact ⟨by rw [unhide HV]; rfl, unhide HB⟩
          · have HV := hide (unhide HNX (by unfold nameB; rw [hlb, show decide (48 ≤ c.toNat) = true from decide_eq_true (by omega), show decide (c.toNat ≤ 57) = true from decide_eq_true (by omega)]; simp))
            go_wp2_with (go_at_call 99; refine (letter_any c _).mono ?_; rintro e w1 ⟨rfl, hw⟩; rw [hlb, hw]; clear hw)
            go_roundg (gk - 1)
            case measure => omega
            case rel => exact ⟨i + 1, by omega, by go_num, rfl, unhide HV⟩
      · have HV := hide (unhide HNX (by unfold nameB; rw [hlb]; rfl))
        go_wp2_with (go_at_call 99; refine (letter_any c _).mono ?_; rintro e w1 ⟨rfl, hw⟩; rw [hlb, hw]; clear hw)
        go_roundg (gk - 1)
        case measure => omega
        case rel => exact ⟨i + 1, by omega, by go_num, rfl, unhide HV⟩
    · have hiz : ¬ (i : Int) < (s.size : Int) := by omega
      have HV : Hid (nameU s.data.toList = true) := hide (by rw [unhide HU, ← hal, List.take_of_length_le (by rw [unhide HN]; omega)])
      clear hal
      go_wp2
      go_ret
      exact ⟨by rw [unhide HV]; rfl, unhide HB⟩

def NameTo (l : List UInt8) (i : Nat) : Prop := ∀ k c, k < i → l[k]? = some c → nameB c = true ∧ (k = 0 → letB c = true)
theorem NameTo.succ {l : List UInt8} {i : Nat} {c : UInt8} (h : NameTo l i) (hx : l[i]? = some c) (h1 : nameB c = true) (h2 : i = 0 → letB c = true) : NameTo l (i + 1) := by
  intro k d hk hd
  by_cases e : k = i
  · subst e; rw [hx] at hd; cases hd; exact ⟨h1, h2⟩
  · exact h k d (by omega) hd
theorem NameTo.first {l : List UInt8} {c : UInt8} (hx : l[0]? = some c) (h2 : letB c = false) : nameU l = false := by
  cases l with
  | nil => rfl
  | cons a t => cases hx; unfold nameU; simp [h2]
theorem NameTo.other {l : List UInt8} {i : Nat} {c : UInt8} (hx : l[i]? = some c) (h2 : nameB c = false) : nameU l = false := by
  unfold nameU
  rw [all_hit (List.mem_of_getElem? hx) h2, Bool.and_false]
theorem NameTo.done {l : List UInt8} (h : NameTo l l.length) : nameU l = (decide (1 ≤ l.length) && decide (l.length ≤ 50)) := by
  cases l with
  | nil => rfl
  | cons a t =>
    have h1 := (h 0 a (by simp) rfl).2 rfl
    have h2 : (a :: t).all nameB = true := by
      rw [List.all_eq_true]
      intro c hc
      obtain ⟨k, hk⟩ := List.getElem?_of_mem hc
      exact (h k c (List.getElem?_eq_some_iff.1 hk).1 hk).1
    unfold nameU
    rw [h2]
    simp [h1]

/-- The document's. -/
theorem xname_any (s : ByteArray) (w : World) (hs : (s.size : Int) ≤ 140737488355328) : Calls Tryz.prog 62 #[.string s] w fun e w' => e = .returned (.bool (nameU s.data.toList)) ∧ w' = w := by
  have hn := len_data s
  have HN := hide hn
  clear hn
  go_enter Tryz.func62, Tryz.ntmps62
  go_wp2
  go_loopg [3, 4, 5, 6, 7, 8, 9, 10, 11, 12, 13, 14, 15, 16, 17, 18, 19, 20, 21, 22, 23, 24, 25, 26, 27, 28, 29, 30, 31, 32, 33, 34, 35, 36, 37, 38, 39, 40, 41, 42, 43, 44] s.size (fun g v3 v4 v5 v6 v7 v8 v9 v10 v11 v12 v13 v14 v15 v16 v17 v18 v19 v20 v21 v22 v23 v24 v25 v26 v27 v28 v29 v30 v31 v32 v33 v34 v35 v36 v37 v38 v39 v40 v41 v42 v43 v44 wx => ∃ i : Nat, i + g = s.size ∧ v3 = .int .i64 i ∧ wx = w ∧ NameTo s.data.toList i)
  case atStart => exact ⟨0, by omega, rfl, rfl, fun k _ hk => absurd hk (Nat.not_lt_zero _)⟩
  case round =>
    obtain ⟨i, hig, rfl, rfl, hal⟩ := hrel
    by_cases hi : i < s.size
    · have hiz : (i : Int) < (s.size : Int) := by omega
      obtain ⟨c, hx⟩ : ∃ c, s.data.toList[i]? = some c := ⟨_, List.getElem?_eq_getElem (by rw [unhide HN]; exact hi)⟩
      obtain ⟨c', hc'⟩ : ∃ c' : UInt8, s[i]'hi = c' := ⟨_, rfl⟩
      have hxe : s.data.toList[i]? = some s[i] := by rw [List.getElem?_eq_getElem (by rw [unhide HN]; exact hi)]; rfl
      obtain rfl : c = c' := by rw [hx] at hxe; rw [← hc']; exact Option.some.inj hxe
      clear hxe
      have HX : Hid (s.data.toList[i]? = some c) := hide hx
      have HA := hide hal
      clear hx hal
      by_cases ha : (97 : Int) ≤ (c.toNat : Int)
      · by_cases hz : (c.toNat : Int) ≤ 122
        · have hlb := letB_yes ha hz
          have HV : Hid (NameTo s.data.toList (i + 1)) := hide ((unhide HA).succ (unhide HX) (by unfold nameB; rw [hlb]; rfl) (fun _ => hlb))
          clear hlb
          go_wp2
          go_roundg (gk - 1)
          case measure => omega
          case rel => exact ⟨i + 1, by omega, by go_num, rfl, unhide HV⟩
        · have hlb := letB_high hz
          have hq : ((c.toNat : Int) != 45) = true := by simp; omega
          have h4 : ¬ (c.toNat : Int) < 48 := by omega
          have h5 : (57 : Int) < (c.toNat : Int) := by omega
          have HV : Hid (nameU s.data.toList = false) := hide (NameTo.other (unhide HX) (by unfold nameB; rw [hlb, show (c.toNat == 45) = false by simp; omega, show decide (c.toNat ≤ 57) = false from decide_eq_false (by omega)]; simp))
          clear hlb
          cases i with
          | zero =>
            go_wp2
            go_ret
            exact ⟨by rw [unhide HV]; rfl, rfl⟩
          | succ i =>
            have hi0 : ((i : Int) + 1 == 0) = false := by simp; omega
            go_wp2
            go_ret
            exact ⟨by rw [unhide HV]; rfl, rfl⟩
      · have hlb := letB_low ha
        cases i with
        | zero =>
          have HV : Hid (nameU s.data.toList = false) := hide (NameTo.first (unhide HX) hlb)
          clear hlb
          go_wp2
          go_ret
          exact ⟨by rw [unhide HV]; rfl, rfl⟩
        | succ i =>
          have hi0 : ((i : Int) + 1 == 0) = false := by simp; omega
          by_cases h4 : (c.toNat : Int) = 45
          · have hq : ((c.toNat : Int) != 45) = false := by simp [h4]
            have HV : Hid (NameTo s.data.toList (i + 1 + 1)) := hide ((unhide HA).succ (unhide HX) (by unfold nameB; rw [show (c.toNat == 45) = true by simp; omega]; simp) (fun e => by omega))
            clear h4 hlb
            go_wp2
            go_roundg (gk - 1)
            case measure => omega
            case rel => exact ⟨i + 1 + 1, by omega, by go_num, rfl, unhide HV⟩
          · have hq : ((c.toNat : Int) != 45) = true := by simp [h4]
            by_cases h2 : (c.toNat : Int) < 48
            · have HV : Hid (nameU s.data.toList = false) := hide (NameTo.other (unhide HX) (by unfold nameB; rw [hlb, show (c.toNat == 45) = false by simp; omega, show decide (48 ≤ c.toNat) = false from decide_eq_false (by omega)]; simp))
              clear hlb h4
              go_wp2
              go_ret
              exact ⟨by rw [unhide HV]; rfl, rfl⟩
            · by_cases h3 : (57 : Int) < (c.toNat : Int)
              · have HV : Hid (nameU s.data.toList = false) := hide (NameTo.other (unhide HX) (by unfold nameB; rw [hlb, show (c.toNat == 45) = false by simp; omega, show decide (c.toNat ≤ 57) = false from decide_eq_false (by omega)]; simp))
                clear hlb h4
                go_wp2
                go_ret
                exact ⟨by rw [unhide HV]; rfl, rfl⟩
              · have HV : Hid (NameTo s.data.toList (i + 1 + 1)) := hide ((unhide HA).succ (unhide HX) (by unfold nameB; rw [show decide (48 ≤ c.toNat) = true from decide_eq_true (by omega), show decide (c.toNat ≤ 57) = true from decide_eq_true (by omega)]; simp) (fun e => by omega))
                clear hlb h4
                go_wp2
                go_roundg (gk - 1)
                case measure => omega
                case rel => exact ⟨i + 1 + 1, by omega, by go_num, rfl, unhide HV⟩
    · have hiz : ¬ (i : Int) < (s.size : Int) := by omega
      have hie : i = s.data.toList.length := by rw [unhide HN]; omega
      have hd := NameTo.done (hie ▸ hal)
      rw [unhide HN] at hd
      clear hal hie
      by_cases h1 : (1 : Int) ≤ (s.size : Int)
      · by_cases h2 : (s.size : Int) ≤ 50
        · have HV : Hid (nameU s.data.toList = true) := hide (by rw [hd, decide_eq_true (show 1 ≤ s.size by omega), decide_eq_true (show s.size ≤ 50 by omega)]; rfl)
          clear hd
          go_wp2
          go_ret
          exact ⟨by rw [unhide HV]; rfl, rfl⟩
        · have HV : Hid (nameU s.data.toList = false) := hide (by rw [hd, decide_eq_false (show ¬ s.size ≤ 50 by omega)]; simp)
          clear hd
          go_wp2
          go_ret
          exact ⟨by rw [unhide HV]; rfl, rfl⟩
      · have HV : Hid (nameU s.data.toList = false) := hide (by rw [hd, decide_eq_false (show ¬ 1 ≤ s.size by omega)]; rfl)
        clear hd
        go_wp2
        go_ret
        exact ⟨by rw [unhide HV]; rfl, rfl⟩
end Go.Proofs.YtmnmaenmoaehlaaGreatDoor

namespace Go.Proofs.YtmnmaenmoaehlaaGreatDoor
open Go.RowKit Go.Lib

/-- 0 and 13. -/
def zr : ByteArray := ⟨#[0, 13]⟩

theorem ibyte_any (s : ByteArray) (c : UInt8) (w : World) : Calls Tryz.prog 136 #[.string s, .int .u8 (c.toNat : Int)] w fun e w' => e = .returned (.int .i64 (Lib.indexByte s.data.toList c)) ∧ w' = w :=
  by
  have := Any.strings_IndexByte { Tryz.lays152 with } s (c.toNat : Int) w
  rwa [show ((c.toNat : Int)).toNat.toUInt8 = c by simp] at this

theorem vrune_any (r : Int) (w : World) (hv : Utf8.valid r = true) : Calls Tryz.prog 137 #[.int .i32 r] w fun e w' => e = .returned (.bool true) ∧ w' = w := by
  have hd : 0 ≤ r ∧ r ≤ 1114111 ∧ (r < 55296 ∨ 57343 < r) := by
    unfold Utf8.valid at hv
    simp at hv
    omega
  clear hv
  obtain ⟨h0, h1, h2⟩ := hd
  by_cases h3 : r < 55296
  · clear h2
    go_enter Tryz.func137, Tryz.ntmps137
    go_wp2
    go_ret
    exact ⟨rfl, rfl⟩
  · have h4 : 57343 < r := by omega
    clear h2
    go_enter Tryz.func137, Tryz.ntmps137
    go_wp2
    go_ret
    exact ⟨rfl, rfl⟩

set_option maxHeartbeats 4000000 in
set_option maxRecDepth 1000000 in
theorem irune_mark (w : World) : Calls Tryz.prog 122 #[.string zr, .int .i32 65533] w fun e w' => e = .returned (.int .i64 (-1)) ∧ Below w.heap.size w w' := by
  unfold zr
  go_enter Tryz.func122, Tryz.ntmps122
  go_wp2
  go_loopg [5, 6, 176, 177, 178, 179, 180, 181] 2 (fun g v5 v6 v176 v177 v178 v179 v180 v181 wx => ∃ i : Nat, i + g = 2 ∧ wx = w.iter ⟨#[0, 13]⟩ i)
  case atStart => exact ⟨0, rfl, rfl⟩
  case round =>
    obtain ⟨i, hig, rfl⟩ := hrel
    rcases (by omega : i = 0 ∨ i = 1 ∨ i = 2) with rfl | rfl | rfl
    · have hnx := fun ty => run_next_ascii (P := Tryz.prog) w ⟨#[0, 13]⟩ 0 ty (by decide) (by decide)
      rw [show (⟨#[0, 13]⟩ : ByteArray)[0] = 0 by rfl] at hnx
      go_wp2
      go_roundg (gk - 1)
      case measure => omega
      case rel => exact ⟨1, by omega, rfl⟩
    · have hnx := fun ty => run_next_ascii (P := Tryz.prog) w ⟨#[0, 13]⟩ 1 ty (by decide) (by decide)
      rw [show (⟨#[0, 13]⟩ : ByteArray)[1] = 13 by rfl] at hnx
      go_wp2
      go_roundg (gk - 1)
      case measure => omega
      case rel => exact ⟨2, by omega, rfl⟩
    · have hnx := run_next_end (P := Tryz.prog) w ⟨#[0, 13]⟩ 2
      go_wp2
      go_ret
      exact ⟨rfl, (Below.refl _ _).alloc (Nat.le_refl _) _⟩

set_option maxHeartbeats 4000000 in
set_option maxRecDepth 1000000 in
theorem irune_two (r : Int) (w : World) (hv : Utf8.valid r = true) (h128 : 128 ≤ r) (hne : r ≠ 65533) (b0 b1 : UInt8) (he : Utf8.encode r = ⟨#[b0, b1]⟩) (hb : 128 ≤ b1.toNat) : Calls Tryz.prog 122 #[.string zr, .int .i32 r] w fun e w' => e = .returned (.int .i64 (-1)) ∧ Below w.heap.size w w' := by
  have hVR := hide (fun W => vrune_any r W hv)
  have hq : (r == 65533) = false := by simp [hne]
  have hlt : ¬ r < 128 := by omega
  have h0 : 0 ≤ r := by omega
  have hcv := fun W => run_convert_int_string (P := Tryz.prog) W 21 9 .i32 r (by rw [Tryz.underlying21]; rfl) Tryz.underlying9
  rw [he] at hcv
  have hb13 : ((((⟨#[0, 13]⟩ : ByteArray)[1]'(by decide)).toNat : Int) != ((((⟨#[b0, b1]⟩ : ByteArray)[1]'(by show 1 < 2; omega)).toNat : Nat) : Int)) = true := by
    have h : ((13 : Int) != (b1.toNat : Int)) = true := by simp; omega
    exact h
  clear hv hne h128 hb he
  unfold zr
  go_enter Tryz.func122, Tryz.ntmps122
  go_wp2_with (go_at_call 137; refine (unhide hVR _).mono ?_; rintro e w1 ⟨rfl, hw⟩; rw [hw]; clear hw)
  refine wp_scope_straight ?_
  go_wp2
  go_loopg [9] 1 (fun g v9 wx => v9 = .int .i64 1 ∧ wx = w)
  case atStart => exact ⟨rfl, rfl⟩
  case round =>
    obtain ⟨rfl, rfl⟩ := hrel
    go_wp2
    refine wp_scope_straight ?_
    go_wp2
    go_region
    all_goals go_wp2
    all_goals go_region_with (go_at_call 136; refine (ibyte_any _ _ _).mono ?_; rintro e w1 ⟨rfl, hw⟩; rw [hw]; clear hw)
    all_goals go_wp2
    all_goals simp only [Exit.noGoto, Exit.inBlock, Exit.then]
    all_goals go_ret
    all_goals exact ⟨rfl, ((Below.refl _ _).drew).drew⟩

set_option maxHeartbeats 4000000 in
set_option maxRecDepth 1000000 in
theorem irune_more (r : Int) (w : World) (hv : Utf8.valid r = true) (h128 : 128 ≤ r) (hne : r ≠ 65533) (h3 : 3 ≤ (Utf8.encode r).size) : Calls Tryz.prog 122 #[.string zr, .int .i32 r] w fun e w' => e = .returned (.int .i64 (-1)) ∧ w' = w := by
  obtain ⟨e1, e2, e3⟩ := encode_facts r hv h128
  have hVR := hide (fun W => vrune_any r W hv)
  have hq : (r == 65533) = false := by simp [hne]
  have hlt : ¬ r < 128 := by omega
  have h0 : 0 ≤ r := by omega
  have hcv := fun W => run_convert_int_string (P := Tryz.prog) W 21 9 .i32 r (by rw [Tryz.underlying21]; rfl) Tryz.underlying9
  generalize Utf8.encode r = rs at e1 e2 e3 hcv h3
  clear e3 hv hne h128
  have h2z : ¬ ((rs.size : Int) - 1 < 2) := by omega
  unfold zr
  go_enter Tryz.func122, Tryz.ntmps122
  go_wp2_with (go_at_call 137; refine (unhide hVR _).mono ?_; rintro e w1 ⟨rfl, hw⟩; rw [hw]; clear hw)
  refine wp_scope_straight ?_
  go_wp2
  go_loopg [9] 1 (fun g v9 wx => v9 = .int .i64 ((rs.size : Int) - 1) ∧ wx = w)
  case atStart => exact ⟨rfl, rfl⟩
  case round =>
    obtain ⟨rfl, rfl⟩ := hrel
    go_wp2
    simp only [Exit.noGoto]
    go_ret
    exact ⟨rfl, rfl⟩
theorem irune_any (r : Int) (w : World) (hv : Utf8.valid r = true) (h128 : 128 ≤ r) : Calls Tryz.prog 122 #[.string zr, .int .i32 r] w fun e w' => e = .returned (.int .i64 (-1)) ∧ Below w.heap.size w w' := by
  by_cases hne : r = 65533
  · subst hne; exact irune_mark w
  obtain ⟨e1, e2, e3⟩ := encode_facts r hv h128
  by_cases h3 : 3 ≤ (Utf8.encode r).size
  · exact (irune_more r w hv h128 hne h3).mono fun e w' ⟨h1, h2⟩ => ⟨h1, h2 ▸ Below.refl _ _⟩
  · have h2 : (Utf8.encode r).size = 2 := by omega
    have key : ∀ rs : ByteArray, rs.size = 2 → (∀ h : rs.size - 1 < rs.size, 128 ≤ (rs[rs.size - 1]'h).toNat) → ∃ b0 b1, rs = ⟨#[b0, b1]⟩ ∧ 128 ≤ b1.toNat := by
      rintro ⟨⟨l⟩⟩ h h4
      match l, h with
      | [b0, b1], _ => exact ⟨b0, b1, rfl, h4 (by show 1 < 2; omega)⟩
    obtain ⟨b0, b1, he, hb⟩ := key _ h2 e3
    exact irune_two r w hv h128 hne b0 b1 he hb
/-- A zero or a return: there at once. -/
theorem irune_low (r : Nat) (w : World) (h : r < 128) : Calls Tryz.prog 122 #[.string zr, .int .i32 (r : Int)] w fun e w' => e = .returned (.int .i64 (Lib.indexByte [0, 13] r.toUInt8)) ∧ w' = w := by
  have := Any.strings_IndexRune_ascii Tryz.lays152 zr (r : Int) w (by omega) (by omega)
  exact this
end Go.Proofs.YtmnmaenmoaehlaaGreatDoor
