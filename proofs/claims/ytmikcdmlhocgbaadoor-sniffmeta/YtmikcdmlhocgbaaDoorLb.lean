/-
  Package label's Of, Name and Meta: what they answer, and that they do.
-/
import Derived.Test.YtmikcdmlhocgbaaDoorLa
import Derived.Test.YtmikcdmlhocgbaaDoorSh
namespace Go.Proofs.YtmikcdmlhocgbaaDoor
open Go.RowKit Go.Lib

/-- The labels of each encoding, byte by byte. -/
def labs : List (List (List UInt8)) := [
  [[117, 116, 102, 45, 56], [117, 116, 102, 56], [117, 110, 105, 99, 111, 100, 101, 45, 49, 45, 49, 45, 117, 116, 102, 45, 56], [117, 110, 105, 99, 111, 100, 101, 49, 49, 117, 116, 102, 56], [117, 110, 105, 99, 111, 100, 101, 50, 48, 117, 116, 102, 56], [120, 45, 117, 110, 105, 99, 111, 100, 101, 50, 48, 117, 116, 102, 56]],
  [[117, 116, 102, 45, 49, 54], [117, 116, 102, 45, 49, 54, 108, 101], [117, 110, 105, 99, 111, 100, 101], [117, 99, 115, 45, 50], [105, 115, 111, 45, 49, 48, 54, 52, 54, 45, 117, 99, 115, 45, 50], [99, 115, 117, 110, 105, 99, 111, 100, 101], [117, 110, 105, 99, 111, 100, 101, 102, 101, 102, 102]],
  [[117, 116, 102, 45, 49, 54, 98, 101], [117, 110, 105, 99, 111, 100, 101, 102, 102, 102, 101]],
  [[119, 105, 110, 100, 111, 119, 115, 45, 49, 50, 53, 50], [108, 97, 116, 105, 110, 49], [105, 115, 111, 45, 56, 56, 53, 57, 45, 49], [105, 115, 111, 56, 56, 53, 57, 45, 49], [105, 115, 111, 95, 56, 56, 53, 57, 45, 49], [97, 115, 99, 105, 105], [117, 115, 45, 97, 115, 99, 105, 105], [99, 112, 49, 50, 53, 50], [120, 45, 99, 112, 49, 50, 53, 50], [108, 49], [105, 98, 109, 56, 49, 57], [99, 112, 56, 49, 57]],
  [[105, 115, 111, 45, 56, 56, 53, 57, 45, 49, 53], [105, 115, 111, 56, 56, 53, 57, 45, 49, 53], [105, 115, 111, 95, 56, 56, 53, 57, 45, 49, 53], [108, 57], [99, 115, 105, 115, 111, 108, 97, 116, 105, 110, 57]],
  [[105, 115, 111, 45, 56, 56, 53, 57, 45, 53], [105, 115, 111, 56, 56, 53, 57, 45, 53], [105, 115, 111, 95, 56, 56, 53, 57, 45, 53], [99, 121, 114, 105, 108, 108, 105, 99], [99, 115, 105, 115, 111, 108, 97, 116, 105, 110, 99, 121, 114, 105, 108, 108, 105, 99], [105, 115, 111, 45, 105, 114, 45, 49, 52, 52]],
  [[120, 45, 117, 115, 101, 114, 45, 100, 101, 102, 105, 110, 101, 100]]]
/-- The encodings' names. -/
def encN : List (List UInt8) := [[85, 84, 70, 45, 56], [85, 84, 70, 45, 49, 54, 76, 69], [85, 84, 70, 45, 49, 54, 66, 69], [119, 105, 110, 100, 111, 119, 115, 45, 49, 50, 53, 50], [73, 83, 79, 45, 56, 56, 53, 57, 45, 49, 53], [73, 83, 79, 45, 56, 56, 53, 57, 45, 53], [120, 45, 117, 115, 101, 114, 45, 100, 101, 102, 105, 110, 101, 100]]
/-- Labels that stand apart by one blank. -/
def joinB : List (List UInt8) → List UInt8
  | [] => []
  | [x] => x
  | x :: y :: r => x ++ 32 :: joinB (y :: r)

def sat (k : Nat) : Bool := match labs[k]? with
  | some L => decide ((joinB L).length ≤ 1000) && (joinB L).all (fun b => decide (b.toNat < 128)) && decide (splitB [] (joinB L) = L)
  | none => true
theorem sat0 : (List.range 7).all sat = true := by decide +kernel
theorem labs_len : labs.length = 7 := by decide +kernel
theorem encN_len : encN.length = 7 := by decide +kernel
theorem labs_facts (k : Nat) (L : List (List UInt8)) (h : labs[k]? = some L) : (joinB L).length ≤ 1000 ∧ (∀ b ∈ joinB L, b.toNat < 128) ∧ splitB [] (joinB L) = L := by
  have hk : k < 7 := by have := (List.getElem?_eq_some_iff.1 h).1; rw [labs_len] at this; exact this
  have := List.all_eq_true.1 sat0 k (List.mem_range.2 hk)
  unfold sat at this
  rw [h] at this
  simp only [Bool.and_eq_true, decide_eq_true_eq, List.all_eq_true] at this
  exact ⟨this.1.1, this.1.2, this.2⟩

/-- Which encoding a label's bytes mean. -/
def ofP (t : List UInt8) : Option Nat := labs.findIdx? (fun L => decide (t ∈ L))
def ofE (t : List UInt8) : Int := ((ofP t).getD 0 : Nat)
def ofF (t : List UInt8) : Int := if (ofP t).isSome then 0 else 40
/-- A label as it is held against the table: no blanks at its ends, small letters. -/
def norm (l : List UInt8) : List UInt8 := (Lib.trimS l [9, 10, 12, 13, 32]).map low

theorem ofP_none (t : List UInt8) (h : ∀ (j : Nat) L, labs[j]? = some L → ¬ t ∈ L) : ofP t = none := by
  unfold ofP
  rw [List.findIdx?_eq_none_iff]
  intro L hL
  obtain ⟨j, hj⟩ := List.mem_iff_getElem?.1 hL
  exact decide_eq_false (h j L hj)
theorem ofP_some (t : List UInt8) (k : Nat) (L : List (List UInt8)) (hL : labs[k]? = some L) (hin : t ∈ L) (h : ∀ (j : Nat) L, j < k → labs[j]? = some L → ¬ t ∈ L) : ofP t = some k := by
  unfold ofP
  obtain ⟨hk, he⟩ := List.getElem?_eq_some_iff.1 hL
  rw [List.findIdx?_eq_some_iff_getElem]
  refine ⟨hk, by rw [he]; exact decide_eq_true hin, fun j hj => ?_⟩
  simpa using h j _ hj (List.getElem?_eq_getElem (by omega))

theorem inner_any (s : ByteArray) (w : World) (hs : s.size ≤ 9223372036854775807) :
    Calls Tryd.prog 53 #[.string s] w fun e w' => e = .returned (.string ⟨(Lib.trimS s.data.toList [9, 10, 12, 13, 32]).toArray⟩) ∧ Below w.heap.size w w' := by
  have hcon := Tryd.strings_Trim s ⟨#[9, 10, 12, 13, 32]⟩ w hs (by decide) (ascii_of_all (by decide))
  change Calls Tryd.prog 61 _ _ (fun e w' => e = .returned (.string ⟨(Lib.trimS s.data.toList [9, 10, 12, 13, 32]).toArray⟩) ∧ Below w.heap.size w w') at hcon
  generalize (⟨(Lib.trimS s.data.toList [9, 10, 12, 13, 32]).toArray⟩ : ByteArray) = r at hcon ⊢
  go_enter Tryd.func53, Tryd.ntmps53
  go_wp2_with (go_at_call 61; refine hcon.mono ?_; rintro e w' ⟨rfl, hB⟩)
  go_ret
  exact ⟨rfl, hB⟩

structure RowsAt (w : World) (b : Nat) : Prop where
  enc : ∀ k, k < 7 → w.cell? ⟨b, k * 3, none⟩ = some (.int .i64 k)
  name : ∀ (k : Nat) n, encN[k]? = some n → w.cell? ⟨b, k * 3 + 1, none⟩ = some (.string ⟨n.toArray⟩)
  text : ∀ (k : Nat) L, labs[k]? = some L → w.cell? ⟨b, k * 3 + 2, none⟩ = some (.string ⟨(joinB L).toArray⟩)
  lies : b < w.heap.size

theorem RowsAt.below {w wx : World} {b B : Nat} (h : RowsAt w b) (hb : Below B w wx) (hB : b < B) : RowsAt wx b :=
  ⟨fun k hk => by rw [hb.cell hB]; exact h.enc k hk, fun k n hn => by rw [hb.cell hB]; exact h.name k n hn, fun k L hL => by rw [hb.cell hB]; exact h.text k L hL, Nat.lt_of_lt_of_le h.lies hb.size⟩

set_option maxHeartbeats 1000000 in
theorem rows_any (w : World) : Calls Tryd.prog 54 #[] w fun e w' => e = .returned (.slice (some ⟨w.heap.size, 0, none⟩) 7 7) ∧ RowsAt w' w.heap.size ∧ Below w.heap.size w w' := by
  go_enter Tryd.func54, Tryd.ntmps54
  go_wp2
  go_ret
  refine ⟨rfl, ⟨fun k hk => ?_, fun k n hn => ?_, fun k L hL => ?_, by simp⟩, (Below.refl _ _).alloc (Nat.le_refl _) _⟩
  · rw [World.cell?_alloc_at _ _ _ _ rfl]
    rcases (by omega : k = 0 ∨ k = 1 ∨ k = 2 ∨ k = 3 ∨ k = 4 ∨ k = 5 ∨ k = 6) with rfl | rfl | rfl | rfl | rfl | rfl | rfl <;> rfl
  · have hk : k < 7 := by have := (List.getElem?_eq_some_iff.1 hn).1; rw [encN_len] at this; exact this
    rw [World.cell?_alloc_at _ _ _ _ rfl]
    rcases (by omega : k = 0 ∨ k = 1 ∨ k = 2 ∨ k = 3 ∨ k = 4 ∨ k = 5 ∨ k = 6) with rfl | rfl | rfl | rfl | rfl | rfl | rfl <;> (cases hn; rfl)
  · have hk : k < 7 := by have := (List.getElem?_eq_some_iff.1 hL).1; rw [labs_len] at this; exact this
    rw [World.cell?_alloc_at _ _ _ _ rfl]
    rcases (by omega : k = 0 ∨ k = 1 ∨ k = 2 ∨ k = 3 ∨ k = 4 ∨ k = 5 ∨ k = 6) with rfl | rfl | rfl | rfl | rfl | rfl | rfl <;> (cases hL; rfl)

theorem row_cell (w w3 : World) (v : Value) (r : List Value) (t : Nat) (h : Below (w.alloc (.cells (v :: r).toArray t)).heap.size (w.alloc (.cells (v :: r).toArray t)) w3) : w3.cell? ⟨w.heap.size, 0, none⟩ = some v := by
  rw [h.cell (by simp), World.cell?_alloc_at _ _ _ _ rfl]; rfl
theorem row_below {B : Nat} (w w3 : World) (o : Obj) (h : Below (w.alloc o).heap.size (w.alloc o) w3) (hB : B ≤ w.heap.size) : Below B w w3 :=
  ((Below.refl B w).alloc hB o).trans (h.mono (by simp; omega))

theorem norm_of (s : ByteArray) : (⟨(Lib.trimS s.data.toList [9, 10, 12, 13, 32]).toArray⟩ : ByteArray).data.toList.map low = norm s.data.toList := rfl

set_option maxHeartbeats 2000000 in
theorem of_any (s : ByteArray) (w : World) (hs : s.size ≤ 9223372036854775807) :
    Calls Tryd.prog 36 #[.string s] w fun e w' => e = .returned (.tuple #[.int .i64 (ofE (norm s.data.toList)), .int .i64 (ofF (norm s.data.toList))]) ∧ Below w.heap.size w w' := by
  have HI := hide (inner_any s w hs)
  have HNR := hide (norm_of s)
  generalize (⟨(Lib.trimS s.data.toList [9, 10, 12, 13, 32]).toArray⟩ : ByteArray) = r at HI HNR
  generalize norm s.data.toList = t at HNR ⊢
  have HA : Hid (∀ (k : Nat) L w, labs[k]? = some L → Calls Tryd.prog 55 #[.string r, .string ⟨(joinB L).toArray⟩] w fun e w' => e = .returned (.bool (decide (t ∈ L))) ∧ Below w.heap.size w w') := hide (fun k L w hL => by
    obtain ⟨f1, f2, f3⟩ := labs_facts k L hL
    have := isAmong_any r ⟨(joinB L).toArray⟩ w (by show (joinB L).toArray.size ≤ 1000; simpa using f1) (by simpa using f2)
    rw [unhide HNR] at this
    simp only [f3] at this
    exact this)
  clear hs
  go_enter Tryd.func36, Tryd.ntmps36
  go_wp2_with (first
    | (go_at_call 53; refine (unhide HI).mono ?_; rintro e w1 ⟨rfl, hb1⟩; have HB1 := hide hb1; clear hb1)
    | (go_at_call 54; refine (rows_any _).mono ?_; rintro e w2 ⟨rfl, hr2, hb2⟩; have HR2 := hide hr2; have HB2 := hide ((unhide HB1).trans (hb2.mono (unhide HB1).size)); clear hr2 hb2))
  go_loopg [5, 10] 7 (fun g _ s10 wx => ∃ k : Nat, s10 = .int .i64 k ∧ k + g = 7 ∧ Below w2.heap.size w2 wx ∧ (∀ (j : Nat) L, j < k → labs[j]? = some L → ¬ t ∈ L))
  case atStart => exact ⟨0, rfl, rfl, Below.refl _ _, fun j L h => by omega⟩
  case round =>
    obtain ⟨k, rfl, hkg, hbx, hpre⟩ := hrel
    have HP := hide hpre
    have HX := hide hbx
    have hR := (unhide HR2).below hbx (unhide HR2).lies
    clear hpre hbx
    by_cases hk : k < 7
    · have hkz : (k : Int) < 7 := by omega
      obtain ⟨L, hL⟩ : ∃ L, labs[k]? = some L := ⟨_, List.getElem?_eq_getElem (by rw [labs_len]; exact hk)⟩
      obtain ⟨n, hn⟩ : ∃ n, encN[k]? = some n := ⟨_, List.getElem?_eq_getElem (by rw [encN_len]; exact hk)⟩
      have c0 := hR.enc k hk
      have c1 := hR.name k n hn
      have c2 := hR.text k L hL
      have HL := hide hL
      have HAK := hide (fun w => (unhide HA) k L w hL)
      clear hR hL hn
      by_cases hin : t ∈ L
      · have hd : decide (t ∈ L) = true := decide_eq_true hin
        rw [hd] at HAK
        have HIN := hide hin
        clear hin hd
        go_wp2_with (go_at_call 55; refine ((unhide HAK) _).mono ?_; rintro e w3 ⟨rfl, hb3⟩; have hc3 := row_cell wr w3 _ _ _ hb3; have HB3 := hide hb3; clear hb3)
        go_ret2
        have e1 := ofP_some t k L (unhide HL) (unhide HIN) (unhide HP)
        refine ⟨?_, (unhide HB2).trans (((unhide HX).trans (row_below _ w3 _ (unhide HB3) (unhide HX).size)).mono (unhide HB2).size)⟩
        simp [ofE, ofF, e1]
      · have hd : decide (t ∈ L) = false := decide_eq_false hin
        rw [hd] at HAK
        have HIN := hide hin
        clear hin hd
        go_wp2_with (go_at_call 55; refine ((unhide HAK) _).mono ?_; rintro e w3 ⟨rfl, hb3⟩; have HB3 := hide hb3; clear hb3)
        go_roundg (gk - 1)
        case measure => omega
        case rel =>
          refine ⟨k + 1, by go_num, by omega, (unhide HX).trans (row_below _ w3 _ (unhide HB3) (unhide HX).size), fun j L' hj hL' => ?_⟩
          by_cases e : j = k
          · subst e; rw [unhide HL] at hL'; cases hL'; exact unhide HIN
          · exact (unhide HP) j L' (by omega) hL'
    · have hkz : ¬ (k : Int) < 7 := by omega
      clear hR
      go_wp2
      go_ret2
      have e1 := ofP_none t (fun j L hL => (unhide HP) j L (by have := (List.getElem?_eq_some_iff.1 hL).1; rw [labs_len] at this; omega) hL)
      refine ⟨?_, (unhide HB2).trans ((unhide HX).mono (unhide HB2).size)⟩
      simp [ofE, ofF, e1]

theorem meta_any (n : Int) (w : World) : Calls Tryd.prog 66 #[.int .i64 n] w fun e w' => e = .returned (.int .i64 (if n = 1 ∨ n = 2 then 0 else if n = 6 then 3 else n)) ∧ w = w' := by
  by_cases h1 : n = 1
  · subst h1
    go_enter Tryd.func66, Tryd.ntmps66
    go_wp2
    go_ret
    exact ⟨rfl, rfl⟩
  · by_cases h2 : n = 2
    · subst h2
      go_enter Tryd.func66, Tryd.ntmps66
      go_wp2
      go_ret
      exact ⟨rfl, rfl⟩
    · have b1 : (n == 1) = false := by simpa using h1
      have b2 : (n == 2) = false := by simpa using h2
      by_cases h6 : n = 6
      · subst h6
        go_enter Tryd.func66, Tryd.ntmps66
        go_wp2
        go_ret
        exact ⟨rfl, rfl⟩
      · have b6 : (n == 6) = false := by simpa using h6
        rw [if_neg (by omega), if_neg h6]
        clear h1 h2 h6
        go_enter Tryd.func66, Tryd.ntmps66
        go_wp2
        go_ret
        exact ⟨rfl, rfl⟩

end Go.Proofs.YtmikcdmlhocgbaaDoor
