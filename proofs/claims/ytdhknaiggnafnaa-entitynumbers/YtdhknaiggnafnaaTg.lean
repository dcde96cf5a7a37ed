/-
  Package entity's name: with its semicolon, whether a text is one, begins one, its code points; the document's 'starts'.
-/
import Derived.Test.YtdhknaiggnafnaaTa
namespace Go.Proofs.Ytdhknaiggnafnaa
open Go.RowKit Go.Lib

/-- The name with its semicolon. -/
def endsB (t : ByteArray) : Bool := (t.extract (t.size - 1) t.size).toList == [59]
def fullB (t : ByteArray) : ByteArray := bif endsB t then t else t ++ ⟨#[59]⟩
def isB (t s : ByteArray) : Bool := s.toList == t.toList || s.toList == (fullB t).toList
def startsB (t s : ByteArray) : Bool := decide (s.size ≤ t.size) && (t.extract 0 s.size).toList == s.toList
def begB (t s : ByteArray) : Bool := startsB t s || s.toList == (fullB t).toList

theorem suf_at (t : ByteArray) (w : World) (h : 1 ≤ t.size) (h9 : t.size ≤ 1000) : Calls Try.prog 42 #[.string t, .string ⟨#[59]⟩] w fun e w' => e = .returned (.bool (endsB t)) ∧ w' = w := by
  have h1 : (1 : Int) ≤ (t.size : Int) := by omega
  have h2 : (t.size : Int) ≤ 1000 := by omega
  go_enter Try.func42, Try.ntmps42
  go_wp2
  go_ret
  exact ⟨rfl, rfl⟩
theorem suf2_at (t : ByteArray) (w : World) (h : 1 ≤ t.size) (h9 : t.size ≤ 1000) : Calls Try.prog 40 #[.string t, .string ⟨#[59]⟩] w fun e w' => e = .returned (.bool (endsB t)) ∧ w' = w := by
  have HS := hide (fun w => suf_at t w h h9)
  go_enter Try.func40, Try.ntmps40
  go_wp2_with (go_at_call 42; refine (unhide HS _).mono ?_; rintro e w' ⟨rfl, rfl⟩)
  go_ret
  exact ⟨rfl, rfl⟩

theorem full_at (t : ByteArray) (p : Int) (w : World) (h : 1 ≤ t.size) (h9 : t.size ≤ 1000) : Calls Try.prog 35 #[.agg #[.string t, .int .i32 p]] w fun e w' => e = .returned (.string (fullB t)) ∧ Below w.heap.size w w' := by
  have h2 : (t.size : Int) ≤ 1000 := by omega
  cases he : endsB t with
  | true =>
    have HF : Hid (fullB t = t) := hide (by unfold fullB; rw [he]; rfl)
    have HS := hide (fun w => by have := suf2_at t w h h9; rw [he] at this; exact this)
    clear he
    go_enter Try.func35, Try.ntmps35
    go_wp2_with (go_at_call 40; refine (unhide HS _).mono ?_; rintro e w' ⟨rfl, rfl⟩)
    go_ret
    refine ⟨?_, ?_⟩
    · rw [unhide HF]; rfl
    · exact (Below.refl _ _).alloc (Nat.le_refl _) _
  | false =>
    have HF : Hid (fullB t = t ++ ⟨#[59]⟩) := hide (by unfold fullB; rw [he]; rfl)
    have HS := hide (fun w => by have := suf2_at t w h h9; rw [he] at this; exact this)
    clear he
    go_enter Try.func35, Try.ntmps35
    go_wp2_with (go_at_call 40; refine (unhide HS _).mono ?_; rintro e w' ⟨rfl, rfl⟩)
    go_ret
    refine ⟨?_, ?_⟩
    · rw [unhide HF]; rfl
    · exact (Below.refl _ _).alloc (Nat.le_refl _) _

theorem is_at (t s : ByteArray) (p : Int) (w : World) (h : 1 ≤ t.size) (h9 : t.size ≤ 1000) : Calls Try.prog 20 #[.agg #[.string t, .int .i32 p], .string s] w fun e w' => e = .returned (.bool (isB t s)) ∧ Below w.heap.size w w' := by
  have HS := hide (fun w => full_at t p w h h9)
  cases he : s.toList == t.toList with
  | true =>
    have HF : Hid (isB t s = true) := hide (by unfold isB; rw [he]; rfl)
    go_enter Try.func20, Try.ntmps20
    go_wp2_with (go_at_call 35; refine (unhide HS _).mono ?_; rintro e w' ⟨rfl, hw⟩)
    go_ret
    refine ⟨?_, ?_⟩
    · rw [unhide HF]; rfl
    · exact (Below.refl _ _).alloc (Nat.le_refl _) _
  | false =>
    have HF : Hid (isB t s = (s.toList == (fullB t).toList)) := hide (by unfold isB; rw [he]; rfl)
    go_enter Try.func20, Try.ntmps20
    go_wp2_with (go_at_call 35; refine (unhide HS _).mono ?_; rintro e w' ⟨rfl, hw⟩)
    go_ret
    refine ⟨?_, ?_⟩
    · rw [unhide HF]; rfl
    · exact ((Below.refl _ _).alloc (Nat.le_refl _) _).trans (hw.mono (by simp))

theorem starts_at (t s : ByteArray) (w : World) : Calls Try.prog 27 #[.string t, .string s] w fun e w' => e = .returned (.bool (startsB t s)) ∧ w' = w := by
  by_cases hz : s.size ≤ t.size
  · have hzz : (s.size : Int) ≤ (t.size : Int) := by omega
    have HF : Hid (startsB t s = ((t.extract 0 s.size).toList == s.toList)) := hide (by unfold startsB; rw [decide_eq_true hz]; rfl)
    go_enter Try.func27, Try.ntmps27
    go_wp2
    go_ret
    refine ⟨?_, rfl⟩
    rw [unhide HF]; rfl
  · have hzz : ¬ (s.size : Int) ≤ (t.size : Int) := by omega
    have HF : Hid (startsB t s = false) := hide (by unfold startsB; rw [decide_eq_false hz]; rfl)
    go_enter Try.func27, Try.ntmps27
    go_wp2
    go_ret
    refine ⟨?_, rfl⟩
    rw [unhide HF]; rfl
theorem pre_at (t s : ByteArray) (w : World) : Calls Try.prog 41 #[.string t, .string s] w fun e w' => e = .returned (.bool (startsB t s)) ∧ w' = w := by
  by_cases hz : s.size ≤ t.size
  · have hzz : (s.size : Int) ≤ (t.size : Int) := by omega
    have HF : Hid (startsB t s = ((t.extract 0 s.size).toList == s.toList)) := hide (by unfold startsB; rw [decide_eq_true hz]; rfl)
    go_enter Try.func41, Try.ntmps41
    go_wp2
    go_ret
    refine ⟨?_, rfl⟩
    rw [unhide HF]; rfl
  · have hzz : ¬ (s.size : Int) ≤ (t.size : Int) := by omega
    have HF : Hid (startsB t s = false) := hide (by unfold startsB; rw [decide_eq_false hz]; rfl)
    go_enter Try.func41, Try.ntmps41
    go_wp2
    go_ret
    refine ⟨?_, rfl⟩
    rw [unhide HF]; rfl
theorem pre2_at (t s : ByteArray) (w : World) : Calls Try.prog 38 #[.string t, .string s] w fun e w' => e = .returned (.bool (startsB t s)) ∧ w' = w := by
  have HS := hide (fun w => pre_at t s w)
  go_enter Try.func38, Try.ntmps38
  go_wp2_with (go_at_call 41; refine (unhide HS _).mono ?_; rintro e w' ⟨rfl, rfl⟩)
  go_ret
  exact ⟨rfl, rfl⟩

theorem begins_at (t s : ByteArray) (p : Int) (w : World) (h : 1 ≤ t.size) (h9 : t.size ≤ 1000) : Calls Try.prog 26 #[.agg #[.string t, .int .i32 p], .string s] w fun e w' => e = .returned (.bool (begB t s)) ∧ Below w.heap.size w w' := by
  have HS := hide (fun w => full_at t p w h h9)
  cases he : startsB t s with
  | true =>
    have HF : Hid (begB t s = true) := hide (by unfold begB; rw [he]; rfl)
    have HP := hide (fun w => by have := pre2_at t s w; rw [he] at this; exact this)
    clear he
    go_enter Try.func26, Try.ntmps26
    go_wp2_with (first | (go_at_call 38; refine (unhide HP _).mono ?_; rintro e w' ⟨rfl, rfl⟩) | (go_at_call 35; refine (unhide HS _).mono ?_; rintro e w' ⟨rfl, hw⟩))
    go_ret
    refine ⟨?_, ?_⟩
    · rw [unhide HF]; rfl
    · exact (Below.refl _ _).alloc (Nat.le_refl _) _
  | false =>
    have HF : Hid (begB t s = (s.toList == (fullB t).toList)) := hide (by unfold begB; rw [he]; rfl)
    have HP := hide (fun w => by have := pre2_at t s w; rw [he] at this; exact this)
    clear he
    go_enter Try.func26, Try.ntmps26
    go_wp2_with (first | (go_at_call 38; refine (unhide HP _).mono ?_; rintro e w' ⟨rfl, rfl⟩) | (go_at_call 35; refine (unhide HS _).mono ?_; rintro e w' ⟨rfl, hw⟩))
    go_ret
    refine ⟨?_, ?_⟩
    · rw [unhide HF]; rfl
    · exact ((Below.refl _ _).alloc (Nat.le_refl _) _).trans (hw.mono (by simp))
end Go.Proofs.Ytdhknaiggnafnaa
