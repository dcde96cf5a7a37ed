/-
  Package entity's Number and the document's: what they answer, and that they do.
-/
import Derived.Test.YtdhknaiggnafnaaTx
namespace Go.Proofs.Ytdhknaiggnafnaa
open Go.RowKit Go.Lib

def nulS : ByteArray := ⟨#[110, 117, 108, 108, 45, 99, 104, 97, 114, 97, 99, 116, 101, 114, 45, 114, 101, 102, 101, 114, 101, 110, 99, 101]⟩
def rngS : ByteArray := ⟨#[99, 104, 97, 114, 97, 99, 116, 101, 114, 45, 114, 101, 102, 101, 114, 101, 110, 99, 101, 45, 111, 117, 116, 115, 105, 100, 101, 45, 117, 110, 105, 99, 111, 100, 101, 45, 114, 97, 110, 103, 101]⟩
def surS : ByteArray := ⟨#[115, 117, 114, 114, 111, 103, 97, 116, 101, 45, 99, 104, 97, 114, 97, 99, 116, 101, 114, 45, 114, 101, 102, 101, 114, 101, 110, 99, 101]⟩
def nonS : ByteArray := ⟨#[110, 111, 110, 99, 104, 97, 114, 97, 99, 116, 101, 114, 45, 99, 104, 97, 114, 97, 99, 116, 101, 114, 45, 114, 101, 102, 101, 114, 101, 110, 99, 101]⟩
def ctlS : ByteArray := ⟨#[99, 111, 110, 116, 114, 111, 108, 45, 99, 104, 97, 114, 97, 99, 116, 101, 114, 45, 114, 101, 102, 101, 114, 101, 110, 99, 101]⟩
def okS : ByteArray := ⟨#[]⟩
/-- What a number means. -/
def numM (n : Int) : Int × ByteArray :=
  if n = 0 then (65533, nulS) else if n < 0 ∨ 1114111 < n then (65533, rngS) else if 55296 ≤ n ∧ n ≤ 57343 then (65533, surS)
  else bif noncB n then (n, nonS) else bif ctrlB n then ((othM n).getD n, ctlS) else (n, okS)
theorem num_nul (n : Int) (h : n = 0) : numM n = (65533, nulS) := by unfold numM; rw [if_pos h]
theorem num_rng (n : Int) (h : ¬ n = 0) (h2 : n < 0 ∨ 1114111 < n) : numM n = (65533, rngS) := by unfold numM; rw [if_neg h, if_pos h2]
theorem num_sur (n : Int) (h : 55296 ≤ n) (h2 : n ≤ 57343) : numM n = (65533, surS) := by unfold numM; rw [if_neg (by omega), if_neg (by omega), if_pos ⟨h, h2⟩]
theorem num_non (n : Int) (h : 0 < n) (h1 : n ≤ 1114111) (h2 : ¬ (55296 ≤ n ∧ n ≤ 57343)) (h3 : noncB n = true) : numM n = (n, nonS) := by unfold numM; rw [if_neg (by omega), if_neg (by omega), if_neg h2, h3]; rfl
theorem num_ctl (n : Int) (h : 0 < n) (h1 : n ≤ 1114111) (h2 : ¬ (55296 ≤ n ∧ n ≤ 57343)) (h3 : noncB n = false) (h4 : ctrlB n = true) : numM n = ((othM n).getD n, ctlS) := by unfold numM; rw [if_neg (by omega), if_neg (by omega), if_neg h2, h3, h4]; rfl
theorem num_ok (n : Int) (h : 0 < n) (h1 : n ≤ 1114111) (h2 : ¬ (55296 ≤ n ∧ n ≤ 57343)) (h3 : noncB n = false) (h4 : ctrlB n = false) : numM n = (n, okS) := by unfold numM; rw [if_neg (by omega), if_neg (by omega), if_neg h2, h3, h4]; rfl
def NumPost (n : Int) (w : World) (e : Ending) (w' : World) : Prop := e = .returned (.tuple #[.int .i32 (numM n).1, .string (numM n).2]) ∧ Below w.heap.size w w'

set_option maxHeartbeats 1000000 in
theorem number_at (n : Int) (w : World) : Calls Try.prog 17 #[.int .i64 n] w (NumPost n w) := by
  by_cases h0 : n = 0
  · have HE := hide (num_nul n h0)
    have z0 : (n == 0) = true := by simp [h0]
    clear h0
    go_enter Try.func17, Try.ntmps17
    set_option maxRecDepth 8000 in
    go_wp2
    go_ret2
    unfold NumPost
    rw [unhide HE]
    exact ⟨rfl, Below.refl _ _⟩
  have z0 : (n == 0) = false := by simp [h0]
  by_cases h1 : n < 0
  · have HE := hide (num_rng n h0 (.inl h1))
    clear h0
    go_enter Try.func17, Try.ntmps17
    set_option maxRecDepth 8000 in
    go_wp2
    go_ret2
    unfold NumPost
    rw [unhide HE]
    exact ⟨rfl, Below.refl _ _⟩
  by_cases h2 : 1114111 < n
  · have HE := hide (num_rng n h0 (.inr h2))
    clear h0
    go_enter Try.func17, Try.ntmps17
    set_option maxRecDepth 8000 in
    go_wp2
    go_ret2
    unfold NumPost
    rw [unhide HE]
    exact ⟨rfl, Below.refl _ _⟩
  have h3 : 0 < n := by omega
  have h4 : n ≤ 1114111 := by omega
  have hwr : IntKind.i32.wrap n = n := by rw [IntKind.wrap_i32]; omega
  have HNa := hide (fun w => nonc_at n (by omega) h4 w)
  have HCa := hide (fun w => ctrl_at n w)
  have HM := hide (fun w => meant_at n (by omega) h4 w)
  by_cases h5 : 55296 ≤ n ∧ n ≤ 57343
  · have HE := hide (num_sur n h5.1 h5.2)
    obtain ⟨h6, h7⟩ := h5
    clear h0
    go_enter Try.func17, Try.ntmps17
    set_option maxRecDepth 8000 in
    go_wp2
    go_ret2
    unfold NumPost
    rw [unhide HE]
    exact ⟨rfl, Below.refl _ _⟩
  by_cases h6 : 55296 ≤ n
  · have h7 : ¬ n ≤ 57343 := fun h => h5 ⟨h6, h⟩
    cases hn : noncB n with
    | true =>
      have HE := hide (num_non n h3 h4 h5 hn)
      have HN := hide (fun w => by have := unhide HNa w; rw [hn] at this; exact this)
      clear hn h0 h5
      go_enter Try.func17, Try.ntmps17
      set_option maxRecDepth 8000 in
      go_wp2_with (first
        | (go_at_call 28; refine (unhide HN _).mono ?_; rintro e w1 ⟨rfl, rfl⟩))
      go_ret2
      unfold NumPost
      rw [unhide HE]
      exact ⟨rfl, Below.refl _ _⟩
    | false =>
      have HN := hide (fun w => by have := unhide HNa w; rw [hn] at this; exact this)
      cases hc : ctrlB n with
      | true =>
        have HE := hide (num_ctl n h3 h4 h5 hn hc)
        have HC := hide (fun w => by have := unhide HCa w; rw [hc] at this; exact this)
        clear hn hc h0 h5
        go_enter Try.func17, Try.ntmps17
        set_option maxRecDepth 8000 in
        go_wp2_with (first
          | (go_at_call 28; refine (unhide HN _).mono ?_; rintro e w1 ⟨rfl, rfl⟩)
          | (go_at_call 29; refine (unhide HC _).mono ?_; rintro e w2 ⟨rfl, rfl⟩)
          | (go_at_call 30; refine (unhide HM _).mono ?_; rintro e w3 ⟨rfl, hw3⟩; have HW3 := hide hw3; clear hw3))
        go_ret2
        unfold NumPost
        rw [unhide HE]
        exact ⟨rfl, unhide HW3⟩
      | false =>
        have HE := hide (num_ok n h3 h4 h5 hn hc)
        have HC := hide (fun w => by have := unhide HCa w; rw [hc] at this; exact this)
        clear hn hc h0 h5
        go_enter Try.func17, Try.ntmps17
        set_option maxRecDepth 8000 in
        go_wp2_with (first
          | (go_at_call 28; refine (unhide HN _).mono ?_; rintro e w1 ⟨rfl, rfl⟩)
          | (go_at_call 29; refine (unhide HC _).mono ?_; rintro e w2 ⟨rfl, rfl⟩))
        go_ret2
        unfold NumPost
        rw [unhide HE]
        exact ⟨rfl, Below.refl _ _⟩
  · have h7 : ¬ 55296 ≤ n := h6
    cases hn : noncB n with
    | true =>
      have HE := hide (num_non n h3 h4 h5 hn)
      have HN := hide (fun w => by have := unhide HNa w; rw [hn] at this; exact this)
      clear hn h0 h5
      go_enter Try.func17, Try.ntmps17
      set_option maxRecDepth 8000 in
      go_wp2_with (first
        | (go_at_call 28; refine (unhide HN _).mono ?_; rintro e w1 ⟨rfl, rfl⟩))
      go_ret2
      unfold NumPost
      rw [unhide HE]
      exact ⟨rfl, Below.refl _ _⟩
    | false =>
      have HN := hide (fun w => by have := unhide HNa w; rw [hn] at this; exact this)
      cases hc : ctrlB n with
      | true =>
        have HE := hide (num_ctl n h3 h4 h5 hn hc)
        have HC := hide (fun w => by have := unhide HCa w; rw [hc] at this; exact this)
        clear hn hc h0 h5
        go_enter Try.func17, Try.ntmps17
        set_option maxRecDepth 8000 in
        go_wp2_with (first
          | (go_at_call 28; refine (unhide HN _).mono ?_; rintro e w1 ⟨rfl, rfl⟩)
          | (go_at_call 29; refine (unhide HC _).mono ?_; rintro e w2 ⟨rfl, rfl⟩)
          | (go_at_call 30; refine (unhide HM _).mono ?_; rintro e w3 ⟨rfl, hw3⟩; have HW3 := hide hw3; clear hw3))
        go_ret2
        unfold NumPost
        rw [unhide HE]
        exact ⟨rfl, unhide HW3⟩
      | false =>
        have HE := hide (num_ok n h3 h4 h5 hn hc)
        have HC := hide (fun w => by have := unhide HCa w; rw [hc] at this; exact this)
        clear hn hc h0 h5
        go_enter Try.func17, Try.ntmps17
        set_option maxRecDepth 8000 in
        go_wp2_with (first
          | (go_at_call 28; refine (unhide HN _).mono ?_; rintro e w1 ⟨rfl, rfl⟩)
          | (go_at_call 29; refine (unhide HC _).mono ?_; rintro e w2 ⟨rfl, rfl⟩))
        go_ret2
        unfold NumPost
        rw [unhide HE]
        exact ⟨rfl, Below.refl _ _⟩
end Go.Proofs.Ytdhknaiggnafnaa
