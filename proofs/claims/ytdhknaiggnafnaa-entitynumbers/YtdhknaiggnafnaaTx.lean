/-
  Package entity's Number: what it answers, and that it does.
-/
import Derived.Test.YtdhknaiggnafnaaTw
import Derived.Laws.BitsLemmas
namespace Go.Proofs.Ytdhknaiggnafnaa
open Go.RowKit Go.Lib

def noncB (n : Int) : Bool := decide (65534 ≤ n % 65536) || (decide (64976 ≤ n) && decide (n ≤ 65007))
def ctrlB (n : Int) : Bool := (decide (n < 32) && decide (n ≠ 9) && decide (n ≠ 10) && decide (n ≠ 12)) || (decide (127 ≤ n) && decide (n ≤ 159))
theorem noncB_iff {n : Int} : noncB n = true ↔ 65534 ≤ n % 65536 ∨ (64976 ≤ n ∧ n ≤ 65007) := by unfold noncB; simp
theorem ctrlB_iff {n : Int} : ctrlB n = true ↔ (n < 32 ∧ n ≠ 9 ∧ n ≠ 10 ∧ n ≠ 12) ∨ (127 ≤ n ∧ n ≤ 159) := by unfold ctrlB; simp [and_assoc]
theorem false_of {b : Bool} (h : ¬ b = true) : b = false := by cases b with | true => exact absurd rfl h | false => rfl

theorem wraps_i64 (n : Int) (h0 : 0 ≤ n) (h1 : n < 2 ^ 63) : IntKind.i64.wrap n = n := by rw [IntKind.wrap_i64]; omega
theorem low16 (n : Int) (h0 : 0 ≤ n) (h1 : n ≤ 1114111) : bits BinOp.and IntKind.i64 n 65535 = n % 65536 := by
  have h := bits_mask .i64 63 (by decide) wraps_i64 16 (by decide) n h0 (by omega)
  have e : ((2 : Int) ^ 16 - 1) = 65535 := by decide
  have e2 : ((2 : Int) ^ 16) = 65536 := by decide
  rw [e, e2] at h
  exact h

theorem nonc_at (n : Int) (h0 : 0 ≤ n) (h1 : n ≤ 1114111) (w : World) : Calls Try.prog 28 #[.int .i64 n] w fun e w' => e = .returned (.bool (noncB n)) ∧ w' = w := by
  have hb := low16 n h0 h1
  obtain ⟨r, hr⟩ : ∃ r, n % 65536 = r := ⟨_, rfl⟩
  rw [hr] at hb
  have HN : Hid (noncB n = true ↔ (65534 ≤ r ∨ (64976 ≤ n ∧ n ≤ 65007))) := hide (by rw [noncB_iff, hr])
  clear hr
  by_cases c1 : 65534 ≤ r
  · have HE := hide (((unhide HN).2 (.inl c1)))
    go_enter Try.func28, Try.ntmps28
    go_wp2
    go_ret
    exact ⟨by rw [unhide HE]; rfl, rfl⟩
  · by_cases c2 : 64976 ≤ n
    · by_cases c3 : n ≤ 65007
      · have HE := hide (((unhide HN).2 (.inr ⟨c2, c3⟩)))
        go_enter Try.func28, Try.ntmps28
        go_wp2
        go_ret
        exact ⟨by rw [unhide HE]; rfl, rfl⟩
      · have HE := hide (false_of (fun h => by rcases (unhide HN).1 h with h | ⟨_, h⟩ <;> omega) : noncB n = false)
        go_enter Try.func28, Try.ntmps28
        go_wp2
        go_ret
        exact ⟨by rw [unhide HE]; rfl, rfl⟩
    · have HE := hide (false_of (fun h => by rcases (unhide HN).1 h with h | ⟨h, _⟩ <;> omega) : noncB n = false)
      go_enter Try.func28, Try.ntmps28
      go_wp2
      go_ret
      exact ⟨by rw [unhide HE]; rfl, rfl⟩

theorem ctrl_at (n : Int) (w : World) : Calls Try.prog 29 #[.int .i64 n] w fun e w' => e = .returned (.bool (ctrlB n)) ∧ w' = w := by
  have HN : Hid (ctrlB n = true ↔ (n < 32 ∧ n ≠ 9 ∧ n ≠ 10 ∧ n ≠ 12) ∨ (127 ≤ n ∧ n ≤ 159)) := hide ctrlB_iff
  by_cases a1 : n = 9
  · have HE := hide (false_of (fun h => by have := (unhide HN).1 h; omega) : ctrlB n = false)
    have b1 : (n == 9) = true := by simp [a1]
    clear a1
    go_enter Try.func29, Try.ntmps29
    go_wp2
    go_ret
    exact ⟨by rw [unhide HE]; rfl, rfl⟩
  have b1 : (n == 9) = false := by simp [a1]
  by_cases a2 : n = 10
  · have HE := hide (false_of (fun h => by have := (unhide HN).1 h; omega) : ctrlB n = false)
    have b2 : (n == 10) = true := by simp [a2]
    clear a1 a2
    go_enter Try.func29, Try.ntmps29
    go_wp2
    go_ret
    exact ⟨by rw [unhide HE]; rfl, rfl⟩
  have b2 : (n == 10) = false := by simp [a2]
  by_cases a3 : n = 12
  · have HE := hide (false_of (fun h => by have := (unhide HN).1 h; omega) : ctrlB n = false)
    have b3 : (n == 12) = true := by simp [a3]
    clear a1 a2 a3
    go_enter Try.func29, Try.ntmps29
    go_wp2
    go_ret
    exact ⟨by rw [unhide HE]; rfl, rfl⟩
  have b3 : (n == 12) = false := by simp [a3]
  by_cases c1 : n < 32
  · have HE := hide (((unhide HN).2 (.inl ⟨c1, a1, a2, a3⟩)))
    clear a1 a2 a3
    go_enter Try.func29, Try.ntmps29
    go_wp2
    go_ret
    exact ⟨by rw [unhide HE]; rfl, rfl⟩
  by_cases c2 : 127 ≤ n
  · by_cases c3 : n ≤ 159
    · have HE := hide (((unhide HN).2 (.inr ⟨c2, c3⟩)))
      clear a1 a2 a3
      go_enter Try.func29, Try.ntmps29
      go_wp2
      go_ret
      exact ⟨by rw [unhide HE]; rfl, rfl⟩
    · have HE := hide (false_of (fun h => by have := (unhide HN).1 h; omega) : ctrlB n = false)
      clear a1 a2 a3
      go_enter Try.func29, Try.ntmps29
      go_wp2
      go_ret
      exact ⟨by rw [unhide HE]; rfl, rfl⟩
  · have HE := hide (false_of (fun h => by have := (unhide HN).1 h; omega) : ctrlB n = false)
    clear a1 a2 a3
    go_enter Try.func29, Try.ntmps29
    go_wp2
    go_ret
    exact ⟨by rw [unhide HE]; rfl, rfl⟩

theorem meant_at (n : Int) (h0 : 0 ≤ n) (h1 : n ≤ 1114111) (w : World) : Calls Try.prog 30 #[.int .i64 n] w fun e w' => e = .returned (.int .i32 ((othM n).getD n)) ∧ Below w.heap.size w w' := by
  have HO := hide others_at
  have hwr : IntKind.i32.wrap n = n := by rw [IntKind.wrap_i32]; omega
  cases ho : othM n with
  | some q =>
    have HL : Hid (∀ W r, MapAt W r oth → (Instr.lookup 50 (.map (some r)) (.int .i64 n) true).run Try.prog W = .ok (.tuple #[.int .i32 q, .bool true]) W) := hide (fun W r h => by
      have := h.look oth_nodup n
      have e : (oth.find? (fun x => x.1 == n)).map (·.2) = some q := ho
      rw [e] at this
      exact this)
    clear ho
    go_enter Try.func30, Try.ntmps30
    go_wp2_with (go_at_call 39; refine (unhide HO _).mono ?_; rintro e w1 ⟨rfl, hm, hw⟩; have hlk := unhide HL _ _ hm; have HW := hide hw; clear hm hw)
    go_ret
    exact ⟨rfl, unhide HW⟩
  | none =>
    have HL : Hid (∀ W r, MapAt W r oth → (Instr.lookup 50 (.map (some r)) (.int .i64 n) true).run Try.prog W = .ok (.tuple #[.int .i32 0, .bool false]) W) := hide (fun W r h => by
      have := h.look oth_nodup n
      have e : (oth.find? (fun x => x.1 == n)).map (·.2) = none := ho
      rw [e] at this
      exact this)
    clear ho
    go_enter Try.func30, Try.ntmps30
    go_wp2_with (go_at_call 39; refine (unhide HO _).mono ?_; rintro e w1 ⟨rfl, hm, hw⟩; have hlk := unhide HL _ _ hm; have HW := hide hw; clear hm hw)
    go_ret
    exact ⟨rfl, unhide HW⟩
end Go.Proofs.Ytdhknaiggnafnaa
