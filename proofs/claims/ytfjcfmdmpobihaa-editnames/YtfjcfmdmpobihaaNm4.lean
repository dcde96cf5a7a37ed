/-
  The document's answer: whether a text is a name.
-/
import Derived.Test.YtfjcfmdmpobihaaNm3
namespace Go.Proofs.Ytfjcfmdmpobihaa
open Go.RowKit Go.Lib

def badB (x : UInt8) : Bool := noName.data.toList.contains x

theorem badB_yes {x : UInt8} (h : badB x = true) : x = 0 ∨ x = 9 ∨ x = 10 ∨ x = 12 ∨ x = 13 ∨ x = 32 ∨ x = 47 ∨ x = 61 ∨ x = 62 ∨ x = 60 ∨ x = 34 ∨ x = 39 := by
  simpa [badB, noName] using h
theorem badB_no {x : UInt8} (h : badB x = false) : x ≠ 0 ∧ x ≠ 9 ∧ x ≠ 10 ∧ x ≠ 12 ∧ x ≠ 13 ∧ x ≠ 32 ∧ x ≠ 47 ∧ x ≠ 61 ∧ x ≠ 62 ∧ x ≠ 60 ∧ x ≠ 34 ∧ x ≠ 39 := by
  simpa [badB, noName] using h
theorem ne_int {x : UInt8} (k : Nat) (h : x ≠ UInt8.ofNat k) : ((x.toNat : Int) == (k : Int)) = false := by
  rw [beq_eq_false_iff_ne]; intro e
  apply h
  have : x.toNat = k := by omega
  rw [← this]; simp

set_option maxHeartbeats 2000000 in
theorem refName_any (s : ByteArray) (w : World) (hm : s.size ≤ maxLen) :
    Calls Try.prog 23 #[.string s] w fun e w' => e = .returned (.bool (nameM s)) ∧ w' = w := by
  unfold maxLen at hm
  go_enter Try.func23, Try.ntmps23
  go_wp2
  go_loopg [3] s.size (fun g s2 wx => ∃ i : Nat, i + g = s.size ∧ s2 = .int .i64 i ∧ wx = w ∧ ∀ j b, j < i → s.data.toList[j]? = some b → badB b = false)
  case atStart => exact ⟨0, by omega, rfl, rfl, fun j b h => by omega⟩
  case round =>
    obtain ⟨i, hig, rfl, rfl, hno⟩ := hrel
    have HN : Aside (∀ j b, j < i → s.data.toList[j]? = some b → badB b = false) := hno
    clear hno
    cases gk with
    | zero =>
      obtain rfl : i = s.size := by omega
      have hany : (s.data.toList.any fun b => noName.data.toList.contains b) = false := by
        rw [List.any_eq_false]; intro b hb
        obtain ⟨j, hj⟩ := List.mem_iff_getElem?.1 hb
        have := HN.out j b (by have := (List.getElem?_eq_some_iff.1 hj).1; rw [Lib.size_eq]; exact this) hj
        unfold badB at this; rw [this]; simp
      have hM : nameM s = decide (1 ≤ s.size ∧ s.size ≤ 100) := by unfold nameM; rw [hany]; simp
      have HM : Aside (nameM s = decide (1 ≤ s.size ∧ s.size ≤ 100)) := hM
      clear hany hM
      have hiz : ¬ ((s.size : Int) < (s.size : Int)) := by omega
      by_cases h1 : 1 ≤ s.size
      · have h1' : (1 : Int) ≤ (s.size : Int) := by omega
        go_wp2
        go_ret
        refine ⟨?_, rfl⟩
        rw [HM.out]; simp [h1]; try omega
      · have h1' : ¬ (1 : Int) ≤ (s.size : Int) := by omega
        go_wp2
        go_ret
        refine ⟨?_, rfl⟩
        rw [HM.out]; simp [h1]
    | succ g =>
      have hi : i < s.size := by omega
      have hiz : (i : Int) < (s.size : Int) := by omega
      obtain ⟨x, hx⟩ : ∃ x : UInt8, s[i]'hi = x := ⟨_, rfl⟩
      have Hx : Aside (s.data.toList[i]? = some x) := by rw [← hx]; exact Lib.data_getElem? s i hi
      cases hb : badB x with
      | true =>
        have hM : nameM s = false := by
          have : (s.data.toList.any fun b => noName.data.toList.contains b) = true := List.any_eq_true.2 ⟨x, List.mem_of_getElem? Hx.out, hb⟩
          unfold nameM; rw [this]; simp
        have HM : Aside (nameM s = false) := hM
        have hy := badB_yes hb
        clear hM hb
        rcases hy with rfl | rfl | rfl | rfl | rfl | rfl | rfl | rfl | rfl | rfl | rfl | rfl
        all_goals go_wp2
        all_goals go_ret
        all_goals exact ⟨by rw [HM.out]; rfl, rfl⟩
      | false =>
        obtain ⟨n0, n1, n2, n3, n4, n5, n6, n7, n8, n9, n10, n11⟩ := badB_no hb
        have m0 := ne_int 0 n0
        have m1 := ne_int 9 n1
        have m2 := ne_int 10 n2
        have m3 := ne_int 12 n3
        have m4 := ne_int 13 n4
        have m5 := ne_int 32 n5
        have m6 := ne_int 47 n6
        have m7 := ne_int 61 n7
        have m8 := ne_int 62 n8
        have m9 := ne_int 60 n9
        have m10 := ne_int 34 n10
        have m11 := ne_int 39 n11
        have HBx : Aside (badB x = false) := hb
        clear n0 n1 n2 n3 n4 n5 n6 n7 n8 n9 n10 n11 hb
        simp only [Int.cast_ofNat_Int] at m0 m1 m2 m3 m4 m5 m6 m7 m8 m9 m10 m11
        go_wp2
        go_roundg g
        case measure => omega
        case rel =>
          refine ⟨i + 1, by omega, by first | rfl | simp, rfl, fun j b hj hbj => ?_⟩
          by_cases e : j = i
          · subst e; rw [Hx.out] at hbj; cases hbj; exact HBx.out
          · exact HN.out j b (by omega) hbj
end Go.Proofs.Ytfjcfmdmpobihaa
