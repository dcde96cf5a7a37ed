/-
  Whether a text is a name: package edit's answer and the document's.
-/
import Derived.Test.YtlbkoafeedlfaaaNm2
namespace Go.Proofs.Ytlbkoafeedlfaaa
open Go.RowKit Go.Lib

theorem zero188 : (Try.prog.info? 188).map (fun i => (i.zero, i.size)) = some (some (.agg (Array.replicate 256 (.bool false))), 256) := by kernel_rfl

theorem indexAny_any (s : ByteArray) (w : World) (hs : s.size ≤ 100) :
    Calls Try.prog 147 #[.string s, .string noName] w fun e w' => e = .returned (.int .i64 (Lib.indexAny s.data.toList noName.data.toList)) ∧ Below w.heap.size w w' := by
  by_cases h8 : s.size ≤ 8
  · exact indexAny_short s w h8
  · refine (Try.strings_IndexAny_long (zero_of_info zero188).1 s noName w (by decide) (by omega) (by omega) (by decide) noName_ascii).mono fun e w' ⟨h1, h2⟩ => ⟨h1, ?_⟩
    rw [h2]
    exact ((Below.refl _ _).alloc (Nat.le_refl _) _).alloc (by simp) _

def nameM (s : ByteArray) : Bool := decide (1 ≤ s.size ∧ s.size ≤ 100) && !(s.data.toList.any fun b => noName.data.toList.contains b)

theorem containsAny_eq (l cs : List UInt8) : Lib.containsAny l cs = l.any fun b => cs.contains b := by
  unfold Lib.containsAny
  induction l with
  | nil => rfl
  | cons b l ih =>
    rw [Lib.indexAny, List.any_cons]
    cases h : cs.contains b with
    | true => simp
    | false =>
      simp only [Bool.false_or]
      rw [← ih]
      have := Lib.indexAny_ge cs l
      by_cases h1 : Lib.indexAny l cs = -1
      · simp [h1]
      · have e : (Lib.indexAny l cs == -1) = false := beq_eq_false_iff_ne.2 h1
        simp only [e, Bool.false_eq_true, if_false]
        rw [decide_eq_decide]; omega

set_option maxHeartbeats 1000000 in
theorem containsAny_any (s : ByteArray) (w : World) (hs : s.size ≤ 100) :
    Calls Try.prog 133 #[.string s, .string noName] w fun e w' => e = .returned (.bool (s.data.toList.any fun b => noName.data.toList.contains b)) ∧ Below w.heap.size w w' := by
  have hc := indexAny_any s w hs
  rw [← containsAny_eq]
  generalize noName = cs at hc ⊢
  go_enter Try.func133, Try.ntmps133
  go_wp2_with (go_at_call 147; refine hc.mono ?_; rintro e w' ⟨rfl, hw⟩)
  go_ret
  exact ⟨rfl, hw⟩

set_option maxHeartbeats 1000000 in
theorem name_any (s : ByteArray) (w : World) (hm : s.size ≤ maxLen) :
    Calls Try.prog 106 #[.string s] w fun e w' => e = .returned (.bool (nameM s)) ∧ Below w.heap.size w w' := by
  unfold maxLen at hm
  have HC : s.size ≤ 100 → Aside (Calls Try.prog 133 #[.string s, .string ⟨#[0, 9, 10, 12, 13, 32, 47, 61, 62, 60, 34, 39]⟩] w fun e w' => e = .returned (.bool (s.data.toList.any fun b => noName.data.toList.contains b)) ∧ Below w.heap.size w w') := fun h => containsAny_any s w h
  cases hl : s.data.toList with
  | nil =>
    have hz : s.size = 0 := by rw [Lib.size_eq, hl]; rfl
    have hemp : s.toList.isEmpty = true := by rw [Lib.toList_data, hl]; rfl
    have : nameM s = false := by simp [nameM, hz]
    rw [this]
    clear HC
    go_enter Try.func106, Try.ntmps106
    go_wp2
    all_goals go_ret
    all_goals exact ⟨rfl, Below.refl _ _⟩
  | cons b l =>
    have hz : 1 ≤ s.size := by rw [Lib.size_eq, hl]; simp
    have hemp : s.toList.isEmpty = false := by rw [Lib.toList_data, hl]; rfl
    rw [hl] at HC
    by_cases h100 : s.size ≤ 100
    · have : nameM s = !((b :: l).any fun b => noName.data.toList.contains b) := by simp only [nameM, hz, h100, hl]; simp
      rw [this]
      have HC1 := HC h100
      generalize ((b :: l).any fun b => noName.data.toList.contains b) = q at HC1 ⊢
      clear HC hl
      have h1 : (s.size : Int) ≤ 100 := by omega
      go_enter Try.func106, Try.ntmps106
      go_wp2_with (go_at_call 133; refine HC1.out.mono ?_; rintro e w' ⟨rfl, hw⟩)
      all_goals go_ret
      all_goals exact ⟨rfl, hw⟩
    · have : nameM s = false := by simp [nameM, h100]
      rw [this]
      have h1 : ¬ (s.size : Int) ≤ 100 := by omega
      clear HC hl
      go_enter Try.func106, Try.ntmps106
      go_wp2
      all_goals go_ret
      all_goals exact ⟨rfl, Below.refl _ _⟩
end Go.Proofs.Ytlbkoafeedlfaaa
