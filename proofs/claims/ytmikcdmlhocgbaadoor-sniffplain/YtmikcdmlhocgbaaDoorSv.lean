/-
  Package sniff's step, whole.
-/
import Derived.Test.YtmikcdmlhocgbaaDoorSt
import Derived.Test.YtmikcdmlhocgbaaDoorSu
namespace Go.Proofs.YtmikcdmlhocgbaaDoor
open Go.RowKit Go.Lib
section
variable {w : World} {b k : Nat} {t : ByteArray}

theorem step_any (h : Sc w b t k) (hk : k < t.size) (hs : Small t) :
    Calls Tryd.prog 21 #[.pointer (some ⟨b, 0, none⟩)] w fun e w' => e = .returned (.tuple #[.int .i64 (stepM t.data.toList k).1.1, .bool (stepM t.data.toList k).1.2]) ∧ Gone w w' b t (stepM t.data.toList k).2 := by
  have hA := asks (b := b) (Nat.le_of_lt hk) hs
  unfold stepM
  cases c1 : seesM t.data.toList k comL with
  | true =>
    rw [if_pos rfl]
    exact step_com h (Nat.le_of_lt hk) hs c1
  | false =>
    rw [if_neg (by simp)]
    cases cm : isMeta t.data.toList k with
    | true =>
      rw [if_pos rfl]
      unfold isMeta at cm
      rw [Bool.and_eq_true] at cm
      have hfit := sees_fits cm.1 (by decide)
      have e5 : metaL.length = 5 := rfl
      rw [len_data, e5] at hfit
      exact step_meta h hfit hs hA c1 cm.1 cm.2
    | false =>
      rw [if_neg (by simp)]
      unfold isMeta at cm
      have hm : seesM t.data.toList k metaL = false ∨ (seesM t.data.toList k metaL = true ∧ amongM t.data.toList (k + 5) gapL = false) := by
        cases hh : seesM t.data.toList k metaL with
        | false => exact .inl rfl
        | true => rw [hh, Bool.true_and] at cm; exact .inr ⟨rfl, cm⟩
      clear cm
      unfold isTag isOdd
      cases c3 : seesM t.data.toList k [60] with
      | true =>
        cases c3a : letterM t.data.toList (k + 1) with
        | true =>
          simp only [Bool.true_and, Bool.true_or, if_true]
          rcases hm with h2 | ⟨h2, h2a⟩
          · exact callsIn_wide.1 (step_tagFY h hk hs hA c1 h2 c3 c3a)
          · exact callsIn_wide.1 (step_tagTY h hk hs hA c1 h2 h2a c3 c3a)
        | false =>
          cases c4 : seesM t.data.toList k [60, 47] with
          | true =>
            cases c4a : letterM t.data.toList (k + 2) with
            | true =>
              simp only [Bool.true_and, Bool.and_false, Bool.or_true, Bool.true_or, if_true]
              rcases hm with h2 | ⟨h2, h2a⟩
              · exact callsIn_wide.1 (step_tagFTY h hk hs hA c1 h2 c3 c3a c4 c4a)
              · exact callsIn_wide.1 (step_tagTTY h hk hs hA c1 h2 h2a c3 c3a c4 c4a)
            | false =>
              simp only [Bool.and_false, Bool.or_true, Bool.true_or, Bool.or_false, if_true, Bool.false_eq_true, if_false]
              cases c5 : seesM t.data.toList k [60, 33] with
              | true =>
                skip
                rcases hm with h2 | ⟨h2, h2a⟩
                · exact step_FTT_exT h hk hs hA c1 h2 c3 c3a c4 c4a c5
                · exact step_TTT_exT h hk hs hA c1 h2 h2a c3 c3a c4 c4a c5
              | false =>
                skip
                rcases hm with h2 | ⟨h2, h2a⟩
                · exact step_FTT_exF h hk hs hA c1 h2 c3 c3a c4 c4a c5
                · exact step_TTT_exF h hk hs hA c1 h2 h2a c3 c3a c4 c4a c5
          | false =>
            simp only [Bool.false_and, Bool.and_false, Bool.false_or, Bool.or_false, Bool.false_eq_true, if_false]
            cases c5 : seesM t.data.toList k [60, 33] with
            | true =>
              simp only [Bool.true_or, if_true]
              rcases hm with h2 | ⟨h2, h2a⟩
              · exact step_FTF_exT h hk hs hA c1 h2 c3 c3a c4 c5
              · exact step_TTF_exT h hk hs hA c1 h2 h2a c3 c3a c4 c5
            | false =>
              cases c6 : seesM t.data.toList k [60, 63] with
              | true =>
                simp only [Bool.or_true, if_true]
                rcases hm with h2 | ⟨h2, h2a⟩
                · exact step_FTF_quT h hk hs hA c1 h2 c3 c3a c4 c5 c6
                · exact step_TTF_quT h hk hs hA c1 h2 h2a c3 c3a c4 c5 c6
              | false =>
                simp only [Bool.or_false, Bool.false_eq_true, if_false]
                rcases hm with h2 | ⟨h2, h2a⟩
                · exact step_FTF_quF h hk hs hA c1 h2 c3 c3a c4 c5 c6
                · exact step_TTF_quF h hk hs hA c1 h2 h2a c3 c3a c4 c5 c6
      | false =>
        cases c4 : seesM t.data.toList k [60, 47] with
        | true =>
          cases c4a : letterM t.data.toList (k + 2) with
          | true =>
            simp only [Bool.true_and, Bool.false_and, Bool.or_true, Bool.true_or, if_true]
            rcases hm with h2 | ⟨h2, h2a⟩
            · exact callsIn_wide.1 (step_tagFFY h hk hs hA c1 h2 c3 c4 c4a)
            · exact callsIn_wide.1 (step_tagTFY h hk hs hA c1 h2 h2a c3 c4 c4a)
          | false =>
            simp only [Bool.false_and, Bool.and_false, Bool.or_true, Bool.true_or, Bool.or_false, if_true, Bool.false_eq_true, if_false]
            cases c5 : seesM t.data.toList k [60, 33] with
            | true =>
              skip
              rcases hm with h2 | ⟨h2, h2a⟩
              · exact step_FFT_exT h hk hs hA c1 h2 c3 c4 c4a c5
              · exact step_TFT_exT h hk hs hA c1 h2 h2a c3 c4 c4a c5
            | false =>
              skip
              rcases hm with h2 | ⟨h2, h2a⟩
              · exact step_FFT_exF h hk hs hA c1 h2 c3 c4 c4a c5
              · exact step_TFT_exF h hk hs hA c1 h2 h2a c3 c4 c4a c5
        | false =>
          simp only [Bool.false_and, Bool.false_or, Bool.or_false, Bool.false_eq_true, if_false]
          cases c5 : seesM t.data.toList k [60, 33] with
          | true =>
            simp only [Bool.true_or, if_true]
            rcases hm with h2 | ⟨h2, h2a⟩
            · exact step_FFF_exT h hk hs hA c1 h2 c3 c4 c5
            · exact step_TFF_exT h hk hs hA c1 h2 h2a c3 c4 c5
          | false =>
            cases c6 : seesM t.data.toList k [60, 63] with
            | true =>
              simp only [Bool.or_true, if_true]
              rcases hm with h2 | ⟨h2, h2a⟩
              · exact step_FFF_quT h hk hs hA c1 h2 c3 c4 c5 c6
              · exact step_TFF_quT h hk hs hA c1 h2 h2a c3 c4 c5 c6
            | false =>
              simp only [Bool.or_false, Bool.false_eq_true, if_false]
              rcases hm with h2 | ⟨h2, h2a⟩
              · exact step_FFF_quF h hk hs hA c1 h2 c3 c4 c5 c6
              · exact step_TFF_quF h hk hs hA c1 h2 h2a c3 c4 c5 c6
end
end Go.Proofs.YtmikcdmlhocgbaaDoor
