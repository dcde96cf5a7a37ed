/-
  Package adjust: the name of a table that a name is in small letters, Element; that the program computes at all.
-/
import Derived.Test.YtgbinemombgckaaDoorAb
namespace Go.Proofs.YtgbinemombgckaaDoor
open Go.RowKit Go.Lib

def properM (l : List ByteArray) (n : ByteArray) : ByteArray := (l.find? fun x => isM x n).getD n
def Plain (l : List ByteArray) : Prop := ∀ x ∈ l, Ascii x
theorem find_at {p : ByteArray → Bool} {l : List ByteArray} {j : Nat} {y : ByteArray} (hy : l[j]? = some y) (hp : p y = true) (hno : ∀ i s, i < j → l[i]? = some s → p s = false) : l.find? p = some y := by
  induction l generalizing j with
  | nil => simp at hy
  | cons a l ih =>
    cases j with
    | zero => simp at hy; subst hy; simp [hp]
    | succ j =>
      have h0 := hno 0 a (by omega) rfl
      rw [List.find?_cons, h0]
      exact ih (j := j) (by simpa using hy) (fun i s hi hs => hno (i + 1) s (by omega) (by simpa using hs))
theorem find_none {p : ByteArray → Bool} {l : List ByteArray} (hno : ∀ i s, i < l.length → l[i]? = some s → p s = false) : l.find? p = none := by
  rw [List.find?_eq_none]
  intro s hs
  obtain ⟨i, hi⟩ := List.getElem?_of_mem hs
  rw [hno i s (List.getElem?_eq_some_iff.1 hi).1 hi]
  exact Bool.false_ne_true

set_option maxHeartbeats 2000000 in
theorem proper_any (l : List ByteArray) (hl : l.length ≤ 1000) (hasc : Plain l) (n : ByteArray) (b : Nat) (w : World) (ht : TabAt w b l) :
    Calls Tryd.prog 19 #[.slice (some ⟨b, 0, none⟩) l.length l.length, .string n] w fun e w' => e = .returned (.string (properM l n)) ∧ Below w.heap.size w w' := by
  unfold properM
  have HT := hide ht
  have HA := hide hasc
  have hlz : (l.length : Int) ≤ 1000 := by omega
  clear ht hasc hl
  go_enter Tryd.func19, Tryd.ntmps19
  go_wp2
  go_loopg [6, 9] l.length (fun g _ s9 wx => ∃ j : Nat, j + g = l.length ∧ s9 = .int .i64 j ∧ Below w.heap.size w wx ∧ (∀ i s, i < j → l[i]? = some s → isM s n = false))
  case atStart => exact ⟨0, by omega, rfl, Below.refl _ w, fun i s hi => absurd hi (Nat.not_lt_zero _)⟩
  case round =>
    obtain ⟨j, hjg, rfl, hb, hno⟩ := hrel
    have HN := hide hno
    have HB := hide hb
    clear hno hb
    by_cases hj : j < l.length
    · have hjz : (j : Int) < (l.length : Int) := by omega
      obtain ⟨y, hy⟩ : ∃ y, l[j]? = some y := ⟨_, List.getElem?_eq_getElem hj⟩
      have hcell := ((unhide HT).below (unhide HB)).cells j y hy
      have hcall := fun W => inSmall_any y n W (Or.inl (unhide HA y (List.mem_of_getElem? hy)))
      have HY := hide hy
      clear hy
      cases hq : isM y n with
      | true =>
        rw [hq] at hcall
        have HQ := hide hq
        clear hq
        go_wp2_with (go_at_call 24; refine (hcall _).mono ?_; rintro e w' ⟨rfl, hb'⟩; have HB' := hide ((unhide HB).trans (hb'.mono (unhide HB).size)); clear hb')
        go_ret
        refine ⟨?_, unhide HB'⟩
        rw [find_at (p := fun x => isM x n) (unhide HY) (unhide HQ) (unhide HN)]
        rfl
      | false =>
        rw [hq] at hcall
        have HQ := hide hq
        clear hq
        go_wp2_with (go_at_call 24; refine (hcall _).mono ?_; rintro e w' ⟨rfl, hb'⟩; have HB' := hide ((unhide HB).trans (hb'.mono (unhide HB).size)); clear hb')
        go_roundg (gk - 1)
        case measure => omega
        case rel =>
          refine ⟨j + 1, by omega, by go_num, unhide HB', fun i s hi hs => ?_⟩
          by_cases e : i = j
          · subst e; rw [unhide HY] at hs; cases hs; exact unhide HQ
          · exact (unhide HN) i s (by omega) hs
    · have hjz : ¬ (j : Int) < (l.length : Int) := by omega
      obtain rfl : j = l.length := by omega
      go_wp2
      go_ret
      refine ⟨?_, unhide HB⟩
      rw [find_none (p := fun x => isM x n) (unhide HN)]
      rfl

theorem plainE : Plain svgE := by
  intro x hx
  have : svgE.all (fun y => y.data.toList.all fun b => decide (b.toNat < 128)) = true := by decide +kernel
  have := List.all_eq_true.1 this x hx
  intro b hb
  exact of_decide_eq_true (List.all_eq_true.1 this b hb)
theorem plainA : Plain svgA := by
  intro x hx
  have : svgA.all (fun y => y.data.toList.all fun b => decide (b.toNat < 128)) = true := by decide +kernel
  have := List.all_eq_true.1 this x hx
  intro b hb
  exact of_decide_eq_true (List.all_eq_true.1 this b hb)

theorem element_any (n : ByteArray) (w : World) : Calls Tryd.prog 10 #[.string n] w fun e w' => e = .returned (.string (properM svgE n)) ∧ Below w.heap.size w w' := by
  have HP : Hid (Calls Tryd.prog 19 #[.slice (some ⟨w.heap.size, 0, none⟩) 37 37, .string n] (w.alloc (.cells (sRow svgE) 9)) fun e w' => e = .returned (.string (properM svgE n)) ∧ Below (w.alloc (.cells (sRow svgE) 9)).heap.size (w.alloc (.cells (sRow svgE) 9)) w') :=
    hide (proper_any svgE (by decide) plainE n w.heap.size _ (tab_new w svgE))
  have HS := hide (svgE_any w)
  have HB := hide (below_new w (.cells (sRow svgE) 9))
  generalize properM svgE n = r at HP
  generalize w.alloc (.cells (sRow svgE) 9) = w1 at HP HS HB
  go_enter Tryd.func10, Tryd.ntmps10
  go_wp2_with (first | (go_at_call 20; refine (unhide HS).mono ?_; rintro e w' ⟨rfl, rfl⟩) | (go_at_call 19; refine (unhide HP).mono ?_; rintro e w' ⟨rfl, hb'⟩; have HB' := hide ((unhide HB).trans (hb'.mono (unhide HB).size)); clear hb'))
  go_ret
  exact ⟨rfl, unhide HB'⟩

theorem awake_any (w : World) : Calls Tryd.prog 9 #[] w fun e w' => e = .returned (.bool true) ∧ Below w.heap.size w w' := by
  have he : properM svgE ⟨#[99, 108, 105, 112, 112, 97, 116, 104]⟩ = ⟨#[99, 108, 105, 112, 80, 97, 116, 104]⟩ := by decide +kernel
  have HE := hide (element_any ⟨#[99, 108, 105, 112, 112, 97, 116, 104]⟩ w)
  rw [he] at HE
  clear he
  go_enter Tryd.func9, Tryd.ntmps9
  go_wp2_with (go_at_call 10; refine (unhide HE).mono ?_; rintro e w' ⟨rfl, hb'⟩; have HB' := hide hb'; clear hb')
  go_ret
  exact ⟨rfl, unhide HB'⟩
end Go.Proofs.YtgbinemombgckaaDoor
