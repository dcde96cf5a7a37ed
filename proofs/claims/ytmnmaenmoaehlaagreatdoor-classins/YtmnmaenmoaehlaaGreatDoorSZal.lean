/-
  An escaped text, plainly: it has no sign of a tag, for an attribute no quotation mark; and how it is undone.
-/
import Derived.Test.YtmnmaenmoaehlaaGreatDoorSZak
namespace Go.Proofs.YtmnmaenmoaehlaaGreatDoor
open Go.RowKit Go.Lib

theorem one_no (c d : UInt8) (h : d ∈ oneL false c) : d ≠ 60 ∧ d ≠ 62 := by
  unfold oneL at h
  by_cases h1 : c = 38
  · rw [if_pos h1] at h; revert d; decide
  · rw [if_neg h1] at h
    by_cases h2 : c = 34
    · rw [if_pos h2] at h; simp at h; subst h; rw [h2]; decide
    · rw [if_neg h2] at h
      by_cases h3 : c = 60
      · rw [if_pos h3] at h; have h' : d ∈ ltL := h; clear h; revert d; decide
      · rw [if_neg h3] at h
        by_cases h4 : c = 62
        · rw [if_pos h4] at h; have h' : d ∈ gtL := h; clear h; revert d; decide
        · rw [if_neg h4] at h; simp at h; subst h; exact ⟨h3, h4⟩
theorem one_nq (c d : UInt8) (h : d ∈ oneL true c) : d ≠ 34 := by
  unfold oneL at h
  by_cases h1 : c = 38
  · rw [if_pos h1] at h; revert d; decide
  · rw [if_neg h1] at h
    by_cases h2 : c = 34
    · rw [if_pos h2] at h; have h' : d ∈ quotL := h; clear h; revert d; decide
    · rw [if_neg h2] at h
      by_cases h3 : c = 60
      · rw [if_pos h3] at h; simp at h; subst h; exact h2
      · rw [if_neg h3] at h
        by_cases h4 : c = 62
        · rw [if_pos h4] at h; simp at h; subst h; exact h2
        · rw [if_neg h4] at h; simp at h; subst h; exact h2
theorem esc_mem (attr : Bool) (p : UInt8 → Prop) (hone : ∀ c d, d ∈ oneL attr c → p d) (hnb : ∀ d ∈ nbspL, p d) : ∀ (n : Nat) (l : List UInt8), l.length ≤ n → ∀ d ∈ escL attr l, p d := by
  intro n
  induction n with
  | zero => intro l h; cases l with
    | nil => intro d hd; simp [escL] at hd
    | cons c t => simp at h
  | succ n ih =>
    intro l h d hd
    match l, h with
    | [], _ => simp [escL] at hd
    | [c], _ => exact hone c d (by simpa [escL] using hd)
    | c :: e :: t, h =>
      rw [escL] at hd
      split at hd
      · rcases List.mem_append.1 hd with h1 | h1
        · exact hnb d h1
        · exact ih t (by simp at h ⊢; omega) d h1
      · rcases List.mem_append.1 hd with h1 | h1
        · exact hone c d h1
        · exact ih (e :: t) (by simp at h ⊢; omega) d h1
theorem esc_no (l : List UInt8) : ∀ d ∈ escL false l, d ≠ 60 ∧ d ≠ 62 := esc_mem false _ one_no (by decide) l.length l (Nat.le_refl _)
theorem esc_nq (l : List UInt8) : ∀ d ∈ escL true l, d ≠ 34 := esc_mem true _ one_nq (by decide) l.length l (Nat.le_refl _)

def froms : List (List UInt8) := [ampL, nbspL, quotL, ltL, gtL]
def tos : List (List UInt8) := [[38], [194, 160], [34], [60], [62]]
def fits (x : List UInt8) (i : Nat) (f : List UInt8) : Prop := (x.drop i).take f.length = f

theorem esc_head (attr : Bool) (c : UInt8) (t : List UInt8) :
    (∃ (m : Nat) (f u t' : List UInt8), froms[m]? = some f ∧ tos[m]? = some u ∧ c :: t = u ++ t' ∧ escL attr (c :: t) = f ++ escL attr t') ∨ (escL attr (c :: t) = c :: escL attr t ∧ c ≠ 38) := by
  by_cases h0 : c = 194 ∧ t[0]? = some 160
  · obtain ⟨rfl, h⟩ := h0
    cases t with
    | nil => simp at h
    | cons d t =>
      have : d = 160 := by simpa using h
      subst this
      exact .inl ⟨1, nbspL, [194, 160], t, rfl, rfl, rfl, esc_two attr t⟩
  · rw [esc_one attr c t h0]
    by_cases h1 : c = 38
    · subst h1; exact .inl ⟨0, ampL, [38], t, rfl, rfl, rfl, rfl⟩
    · by_cases h2 : c = 34
      · subst h2
        cases attr
        · exact .inr ⟨rfl, h1⟩
        · exact .inl ⟨2, quotL, [34], t, rfl, rfl, rfl, rfl⟩
      · by_cases h3 : c = 60
        · subst h3
          cases attr
          · exact .inl ⟨3, ltL, [60], t, rfl, rfl, rfl, rfl⟩
          · exact .inr ⟨rfl, h1⟩
        · by_cases h4 : c = 62
          · subst h4
            cases attr
            · exact .inl ⟨4, gtL, [62], t, rfl, rfl, rfl, rfl⟩
            · exact .inr ⟨rfl, h1⟩
          · refine .inr ⟨?_, h1⟩
            unfold oneL
            rw [if_neg h1, if_neg h2, if_neg h3, if_neg h4]
            rfl
theorem from_five {m : Nat} {f : List UInt8} (h : froms[m]? = some f) : m < 5 := (List.getElem?_eq_some_iff.1 h).1
theorem from_amp {m : Nat} {f : List UInt8} (h : froms[m]? = some f) : f[0]? = some 38 := by
  match m, from_five h with
  | 0, _ => cases h; rfl
  | 1, _ => cases h; rfl
  | 2, _ => cases h; rfl
  | 3, _ => cases h; rfl
  | 4, _ => cases h; rfl
theorem from_len {m : Nat} {f : List UInt8} (h : froms[m]? = some f) : 2 ≤ f.length ∧ f.length ≤ 6 := by
  match m, from_five h with
  | 0, _ => cases h; decide
  | 1, _ => cases h; decide
  | 2, _ => cases h; decide
  | 3, _ => cases h; decide
  | 4, _ => cases h; decide
theorem from_inj {m m' : Nat} {f f' : List UInt8} (h : froms[m]? = some f) (h' : froms[m']? = some f') (he : f[1]? = f'[1]?) : m = m' := by
  match m, from_five h, m', from_five h' with
  | 0, _, 0, _ => rfl
  | 0, _, 1, _ => cases h; cases h'; revert he; decide
  | 0, _, 2, _ => cases h; cases h'; revert he; decide
  | 0, _, 3, _ => cases h; cases h'; revert he; decide
  | 0, _, 4, _ => cases h; cases h'; revert he; decide
  | 1, _, 0, _ => cases h; cases h'; revert he; decide
  | 1, _, 1, _ => rfl
  | 1, _, 2, _ => cases h; cases h'; revert he; decide
  | 1, _, 3, _ => cases h; cases h'; revert he; decide
  | 1, _, 4, _ => cases h; cases h'; revert he; decide
  | 2, _, 0, _ => cases h; cases h'; revert he; decide
  | 2, _, 1, _ => cases h; cases h'; revert he; decide
  | 2, _, 2, _ => rfl
  | 2, _, 3, _ => cases h; cases h'; revert he; decide
  | 2, _, 4, _ => cases h; cases h'; revert he; decide
  | 3, _, 0, _ => cases h; cases h'; revert he; decide
  | 3, _, 1, _ => cases h; cases h'; revert he; decide
  | 3, _, 2, _ => cases h; cases h'; revert he; decide
  | 3, _, 3, _ => rfl
  | 3, _, 4, _ => cases h; cases h'; revert he; decide
  | 4, _, 0, _ => cases h; cases h'; revert he; decide
  | 4, _, 1, _ => cases h; cases h'; revert he; decide
  | 4, _, 2, _ => cases h; cases h'; revert he; decide
  | 4, _, 3, _ => cases h; cases h'; revert he; decide
  | 4, _, 4, _ => rfl
theorem fits_at {x : List UInt8} {i : Nat} {f : List UInt8} (h : fits x i f) {j : Nat} (hj : j < f.length) : x[i + j]? = f[j]? := by
  have h1 : ((x.drop i).take f.length)[j]? = f[j]? := by rw [h]
  rw [List.getElem?_take_of_lt hj, List.getElem?_drop] at h1
  exact h1
theorem fits_front {x : List UInt8} {i : Nat} {f r : List UInt8} (h : x.drop i = f ++ r) : fits x i f := by
  unfold fits; rw [h]; simp

/-- The text l is undone up to p where the escaped text x stands at i. -/
structure UndAt (attr : Bool) (x l : List UInt8) (i p : Nat) : Prop where
  le : p ≤ l.length
  eq : x.drop i = escL attr (l.drop p)

theorem UndAt.start (attr : Bool) (l : List UInt8) : UndAt attr (escL attr l) l 0 0 := ⟨by omega, by simp⟩
theorem UndAt.more {attr : Bool} {x l : List UInt8} {i p : Nat} (h : UndAt attr x l i p) (hi : i < x.length) : p < l.length := by
  rcases Nat.lt_or_ge p l.length with h1 | h1
  · exact h1
  · have h2 := h.eq
    rw [List.drop_eq_nil_of_le h1, escL] at h2
    have := congrArg List.length h2
    simp at this
    omega
theorem UndAt.plain {attr : Bool} {x l : List UInt8} {i p : Nat} (h : UndAt attr x l i p) (hi : i < x.length) (hno : ∀ (m : Nat) f, froms[m]? = some f → ¬ fits x i f) : UndAt attr x l (i + 1) (p + 1) ∧ x[i]? = l[p]? := by
  have hp := h.more hi
  obtain ⟨c, hc⟩ : ∃ c, l[p]? = some c := ⟨_, List.getElem?_eq_getElem hp⟩
  have hd := at_drop hc
  have he := h.eq
  rw [hd] at he
  rcases esc_head attr c (l.drop (p + 1)) with ⟨m, f, u, t', hf, hu, e1, e2⟩ | ⟨e1, _⟩
  · rw [e2] at he
    exact absurd (fits_front he) (hno m f hf)
  · rw [e1] at he
    refine ⟨⟨by omega, ?_⟩, ?_⟩
    · have := congrArg (List.drop 1) he
      rw [List.drop_drop] at this
      simpa using this
    · rw [hc]
      have := congrArg (fun z : List UInt8 => z[0]?) he
      simp only [List.getElem?_drop] at this
      simpa using this
theorem UndAt.word {attr : Bool} {x l : List UInt8} {i p m : Nat} {f u : List UInt8} (h : UndAt attr x l i p) (hi : i < x.length) (hf : froms[m]? = some f) (hu : tos[m]? = some u) (hfit : fits x i f) : ∃ q, UndAt attr x l (i + f.length) (p + q) ∧ l.take (p + q) = l.take p ++ u := by
  have hp := h.more hi
  obtain ⟨c, hc⟩ : ∃ c, l[p]? = some c := ⟨_, List.getElem?_eq_getElem hp⟩
  have hd := at_drop hc
  have he := h.eq
  rw [hd] at he
  have hl := from_len hf
  rcases esc_head attr c (l.drop (p + 1)) with ⟨m', f', u', t', hf', hu', e1, e2⟩ | ⟨e1, e2⟩
  · rw [e2] at he
    have hfit' := fits_front he
    have hl' := from_len hf'
    have hmm : m = m' := from_inj hf hf' ((fits_at hfit (by omega : 1 < f.length)).symm.trans (fits_at hfit' (by omega)))
    subst hmm
    rw [hf] at hf'; cases hf'
    rw [hu] at hu'; cases hu'
    have hdl : l.drop p = u ++ t' := by rw [hd]; exact e1
    have hlen := congrArg List.length hdl
    rw [List.length_drop, List.length_append] at hlen
    refine ⟨u.length, ⟨by omega, ?_⟩, ?_⟩
    · have := congrArg (List.drop f.length) he
      rw [List.drop_drop] at this
      rw [this, List.drop_left, ← List.drop_drop, hdl, List.drop_left]
    · rw [List.take_add, hdl, List.take_left]
  · rw [e1] at he
    have h1 := fits_at hfit (by omega : 0 < f.length)
    rw [from_amp hf] at h1
    have h2 := congrArg (fun z : List UInt8 => z[0]?) he
    simp only [List.getElem?_drop] at h2
    rw [h1] at h2
    exact absurd (by simpa using h2.symm) e2
theorem UndAt.done {attr : Bool} {x l : List UInt8} {p : Nat} (h : UndAt attr x l x.length p) : l.take p = l := by
  have h2 := h.eq
  rw [List.drop_length] at h2
  have hp : ¬ p < l.length := by
    intro hp
    obtain ⟨c, hc⟩ : ∃ c, l[p]? = some c := ⟨_, List.getElem?_eq_getElem hp⟩
    rw [at_drop hc] at h2
    rcases esc_head attr c (l.drop (p + 1)) with ⟨m, f, u, t', hf, _, _, e2⟩ | ⟨e1, _⟩
    · rw [e2] at h2
      have := congrArg List.length h2
      have := from_len hf
      simp at *
      omega
    · rw [e1] at h2; cases h2
  exact List.take_of_length_le (by omega)
end Go.Proofs.YtmnmaenmoaehlaaGreatDoor
