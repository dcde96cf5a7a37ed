/-
  A text escaped, plainly: what the document says of Escape; what a code point of the text adds to it.
-/
import Derived.Test.YtfcagiacjpcpeaaRows
namespace Go.Proofs.Ytfcagiacjpcpeaa

def ampL : List UInt8 := [38, 97, 109, 112, 59]
def nbspL : List UInt8 := [38, 110, 98, 115, 112, 59]
def quotL : List UInt8 := [38, 113, 117, 111, 116, 59]
def ltL : List UInt8 := [38, 108, 116, 59]
def gtL : List UInt8 := [38, 103, 116, 59]

/-- What a byte that is no part of C2 A0 becomes. -/
def oneL (attr : Bool) (c : UInt8) : List UInt8 :=
  if c = 38 then ampL else if c = 34 then (if attr then quotL else [c]) else if c = 60 then (if attr then [c] else ltL) else if c = 62 then (if attr then [c] else gtL) else [c]

/-- A text escaped. -/
def escL (attr : Bool) : List UInt8 → List UInt8
  | [] => []
  | [c] => oneL attr c
  | c :: d :: t => if c = 194 ∧ d = 160 then nbspL ++ escL attr t else oneL attr c ++ escL attr (d :: t)

/-- What stands for a code point. -/
def wordL (attr : Bool) (r : Int) : List UInt8 :=
  if r = 38 then ampL else if r = 160 then nbspL else if r = 34 then (if attr then quotL else []) else if r = 60 then (if attr then [] else ltL) else if r = 62 then (if attr then [] else gtL) else []

theorem esc_one (attr : Bool) (c : UInt8) (t : List UInt8) (h : ¬ (c = 194 ∧ t[0]? = some 160)) : escL attr (c :: t) = oneL attr c ++ escL attr t := by
  cases t with
  | nil => simp [escL]
  | cons d t =>
    rw [escL, if_neg]
    intro e
    exact h ⟨e.1, by simp [e.2]⟩
theorem esc_two (attr : Bool) (t : List UInt8) : escL attr (194 :: 160 :: t) = nbspL ++ escL attr t := by
  rw [escL, if_pos ⟨rfl, rfl⟩]
theorem one_high (attr : Bool) (c : UInt8) (h : 128 ≤ c.toNat) : oneL attr c = [c] := by
  have h1 : ¬ c = 38 := by intro e; subst e; revert h; decide
  have h2 : ¬ c = 34 := by intro e; subst e; revert h; decide
  have h3 : ¬ c = 60 := by intro e; subst e; revert h; decide
  have h4 : ¬ c = 62 := by intro e; subst e; revert h; decide
  unfold oneL
  rw [if_neg h1, if_neg h2, if_neg h3, if_neg h4]
theorem esc_high (attr : Bool) (c : UInt8) (t : List UInt8) (hc : 128 ≤ c.toNat) (h : ¬ (c = 194 ∧ t[0]? = some 160)) : escL attr (c :: t) = c :: escL attr t := by
  rw [esc_one attr c t h, one_high attr c hc]; rfl
theorem esc_cont (attr : Bool) (c : UInt8) (t : List UInt8) (hc : c.toNat / 64 = 2) : escL attr (c :: t) = c :: escL attr t :=
  esc_high attr c t (by omega) (by intro e; rw [e.1] at hc; revert hc; decide)
theorem word_high (attr : Bool) (r : Nat) (h : 128 ≤ r) (h2 : r ≠ 160) : wordL attr (r : Int) = [] := by
  unfold wordL
  rw [if_neg (by omega), if_neg (by omega), if_neg (by omega), if_neg (by omega), if_neg (by omega)]
theorem nat_u8 {c : UInt8} {n : Nat} (hn : n < 256) (h : c.toNat = n) : c = UInt8.ofNat n := by
  apply UInt8.toNat_inj.1; rw [h]; simp [UInt8.toNat_ofNat', Nat.mod_eq_of_lt hn]
theorem one_ascii (attr : Bool) (c : UInt8) (h : c.toNat < 128) : oneL attr c = if wordL attr (c.toNat : Int) = [] then [c] else wordL attr (c.toNat : Int) := by
  have e : ∀ k : UInt8, ¬ c = k → ¬ (c.toNat : Int) = (k.toNat : Int) := fun k hk h => hk (UInt8.toNat_inj.1 (by omega))
  by_cases h1 : c = 38
  · subst h1; cases attr <;> decide
  · by_cases h2 : c = 34
    · subst h2; cases attr <;> decide
    · by_cases h3 : c = 60
      · subst h3; cases attr <;> decide
      · by_cases h4 : c = 62
        · subst h4; cases attr <;> decide
        · have k1 : ¬ (c.toNat : Int) = 38 := e 38 h1
          have k2 : ¬ (c.toNat : Int) = 34 := e 34 h2
          have k3 : ¬ (c.toNat : Int) = 60 := e 60 h3
          have k4 : ¬ (c.toNat : Int) = 62 := e 62 h4
          have k5 : ¬ (c.toNat : Int) = 160 := by omega
          have e1 : oneL attr c = [c] := by unfold oneL; rw [if_neg h1, if_neg h2, if_neg h3, if_neg h4]
          have e2 : wordL attr (c.toNat : Int) = [] := by unfold wordL; rw [if_neg k1, if_neg k5, if_neg k2, if_neg k3, if_neg k4]
          rw [e1, e2, if_pos rfl]

/-- How many bytes a code point that has a word has. -/
def wideN (r : Int) : Nat := if r = 160 then 2 else 1

/-- A step over the text by a code point r of q bytes at its front. -/
structure StepR (attr : Bool) (l : List UInt8) (r : Int) (q : Nat) : Prop where
  pos : 1 ≤ q
  le : q ≤ l.length
  word : wordL attr r ≠ [] → q = wideN r ∧ escL attr l = wordL attr r ++ escL attr (l.drop q)
  same : wordL attr r = [] → escL attr l = l.take q ++ escL attr (l.drop q)

theorem step_bad (attr : Bool) (c : UInt8) (t : List UInt8) (hc : 128 ≤ c.toNat) (h : ¬ (c = 194 ∧ t[0]? = some 160)) : StepR attr (c :: t) (65533 : Nat) 1 := by
  refine ⟨Nat.le_refl _, by simp, fun hw => absurd (word_high attr 65533 (by omega) (by omega)) hw, fun _ => ?_⟩
  rw [esc_high attr c t hc h]; rfl

theorem get_list (s : ByteArray) (i : Nat) : s.get! i = s.data.toList.getD i 0 := by
  show s.data[i]! = _
  rw [List.getD_eq_getElem?_getD, Array.getElem?_toList]
  rcases Nat.lt_or_ge i s.data.size with h | h
  · rw [Array.getElem?_eq_getElem h, getElem!_pos s.data i h]; rfl
  · rw [Array.getElem?_eq_none h, getElem!_neg s.data i (Nat.not_lt.2 h)]; rfl
theorem getD_drop' (l : List UInt8) (i k : Nat) : l.getD (i + k) 0 = (l.drop i).getD k 0 := by
  simp [List.getD_eq_getElem?_getD, List.getElem?_drop]

set_option maxHeartbeats 2000000 in
theorem decode_step (attr : Bool) (s : ByteArray) (i : Nat) (hi : i < s.size) : StepR attr (s.data.toList.drop i) ((Utf8.decode s i).1 : Nat) (Utf8.decode s i).2 := by
  obtain ⟨l, hl⟩ : ∃ l, s.data.toList.drop i = l := ⟨_, rfl⟩
  have hn : s.size = s.data.toList.length := by show s.data.size = _; simp
  have hlen : l.length = s.size - i := by rw [← hl, List.length_drop, hn]
  have c1 : (i + 1 < s.size) = (1 < l.length) := propext ⟨fun h => by omega, fun h => by omega⟩
  have c2 : (i + 2 < s.size) = (2 < l.length) := propext ⟨fun h => by omega, fun h => by omega⟩
  have c3 : (i + 3 < s.size) = (3 < l.length) := propext ⟨fun h => by omega, fun h => by omega⟩
  have g : ∀ k, s.get! (i + k) = l.getD k 0 := fun k => by rw [get_list, getD_drop', hl]
  rw [hl]
  clear hl
  simp only [Utf8.decode, Utf8.valid, Utf8.runeError, Bool.and_eq_true, Bool.or_eq_true, beq_iff_eq, decide_eq_true_eq, c1, c2, c3, ge_iff_le, g]
  clear c1 c2 c3 g
  match l with
  | [] => simp at hlen; omega
  | c :: t =>
    clear hlen
    have hd0 : (c :: t).getD 0 0 = c := rfl
    rw [hd0]
    have hlt := c.toNat_lt
    by_cases h0 : c.toNat < 128
    · rw [if_pos h0]
      have hne : ¬ (c = 194 ∧ t[0]? = some 160) := by intro e; rw [e.1] at h0; revert h0; decide
      refine ⟨Nat.le_refl _, by simp, fun hw => ?_, fun hw => ?_⟩
      · refine ⟨?_, ?_⟩
        · unfold wideN; rw [if_neg (by show ¬ (c.toNat : Int) = 160; omega)]
        · rw [esc_one attr c t hne, one_ascii attr c h0, if_neg hw]; rfl
      · rw [esc_one attr c t hne, one_ascii attr c h0, if_pos hw]; rfl
    · rw [if_neg h0]
      have hc : 128 ≤ c.toNat := by omega
      by_cases h1 : c.toNat / 32 = 6 ∧ 1 < (c :: t).length ∧ ((c :: t).getD 1 0).toNat / 64 = 2
      · rw [if_pos h1]
        match t, h1 with
        | [], h1 => simp at h1
        | d :: t, ⟨a1, _, a2⟩ =>
          have e1 : (c :: d :: t).getD 1 0 = d := rfl
          rw [e1] at a2 ⊢
          have hdlt := d.toNat_lt
          by_cases h2 : 128 ≤ c.toNat % 32 * 64 + d.toNat % 64
          · rw [if_pos h2]
            by_cases h3 : c.toNat % 32 * 64 + d.toNat % 64 = 160
            · have ec : c = 194 := nat_u8 (n := 194) (by omega) (by omega)
              have ed : d = 160 := nat_u8 (n := 160) (by omega) (by omega)
              subst ec ed
              refine ⟨by decide, by simp, fun _ => ⟨by decide, ?_⟩, fun hw => ?_⟩
              · exact esc_two attr t
              · exact absurd hw (by cases attr <;> decide)
            · refine ⟨by show 1 ≤ 2; omega, by simp, fun hw => absurd (word_high attr _ h2 h3) hw, fun _ => ?_⟩
              rw [esc_high attr c (d :: t) hc (by
                intro e
                have e2 : d = 160 := by simpa using e.2
                apply h3; rw [e.1, e2]; decide), esc_cont attr d t a2]
              rfl
          · rw [if_neg h2]
            exact step_bad attr c (d :: t) hc (by intro e; rw [e.1] at h2; apply h2; have e2 : (194 : UInt8).toNat % 32 = 2 := rfl; omega)
      · rw [if_neg h1]
        have hne : ¬ (c = 194 ∧ t[0]? = some 160) := by
          intro e
          apply h1
          cases t with
          | nil => simp at e
          | cons d t =>
            have e2 : d = 160 := by simpa using e.2
            rw [e.1, e2]
            refine ⟨by decide, by simp, ?_⟩
            show (160 : UInt8).toNat / 64 = 2
            decide
        by_cases h2 : c.toNat / 16 = 14 ∧ (1 < (c :: t).length ∧ ((c :: t).getD 1 0).toNat / 64 = 2) ∧ 2 < (c :: t).length ∧ ((c :: t).getD 2 0).toNat / 64 = 2
        · have h2' : (c.toNat / 16 = 14 ∧ 1 < (c :: t).length ∧ ((c :: t).getD 1 0).toNat / 64 = 2) ∧ 2 < (c :: t).length ∧ ((c :: t).getD 2 0).toNat / 64 = 2 := ⟨⟨h2.1, h2.2.1⟩, h2.2.2⟩
          rw [if_pos h2']
          match t, h2 with
          | [], h2 => simp at h2
          | [d], h2 => simp at h2
          | d :: f :: t, ⟨a1, ⟨_, a2⟩, _, a3⟩ =>
            have e1 : (c :: d :: f :: t).getD 1 0 = d := rfl
            have e2 : (c :: d :: f :: t).getD 2 0 = f := rfl
            rw [e1] at a2
            rw [e2] at a3
            rw [e1, e2]
            split
            · rename_i h4
              refine ⟨by show 1 ≤ 3; omega, by simp, fun hw => absurd (word_high attr _ (by omega) (by omega)) hw, fun _ => ?_⟩
              rw [esc_high attr c _ hc hne, esc_cont attr d _ a2, esc_cont attr f _ a3]
              rfl
            · exact step_bad attr c _ hc hne
        · have h2' : ¬ ((c.toNat / 16 = 14 ∧ 1 < (c :: t).length ∧ ((c :: t).getD 1 0).toNat / 64 = 2) ∧ 2 < (c :: t).length ∧ ((c :: t).getD 2 0).toNat / 64 = 2) := fun e => h2 ⟨e.1.1, e.1.2, e.2⟩
          rw [if_neg h2']
          split
          · rename_i h5
            match t, h5 with
            | [], h5 => simp at h5
            | [d], h5 => simp at h5
            | [d, f], h5 => simp at h5
            | d :: f :: p :: t, ⟨⟨⟨a1, _, a2⟩, _, a3⟩, _, a4⟩ =>
              have e1 : (c :: d :: f :: p :: t).getD 1 0 = d := rfl
              have e2 : (c :: d :: f :: p :: t).getD 2 0 = f := rfl
              have e3 : (c :: d :: f :: p :: t).getD 3 0 = p := rfl
              rw [e1] at a2
              rw [e2] at a3
              rw [e3] at a4
              rw [e1, e2, e3]
              split
              · refine ⟨by show 1 ≤ 4; omega, by simp, fun hw => absurd (word_high attr _ (by omega) (by omega)) hw, fun _ => ?_⟩
                rw [esc_high attr c _ hc hne, esc_cont attr d _ a2, esc_cont attr f _ a3, esc_cont attr p _ a4]
                rfl
              · exact step_bad attr c _ hc hne
          · exact step_bad attr c t hc hne
end Go.Proofs.Ytfcagiacjpcpeaa
