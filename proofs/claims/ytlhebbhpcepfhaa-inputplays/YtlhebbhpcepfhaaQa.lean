/-
  Several objects in memory, none part of another; what a call on one of them does to all.
-/
import Derived.Test.YtlhebbhpcepfhaaPo
namespace Go.Proofs.Ytlhebbhpcepfhaa
open Go.RowKit

/-- An object: what it is to hold it in the blocks F. -/
structure Ob (base : Nat) where
  holds : World → (Nat → Prop) → Prop
  lt : ∀ w F k, holds w F → F k → base ≤ k ∧ k < w.heap.size
  keep : ∀ w w' F G, holds w F → Mod G w w' → (∀ k, F k → ¬ G k) → holds w' F

def strOb (base bS : Nat) (m : StrM) : Ob base := ⟨fun w F => StrS w base bS m F, fun _ _ _ h hk => h.lt hk, fun _ _ _ _ h hm hG => h.mod hm hG⟩
def partOb (base : Nat) (q : PartM) : Ob base := ⟨fun w F => PartAt w base q ∧ ∀ k, F k ↔ q.own = some k, fun _ _ k h hk => by
    have := h.1.own_lt ((h.2 k).1 hk)
    exact ⟨this.1, this.2.1⟩, fun _ _ _ _ h hm hG => ⟨h.1.mod hm (fun k hk => hG k ((h.2 k).2 hk)), h.2⟩⟩

/-- The objects, made behind w, none part of another. -/
def Env (w wx : World) (obs : List (Ob w.heap.size)) : Prop :=
  Below w.heap.size w wx ∧ ∃ Fs : List (Nat → Prop), (∀ (i : Nat) o, obs[i]? = some o → ∃ F, Fs[i]? = some F ∧ o.holds wx F) ∧ ∀ (i j : Nat) F G, i ≠ j → Fs[i]? = some F → Fs[j]? = some G → ∀ k, F k → ¬ G k

section
variable {w wx w2 : World} {obs : List (Ob w.heap.size)}

theorem Env.bel (h : Env w wx obs) : Below w.heap.size w wx := h.1
theorem Env.start (w : World) : Env w w [] := ⟨Below.refl _ _, [], fun i o h => by simp at h, fun i j F G _ h => by simp at h⟩

theorem Env.more (h : Env w wx obs) (hb : Below wx.heap.size wx w2) : Env w w2 obs := by
  obtain ⟨h0, Fs, h1, h2⟩ := h
  refine ⟨h0.trans (hb.mono h0.size), Fs, fun i o hi => ?_, h2⟩
  obtain ⟨F, hF, ho⟩ := h1 i o hi
  exact ⟨F, hF, o.keep wx w2 F (fun _ => False) ho (Mod.of_below hb) (fun _ _ e => e)⟩

/-- One object is another; its blocks were written, or it has new ones. -/
theorem Env.upd (h : Env w wx obs) {i : Nat} {o : Ob w.heap.size} (hi : obs[i]? = some o) : ∃ F, o.holds wx F ∧ (∀ (j : Nat) o', j ≠ i → obs[j]? = some o' → ∃ G, o'.holds wx G ∧ ∀ k, G k → ¬ F k) ∧ ∀ w2 (o2 : Ob w.heap.size) F2, o2.holds w2 F2 → Mod F wx w2 → (∀ k, F2 k → F k ∨ wx.heap.size ≤ k) → Env w w2 (obs.set i o2) := by
  obtain ⟨h0, Fs, h1, h2⟩ := h
  obtain ⟨F, hF, ho⟩ := h1 i o hi
  refine ⟨F, ho, fun j o' hj hjo => ?_, fun w2 o2 F2 g1 g2 g3 => ?_⟩
  · obtain ⟨G, hG, hoG⟩ := h1 j o' hjo
    exact ⟨G, hoG, h2 j i G F hj hG hF⟩
  have hlt := (List.getElem?_eq_some_iff.1 hi).1
  have hltF := (List.getElem?_eq_some_iff.1 hF).1
  have old : ∀ (j : Nat) o', j ≠ i → obs[j]? = some o' → ∃ G, Fs[j]? = some G ∧ o'.holds w2 G ∧ ∀ k, G k → ¬ F2 k := by
    intro j o' hj hjo
    obtain ⟨G, hG, hoG⟩ := h1 j o' hjo
    refine ⟨G, hG, o'.keep wx w2 G F hoG g2 (h2 j i G F hj hG hF), fun k hk hk2 => ?_⟩
    rcases g3 k hk2 with h5 | h5
    · exact h2 j i G F hj hG hF k hk h5
    · have := (o'.lt wx G k hoG hk).2; omega
  refine ⟨h0.trans (g2.below h0.size (fun k hk => (o.lt wx F k ho hk).1)), (Fs.take obs.length).set i F2, fun j o' hj => ?_, fun j k G G' hjk hG hG' => ?_⟩
  · have hlj := (List.getElem?_eq_some_iff.1 hj).1
    rw [List.length_set] at hlj
    by_cases e : i = j
    · subst e
      rw [List.getElem?_set_self hlt] at hj
      cases hj
      exact ⟨F2, by rw [List.getElem?_set_self (by rw [List.length_take]; omega)], g1⟩
    · rw [List.getElem?_set_ne e] at hj
      obtain ⟨G, hG, hoG, _⟩ := old j o' (fun h => e h.symm) hj
      exact ⟨G, by rw [List.getElem?_set_ne e, List.getElem?_take, if_pos hlj]; exact hG, hoG⟩
  · have inn : ∀ (a : Nat) A, ((Fs.take obs.length).set i F2)[a]? = some A → (a = i ∧ A = F2) ∨ (a ≠ i ∧ Fs[a]? = some A ∧ a < obs.length) := by
      intro a A hA
      by_cases e : i = a
      · subst e
        rw [List.getElem?_set_self (by rw [List.length_take]; omega)] at hA
        cases hA
        exact .inl ⟨rfl, rfl⟩
      · rw [List.getElem?_set_ne e, List.getElem?_take] at hA
        split at hA
        · exact .inr ⟨fun h => e h.symm, hA, by assumption⟩
        · cases hA
    rcases inn j G hG with ⟨rfl, rfl⟩ | ⟨hj, hG1, hjl⟩
    · rcases inn k G' hG' with ⟨rfl, _⟩ | ⟨hk, hG2, hkl⟩
      · exact absurd rfl hjk
      · obtain ⟨G3, hG3, _, hd⟩ := old k _ hk (List.getElem?_eq_getElem hkl)
        rw [hG2] at hG3
        cases hG3
        intro x hx hx2
        exact hd x hx2 hx
    · rcases inn k G' hG' with ⟨rfl, rfl⟩ | ⟨hk, hG2, hkl⟩
      · obtain ⟨G3, hG3, _, hd⟩ := old j _ hj (List.getElem?_eq_getElem hjl)
        rw [hG1] at hG3
        cases hG3
        exact hd
      · exact h2 j k G G' hjk hG1 hG2

/-- A new object. -/
theorem Env.add (h : Env w wx obs) {o : Ob w.heap.size} {F : Nat → Prop} (hb : Below wx.heap.size wx w2) (ho : o.holds w2 F) (hF : ∀ k, F k → wx.heap.size ≤ k) : Env w w2 (obs ++ [o]) := by
  obtain ⟨h0, Fs, h1, h2⟩ := h
  have all : ∀ (i : Nat) o', obs[i]? = some o' → ∃ G, Fs[i]? = some G ∧ o'.holds w2 G ∧ ∀ k, G k → ¬ F k := by
    intro i o' hi
    obtain ⟨G, hG, hoG⟩ := h1 i o' hi
    exact ⟨G, hG, o'.keep wx w2 G (fun _ => False) hoG (Mod.of_below hb) (fun _ _ e => e), fun k hk hk2 => by
      have := (o'.lt wx G k hoG hk).2
      have := hF k hk2
      omega⟩
  have hlen : ∀ i, i < obs.length → i < Fs.length := by
    intro i hi
    obtain ⟨G, hG, _⟩ := all i _ (List.getElem?_eq_getElem hi)
    exact (List.getElem?_eq_some_iff.1 hG).1
  have hlF : (Fs.take obs.length).length = obs.length := by
    rw [List.length_take]
    rcases Nat.eq_zero_or_pos obs.length with e | e
    · omega
    · have := hlen (obs.length - 1) (by omega); omega
  refine ⟨h0.trans (hb.mono h0.size), Fs.take obs.length ++ [F], fun i o' hi => ?_, fun i j G G' hij hG hG' => ?_⟩
  · by_cases e : i < obs.length
    · rw [List.getElem?_append_left e] at hi
      obtain ⟨G, hG, hoG, _⟩ := all i o' hi
      exact ⟨G, by rw [List.getElem?_append_left (by omega), List.getElem?_take, if_pos e]; exact hG, hoG⟩
    · rw [List.getElem?_append_right (by omega)] at hi
      have := (List.getElem?_eq_some_iff.1 hi).1
      simp at this
      obtain rfl : i = obs.length := by omega
      simp at hi
      subst hi
      exact ⟨F, by rw [List.getElem?_append_right (by omega), hlF]; simp, ho⟩
  · have inn : ∀ (a : Nat) A, (Fs.take obs.length ++ [F])[a]? = some A → (a < obs.length ∧ Fs[a]? = some A) ∨ (a = obs.length ∧ A = F) := by
      intro a A hA
      by_cases e : a < obs.length
      · rw [List.getElem?_append_left (by omega), List.getElem?_take, if_pos e] at hA
        exact .inl ⟨e, hA⟩
      · rw [List.getElem?_append_right (by omega)] at hA
        have := (List.getElem?_eq_some_iff.1 hA).1
        simp at this
        obtain rfl : a = obs.length := by omega
        rw [hlF] at hA
        simp at hA
        exact .inr ⟨rfl, hA.symm⟩
    rcases inn i G hG with ⟨hi, hG1⟩ | ⟨rfl, rfl⟩
    · rcases inn j G' hG' with ⟨hj, hG2⟩ | ⟨rfl, rfl⟩
      · exact h2 i j G G' hij hG1 hG2
      · obtain ⟨G3, hG3, _, hd⟩ := all i _ (List.getElem?_eq_getElem hi)
        rw [hG1] at hG3
        cases hG3
        exact hd
    · rcases inn j G' hG' with ⟨hj, hG2⟩ | ⟨rfl, _⟩
      · obtain ⟨G3, hG3, _, hd⟩ := all j _ (List.getElem?_eq_getElem hj)
        rw [hG2] at hG3
        cases hG3
        intro x hx hx2
        exact hd x hx2 hx
      · exact absurd rfl hij

/-- Some of them, the first ones. -/
theorem Env.take (h : Env w wx obs) (n : Nat) : Env w wx (obs.take n) := by
  obtain ⟨h0, Fs, h1, h2⟩ := h
  refine ⟨h0, Fs, fun i o hi => h1 i o ?_, h2⟩
  rw [List.getElem?_take] at hi
  split at hi
  · exact hi
  · cases hi

/-- Two objects as one. -/
def pairOb {base : Nat} (a b : Ob base) : Ob base := ⟨fun w F => ∃ G H, a.holds w G ∧ b.holds w H ∧ (∀ k, G k → ¬ H k) ∧ ∀ k, F k ↔ G k ∨ H k, by
  rintro w F k ⟨G, H, h1, h2, _, h4⟩ hk
  rcases (h4 k).1 hk with h | h
  · exact a.lt w G k h1 h
  · exact b.lt w H k h2 h, by
  rintro w w' F K ⟨G, H, h1, h2, h3, h4⟩ hm hF
  exact ⟨G, H, a.keep w w' G K h1 hm (fun k hk => hF k ((h4 k).2 (.inl hk))), b.keep w w' H K h2 hm (fun k hk => hF k ((h4 k).2 (.inr hk))), h3, h4⟩⟩

theorem Env.split (h : Env w wx obs) {i : Nat} {a b : Ob w.heap.size} (hi : obs[i]? = some (pairOb a b)) : Env w wx (obs.set i a ++ [b]) := by
  obtain ⟨h0, Fs, h1, h2⟩ := h
  obtain ⟨F, hF, G, H, hG, hH, hGH, hFk⟩ := h1 i _ hi
  have hlt := (List.getElem?_eq_some_iff.1 hi).1
  have hltF := (List.getElem?_eq_some_iff.1 hF).1
  have hlen : ∀ j, j < obs.length → j < Fs.length := by
    intro j hj
    obtain ⟨G, hG, _⟩ := h1 j _ (List.getElem?_eq_getElem hj)
    exact (List.getElem?_eq_some_iff.1 hG).1
  have hlF : ((Fs.take obs.length).set i G).length = obs.length := by
    rw [List.length_set, List.length_take]
    have := hlen (obs.length - 1) (by omega); omega
  have hlo : (obs.set i a).length = obs.length := List.length_set
  refine ⟨h0, (Fs.take obs.length).set i G ++ [H], fun j o hj => ?_, fun j k A B hjk hA hB => ?_⟩
  · by_cases e : j < obs.length
    · rw [List.getElem?_append_left (by omega)] at hj
      rw [List.getElem?_append_left (by omega)]
      by_cases eij : i = j
      · subst eij
        rw [List.getElem?_set_self hlt] at hj
        cases hj
        exact ⟨G, by rw [List.getElem?_set_self (by rw [List.length_take]; omega)], hG⟩
      · rw [List.getElem?_set_ne eij] at hj
        obtain ⟨K, hK, hoK⟩ := h1 j o hj
        exact ⟨K, by rw [List.getElem?_set_ne eij, List.getElem?_take, if_pos e]; exact hK, hoK⟩
    · rw [List.getElem?_append_right (by omega)] at hj
      have := (List.getElem?_eq_some_iff.1 hj).1
      simp at this
      obtain rfl : j = obs.length := by omega
      rw [hlo] at hj
      simp at hj
      subst hj
      exact ⟨H, by rw [List.getElem?_append_right (by omega), hlF]; simp, hH⟩
  · have inn : ∀ (x : Nat) A, ((Fs.take obs.length).set i G ++ [H])[x]? = some A → (x = i ∧ A = G) ∨ (x = obs.length ∧ A = H) ∨ (x ≠ i ∧ x < obs.length ∧ Fs[x]? = some A) := by
      intro x A hA
      by_cases e : x < obs.length
      · rw [List.getElem?_append_left (by omega)] at hA
        by_cases eix : i = x
        · subst eix
          rw [List.getElem?_set_self (by rw [List.length_take]; omega)] at hA
          cases hA
          exact .inl ⟨rfl, rfl⟩
        · rw [List.getElem?_set_ne eix, List.getElem?_take, if_pos e] at hA
          exact .inr (.inr ⟨fun h => eix h.symm, e, hA⟩)
      · rw [List.getElem?_append_right (by omega)] at hA
        have := (List.getElem?_eq_some_iff.1 hA).1
        simp only [List.length_singleton] at this
        obtain rfl : x = obs.length := by omega
        rw [hlF] at hA
        simp at hA
        exact .inr (.inl ⟨rfl, hA.symm⟩)
    have dF : ∀ (x : Nat) A, x ≠ i → Fs[x]? = some A → ∀ y, A y → ¬ G y ∧ ¬ H y := by
      intro x A hx hA y hy
      have := h2 x i A F hx hA hF y hy
      exact ⟨fun h => this ((hFk y).2 (.inl h)), fun h => this ((hFk y).2 (.inr h))⟩
    rcases inn j A hA with ⟨rfl, rfl⟩ | ⟨rfl, rfl⟩ | ⟨hj, _, hA1⟩
    · rcases inn k B hB with ⟨rfl, _⟩ | ⟨rfl, rfl⟩ | ⟨hk, _, hB1⟩
      · exact absurd rfl hjk
      · exact hGH
      · exact fun y hy hy2 => (dF k B hk hB1 y hy2).1 hy
    · rcases inn k B hB with ⟨rfl, rfl⟩ | ⟨rfl, _⟩ | ⟨hk, _, hB1⟩
      · exact fun y hy hy2 => hGH y hy2 hy
      · exact absurd rfl hjk
      · exact fun y hy hy2 => (dF k B hk hB1 y hy2).2 hy
    · rcases inn k B hB with ⟨rfl, rfl⟩ | ⟨rfl, rfl⟩ | ⟨hk, _, hB1⟩
      · exact fun y hy => (dF j A hj hA1 y hy).1
      · exact fun y hy => (dF j A hj hA1 y hy).2
      · exact h2 j k A B hjk hA1 hB1

theorem Env.str (h : Env w wx obs) {i bS : Nat} {m : StrM} (hi : obs[i]? = some (strOb _ bS m)) : ∃ F, StrS wx w.heap.size bS m F ∧ (∀ (j : Nat) q, obs[j]? = some (partOb _ q) → j ≠ i → PartAt wx w.heap.size q ∧ ∀ k, q.own = some k → ¬ F k) ∧
    ∀ w2 m2, UpdS F wx w2 w.heap.size bS m2 → Env w w2 (obs.set i (strOb _ bS m2)) := by
  obtain ⟨F, ho, hd, hk⟩ := h.upd hi
  refine ⟨F, ho, fun j q hj hji => ?_, fun w2 m2 hu => ?_⟩
  · obtain ⟨G, hG, hGF⟩ := hd j _ hji hj
    exact ⟨hG.1, fun k hk' => hGF k ((hG.2 k).2 hk')⟩
  · obtain ⟨F', h1, h2, h3⟩ := hu
    exact hk w2 (strOb _ bS m2) F' h1 h2 h3
theorem Env.part (h : Env w wx obs) {i : Nat} {q : PartM} (hi : obs[i]? = some (partOb _ q)) : PartAt wx w.heap.size q := by
  obtain ⟨F, ho, _⟩ := h.upd hi
  exact ho.1

theorem env_new (h : Env w wx obs) : Calls Try.prog 9 #[] wx fun e w' => ∃ bS, e = .returned (.pointer (some ⟨bS, 0, none⟩)) ∧ Env w w' (obs ++ [strOb _ bS newM]) := by
  refine (new_s wx w.heap.size h.bel.size).mono ?_
  rintro e w' ⟨bS, F, rfl, h1, h2, h3⟩
  exact ⟨bS, rfl, h.add h2 (o := strOb _ bS newM) h1 h3⟩
theorem env_mark (h : Env w wx obs) {i bS : Nat} {m : StrM} (hi : obs[i]? = some (strOb _ bS m)) : Calls Try.prog 20 #[.pointer (some ⟨bS, 0, none⟩)] wx fun e w' => e = .returned (.int .i64 (markM m).1) ∧ Env w w' (obs.set i (strOb _ bS (markM m).2)) := by
  obtain ⟨F, h1, _, h3⟩ := h.str hi
  exact (mark_s h1).mono fun _ _ ⟨a, b⟩ => ⟨a, h3 _ _ b⟩
theorem env_unmark (h : Env w wx obs) {i bS : Nat} {m : StrM} (hi : obs[i]? = some (strOb _ bS m)) : Calls Try.prog 23 #[.pointer (some ⟨bS, 0, none⟩)] wx fun e w' => e = .returned (.int .i64 (unmarkM m).1) ∧ Env w w' (obs.set i (strOb _ bS (unmarkM m).2)) := by
  obtain ⟨F, h1, _, h3⟩ := h.str hi
  exact (unmark_s h1).mono fun _ _ ⟨a, b⟩ => ⟨a, h3 _ _ b⟩
theorem env_end (h : Env w wx obs) {i bS : Nat} {m : StrM} (hi : obs[i]? = some (strOb _ bS m)) : Calls Try.prog 17 #[.pointer (some ⟨bS, 0, none⟩)] wx fun e w' => e = .returned (.int .i64 (if m.ended then 5 else 0)) ∧ Env w w' (obs.set i (strOb _ bS (finM m))) := by
  obtain ⟨F, h1, _, h3⟩ := h.str hi
  exact (end_s h1).mono fun _ _ ⟨a, b⟩ => ⟨a, h3 _ _ b⟩
theorem env_next (h : Env w wx obs) {i bS : Nat} {m : StrM} (hi : obs[i]? = some (strOb _ bS m)) : Calls Try.prog 22 #[.pointer (some ⟨bS, 0, none⟩)] wx fun e w' => e = .returned (.tuple #[.int .i32 (peekM m).1, .bool (peekM m).2]) ∧ Env w w' (obs.set i (strOb _ bS (nextM m))) := by
  obtain ⟨F, h1, _, h3⟩ := h.str hi
  exact (next_s h1).mono fun _ _ ⟨a, b⟩ => ⟨a, h3 _ _ b⟩
theorem env_len (h : Env w wx obs) {i bS : Nat} {m : StrM} (hi : obs[i]? = some (strOb _ bS m)) : Calls Try.prog 12 #[.pointer (some ⟨bS, 0, none⟩)] wx fun e w' => e = .returned (.int .i64 (m.len : Int)) ∧ wx = w' := by
  obtain ⟨F, h1, _, h3⟩ := h.str hi
  exact len_s h1
theorem env_marks (h : Env w wx obs) {i bS : Nat} {m : StrM} (hi : obs[i]? = some (strOb _ bS m)) : Calls Try.prog 13 #[.pointer (some ⟨bS, 0, none⟩)] wx fun e w' => e = .returned (.int .i64 ((m.parts.length : Int) - 1)) ∧ wx = w' := by
  obtain ⟨F, h1, _, h3⟩ := h.str hi
  exact marks_s h1

/-- The block of a list that can be read. -/
theorem part_block {w : World} {base : Nat} {q : PartM} (h : PartAt w base q) (hx : q.xs ≠ []) {b off : Nat} (ha : q.a = some ⟨b, off, none⟩) : q.own = some b := by
  have hc : 0 < q.cap := Nat.lt_of_lt_of_le (List.length_pos_iff.2 hx) h.len
  unfold PartM.own
  rw [if_neg (by omega), ha]
  rfl

/-- Code points out of one of the lists are fed. -/
theorem env_feed (h : Env w wx obs) {i j bS : Nat} {m : StrM} {q : PartM} (hi : obs[i]? = some (strOb _ bS m)) (hj : obs[j]? = some (partOb _ q)) (hij : j ≠ i) (a : Option Addr) (l : List Int) (c : Nat) (hr : RunesIn wx a l) (hd : ∀ b off, l ≠ [] → a = some ⟨b, off, none⟩ → q.own = some b) :
    Calls Try.prog 16 #[.pointer (some ⟨bS, 0, none⟩), .slice a l.length c] wx fun e w' => e = .returned (.int .i64 (feedM m l).1) ∧ Env w w' (obs.set i (strOb _ bS (feedM m l).2)) := by
  obtain ⟨F, h1, h2, h3⟩ := h.str hi
  exact (feed_s h1 a l c hr (fun b off hl ha => (h2 j q hj hij).2 b (hd b off hl ha))).mono fun _ _ ⟨a, b⟩ => ⟨a, h3 _ _ b⟩
theorem env_feed_part (h : Env w wx obs) {i j bS : Nat} {m : StrM} {q : PartM} (hi : obs[i]? = some (strOb _ bS m)) (hj : obs[j]? = some (partOb _ q)) (hij : j ≠ i) :
    Calls Try.prog 16 #[.pointer (some ⟨bS, 0, none⟩), q.val] wx fun e w' => e = .returned (.int .i64 (feedM m q.xs).1) ∧ Env w w' (obs.set i (strOb _ bS (feedM m q.xs).2)) :=
  env_feed h hi hj hij q.a q.xs q.cap (h.part hj).runes (fun _ _ hl ha => part_block (h.part hj) hl ha)
theorem env_write_part (h : Env w wx obs) {i j bS : Nat} {m : StrM} {q : PartM} (hi : obs[i]? = some (strOb _ bS m)) (hj : obs[j]? = some (partOb _ q)) (hij : j ≠ i) :
    Calls Try.prog 21 #[.pointer (some ⟨bS, 0, none⟩), q.val] wx fun e w' => e = .returned (.int .i64 (writeM m q.xs).1) ∧ Env w w' (obs.set i (strOb _ bS (writeM m q.xs).2)) := by
  obtain ⟨F, h1, h2, h3⟩ := h.str hi
  exact (write_s h1 q.a q.xs q.cap (h.part hj).runes (fun b off hl ha => (h2 j q hj hij).2 b (part_block (h.part hj) hl ha))).mono fun _ _ ⟨a, b⟩ => ⟨a, h3 _ _ b⟩
/-- Code points in new memory are written. -/
theorem env_write_new (h : Env w wx obs) {i bS : Nat} {m : StrM} (hi : obs[i]? = some (strOb _ bS m)) (hb : Below wx.heap.size wx w2) (a : Option Addr) (l : List Int) (c : Nat) (hr : RunesIn w2 a l) (hn : ∀ b off, a = some ⟨b, off, none⟩ → wx.heap.size ≤ b) :
    Calls Try.prog 21 #[.pointer (some ⟨bS, 0, none⟩), .slice a l.length c] w2 fun e w' => e = .returned (.int .i64 (writeM m l).1) ∧ Env w w' (obs.set i (strOb _ bS (writeM m l).2)) := by
  obtain ⟨F, h1, _, h3⟩ := h.str hi
  refine (write_s (h1.below hb) a l c hr (fun b off _ ha hk => ?_)).mono fun _ _ ⟨a, b⟩ => ⟨a, h3 _ _ (b.after hb)⟩
  have := (h1.lt hk).2
  have := hn b off ha
  omega

/-- All code points of one of the streams, in a new list. -/
theorem env_all (h : Env w wx obs) {i bS : Nat} {m : StrM} (hi : obs[i]? = some (strOb _ bS m)) (hne : ∀ x ∈ m.last, x ≠ -1) (hl : m.last.length ≤ 1048576) :
    Calls Try.prog 18 #[.pointer (some ⟨bS, 0, none⟩)] wx fun e w' => ∃ q, e = .returned q.val ∧ q.xs = m.last ∧ Env w w' (obs.set i (strOb _ bS (drainM m)) ++ [partOb _ q]) := by
  have hB := h.bel
  obtain ⟨F, h1, _, h3⟩ := h.upd hi
  have h1' : StrS wx w.heap.size bS m F := h1
  refine (all_s h1' hne hl).mono ?_
  rintro e w' ⟨q, F', rfl, ht⟩
  refine ⟨q, rfl, ht.xs, ?_⟩
  have hE := h3 w' (pairOb (strOb _ bS (drainM m)) (partOb _ q)) (fun k => F' k ∨ q.own = some k) ⟨F', fun k => q.own = some k, ht.str, ⟨ht.part.lower hB.size, fun _ => Iff.rfl⟩, fun k hk hk2 => ht.apart k hk2 hk, fun _ => Iff.rfl⟩ ht.mod (fun k hk => hk.elim (ht.sub k) (fun h => .inr (ht.part.own_lt h).1))
  have hlt := (List.getElem?_eq_some_iff.1 hi).1
  have := hE.split (i := i) (List.getElem?_set_self hlt)
  rw [List.set_set] at this
  exact this

/-- A list behind one of the lists. -/
theorem Env.appended (h : Env w wx obs) {i : Nat} {q q' : PartM} (hi : obs[i]? = some (partOb _ q)) (h1 : PartAt w2 w.heap.size q') (h3 : wx.grownBy w2 q.own) (h4 : q'.own = q.own ∨ q'.own = some wx.heap.size) : Env w w2 (obs.set i (partOb _ q')) := by
  obtain ⟨F, ho, _, hk⟩ := h.upd hi
  refine hk w2 (partOb _ q') (fun k => q'.own = some k) ⟨h1, fun _ => Iff.rfl⟩ (Mod.grown h3 (fun k hk' => (ho.2 k).2 hk')) (fun k hk' => ?_)
  rcases h4 with e | e
  · exact .inl ((ho.2 k).2 (e ▸ hk'))
  · rw [e] at hk'; cases hk'; exact .inr (Nat.le_refl _)
/-- A new list. -/
theorem Env.list (h : Env w wx obs) {q : PartM} (hb : Below wx.heap.size wx w2) (hq : PartAt w2 wx.heap.size q) : Env w w2 (obs ++ [partOb _ q]) :=
  h.add hb (o := partOb _ q) (F := fun k => q.own = some k) ⟨hq.lower h.bel.size, fun _ => Iff.rfl⟩ (fun _ hk => (hq.own_lt hk).1)
theorem Env.nil (h : Env w wx obs) : Env w wx (obs ++ [partOb _ ⟨none, 0, []⟩]) := h.list (Below.refl _ _) (PartAt.nil _ _ _)
end
end Go.Proofs.Ytlhebbhpcepfhaa
