/-
  TaskOrder, plain: the tasks of each source in order.
-/
import Derived.Test.YtdfcdgjmjionbaaTn
import Derived.Deep.LoopGhost
namespace Go.Proofs.Ytdfcdgjmjionbaa
open Go.RowKit Go.Lib

/-- Queues of numbered jobs. -/
def jobsQ (ks : List (List Nat)) : List (List Tk) := ks.map fun l => l.map fun (k : Nat) => tkJob k
def sumL (ks : List (List Nat)) : Nat := (ks.map List.length).sum
structure Inv (f : Nat → Nat) (last : List Int) (n r : Nat) (ks : List (List Nat)) : Prop where
  len : ks.length = 4
  ok : ∀ (s : Nat) l, ks[s]? = some l → l.Pairwise (· < ·) ∧ ∀ k ∈ l, k < n ∧ f k = s ∧ last.getD s 0 < (k : Int)
  total : sumL ks = r

theorem jobsQ_get (ks : List (List Nat)) (i : Nat) : (jobsQ ks).getD i [] = (ks.getD i []).map fun (k : Nat) => tkJob k := by
  unfold jobsQ
  simp only [List.getD, List.getElem?_map]
  cases ks[i]? <;> rfl
theorem jobsQ_set (ks : List (List Nat)) (i : Nat) (l : List Nat) : (jobsQ ks).set i (l.map fun (k : Nat) => tkJob k) = jobsQ (ks.set i l) := by
  unfold jobsQ
  rw [List.map_set]
theorem sum_set (ks : List (List Nat)) (i : Nat) (l m : List Nat) (h : ks[i]? = some m) : sumL (ks.set i l) + m.length = sumL ks + l.length := by
  induction ks generalizing i with
  | nil => simp at h
  | cons x ks ih =>
    cases i with
    | zero =>
      simp at h
      subst h
      simp [sumL]
      omega
    | succ i =>
      have := ih i (by simpa using h)
      simp [sumL] at this ⊢
      omega
theorem sum_le (ks : List (List Nat)) (i : Nat) (l : List Nat) (h : ks[i]? = some l) : l.length ≤ sumL ks := by
  have := sum_set ks i [] l h
  simp at this
  omega

theorem Inv.first (f : Nat → Nat) : Inv f [-1, -1, -1, -1] 0 0 [[], [], [], []] := by
  refine ⟨rfl, fun s l h => ?_, rfl⟩
  have hs : s < 4 := by have := (List.getElem?_eq_some_iff.1 h).1; simpa using this
  rcases (by omega : s = 0 ∨ s = 1 ∨ s = 2 ∨ s = 3) with rfl | rfl | rfl | rfl <;> simp at h <;> subst h <;> exact ⟨List.Pairwise.nil, fun k hk => by cases hk⟩
theorem last_getD (s : Nat) (h : s < 4) : ([-1, -1, -1, -1] : List Int).getD s 0 = -1 := by
  rcases (by omega : s = 0 ∨ s = 1 ∨ s = 2 ∨ s = 3) with rfl | rfl | rfl | rfl <;> rfl
/-- One more is posted. -/
theorem Inv.post {f : Nat → Nat} {k : Nat} {ks : List (List Nat)} (h : Inv f [-1, -1, -1, -1] k k ks) (hk : k < 2000) (hf : f k < 4) :
    postM (jobsQ ks) (f k) (tkJob k) = (0, jobsQ (ks.set (f k) (ks.getD (f k) [] ++ [k]))) ∧ Inv f [-1, -1, -1, -1] (k + 1) (k + 1) (ks.set (f k) (ks.getD (f k) [] ++ [k])) := by
  have hlt : f k < ks.length := by rw [h.len]; exact hf
  have hget : ks[f k]? = some (ks.getD (f k) []) := by simp [List.getD, List.getElem?_eq_getElem hlt]
  have hle := sum_le ks _ _ hget
  rw [h.total] at hle
  constructor
  · unfold postM
    rw [if_neg (by omega)]
    simp only [Int.toNat_natCast]
    rw [jobsQ_get, if_pos (by rw [List.length_map]; omega), ← jobsQ_set, List.map_append]
    rfl
  · refine ⟨by simp [h.len], fun s l hl => ?_, ?_⟩
    · by_cases e : f k = s
      · subst e
        rw [List.getElem?_set_self hlt] at hl
        cases hl
        obtain ⟨h1, h2⟩ := h.ok _ _ hget
        refine ⟨List.pairwise_append.2 ⟨h1, by simp, fun a ha b hb => by simp at hb; subst hb; exact (h2 a ha).1⟩, fun j hj => ?_⟩
        rcases List.mem_append.1 hj with hj | hj
        · obtain ⟨h3, h4, h5⟩ := h2 j hj
          exact ⟨by omega, h4, h5⟩
        · simp at hj
          subst hj
          rw [last_getD _ hf]
          exact ⟨by omega, rfl, by omega⟩
      · rw [List.getElem?_set_ne e] at hl
        obtain ⟨h1, h2⟩ := h.ok s l hl
        exact ⟨h1, fun j hj => ⟨by have := (h2 j hj).1; omega, (h2 j hj).2⟩⟩
    · have := sum_set ks (f k) (ks.getD (f k) [] ++ [k]) _ hget
      simp at this
      have ht := h.total
      simp
      omega
theorem lenQ_jobs (ks : List (List Nat)) : lenQ (jobsQ ks) = sumL ks := by
  unfold lenQ jobsQ sumL
  rw [List.map_map]
  congr 1
  apply List.map_congr_left
  intro l _
  simp
theorem ready_sum {qs : List (List Tk)} (hl : qs.length = 4) (h : 0 < lenQ qs) : readyQ qs ≠ [] := by
  intro e
  match qs, hl with
  | [a, b, c, d], _ =>
    have hn : ∀ n, n < 4 → (([a, b, c, d] : List (List Tk)).getD n []).length = 0 := by
      intro n hn
      rcases Nat.eq_zero_or_pos (([a, b, c, d] : List (List Tk)).getD n []).length with h | h
      · exact h
      · have : n ∈ readyQ [a, b, c, d] := List.mem_filter.2 ⟨List.mem_range.2 hn, by simpa using h⟩
        rw [e] at this
        cases this
    have h0 := hn 0 (by omega)
    have h1 := hn 1 (by omega)
    have h2 := hn 2 (by omega)
    have h3 := hn 3 (by omega)
    simp at h0 h1 h2 h3
    subst h0 h1 h2 h3
    simp [lenQ] at h
theorem le_sum {l : List Nat} {x : Nat} (h : x ∈ l) : x ≤ l.sum := by
  induction l with
  | nil => cases h
  | cons y l ih =>
    rcases List.mem_cons.1 h with rfl | h
    · simp
    · have := ih h
      simp
      omega
theorem ready_none {qs : List (List Tk)} (h : lenQ qs = 0) : readyQ qs = [] := by
  cases e : readyQ qs with
  | nil => rfl
  | cons i r =>
    exfalso
    obtain ⟨_, h2⟩ := ready_mem (qs := qs) (i := i) (by rw [e]; exact List.mem_cons_self)
    have hlt : i < qs.length := by
      rcases Nat.lt_or_ge i qs.length with h | h
      · exact h
      · simp [List.getD, List.getElem?_eq_none h] at h2
    have : (qs.getD i []).length ≤ lenQ qs := by
      unfold lenQ
      refine le_sum ?_
      refine List.mem_map.2 ⟨_, ?_, rfl⟩
      simp only [List.getD, List.getElem?_eq_getElem hlt, Option.getD_some]
      exact List.getElem_mem hlt
    omega
/-- The next one: it is the first of its source. -/
theorem Inv.next {f : Nat → Nat} {last : List Int} {n r : Nat} {ks : List (List Nat)} (h : Inv f last n (r + 1) ks) (hll : last.length = 4) (pick : Int) :
    ∃ (k i : Nat) (l : List Nat), nextM (jobsQ ks) pick = some (tkJob k, i, jobsQ (ks.set i l)) ∧ i < 4 ∧ k < n ∧ f k = i ∧ last.getD i 0 < (k : Int) ∧ Inv f (last.set i (k : Int)) n r (ks.set i l) := by
  have hlen : (jobsQ ks).length = 4 := by simp [jobsQ, h.len]
  have hr := ready_sum hlen (by rw [lenQ_jobs, h.total]; omega)
  obtain ⟨i, t, l, h1, h4, h2, h3⟩ := next_yes hr pick
  rw [jobsQ_get] at h2
  have hget : ks[i]? = some (ks.getD i []) := by simp [List.getD, h.len, h4]
  cases hk : ks.getD i [] with
  | nil => rw [hk] at h2; simp at h2
  | cons k m =>
    rw [hk] at h2 hget
    simp at h2
    obtain ⟨rfl, rfl⟩ := h2
    obtain ⟨hp, ho⟩ := h.ok i _ hget
    obtain ⟨ho1, ho2, ho3⟩ := ho k List.mem_cons_self
    refine ⟨k, i, m, ?_, h4, ho1, ho2, ho3, by simp [h.len], fun s l hl => ?_, ?_⟩
    · rw [h3, ← jobsQ_set]
    · by_cases e : i = s
      · subst e
        rw [List.getElem?_set_self (by rw [h.len]; exact h4)] at hl
        cases hl
        obtain ⟨hp1, hp2⟩ := List.pairwise_cons.1 hp
        refine ⟨hp2, fun j hj => ?_⟩
        obtain ⟨h5, h6, _⟩ := ho j (List.mem_cons_of_mem _ hj)
        refine ⟨h5, h6, ?_⟩
        have := hp1 j hj
        simp [List.getD, List.getElem?_set_self (show i < last.length by omega)]
        exact this
      · rw [List.getElem?_set_ne e] at hl
        obtain ⟨h5, h6⟩ := h.ok s l hl
        refine ⟨h5, fun j hj => ?_⟩
        obtain ⟨h7, h8, h9⟩ := h6 j hj
        exact ⟨h7, h8, by simpa [List.getD, List.getElem?_set_ne e] using h9⟩
    · have := sum_set ks i m _ hget
      have ht := h.total
      simp at this
      omega
end Go.Proofs.Ytdfcdgjmjionbaa
