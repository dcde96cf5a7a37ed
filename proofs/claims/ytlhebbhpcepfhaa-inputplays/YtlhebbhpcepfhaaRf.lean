/-
  The program's stream and the document's, plain: they stay the same.
-/
import Derived.Test.YtlhebbhpcepfhaaRe
namespace Go.Proofs.Ytlhebbhpcepfhaa
open Go.RowKit

def total (ps : List (List Int)) : Nat := (ps.map List.length).sum
def marksOf : List (List Int) → List Int
  | [] => []
  | [_] => []
  | _ :: q :: ps => (total (q :: ps) : Int) :: marksOf (q :: ps)

theorem total_append (a b : List (List Int)) : total (a ++ b) = total a + total b := by simp [total]
theorem total_flatten (ps : List (List Int)) : ps.reverse.flatten.length = total ps := by
  rw [List.length_flatten, List.map_reverse, List.sum_reverse]
  rfl
theorem marksOf_len (ps : List (List Int)) : (marksOf ps).length = ps.length - 1 := by
  induction ps with
  | nil => rfl
  | cons p ps ih =>
    cases ps with
    | nil => rfl
    | cons q ps => simp only [marksOf, List.length_cons] at ih ⊢; omega
theorem marksOf_head (p p' : List Int) (ps : List (List Int)) : marksOf (p :: ps) = marksOf (p' :: ps) := by cases ps <;> rfl
theorem marksOf_snoc (a : List Int) (A : List (List Int)) (x : List Int) : marksOf ((a :: A) ++ [x]) = ((marksOf (a :: A)).map fun y => y + (x.length : Int)) ++ [(x.length : Int)] := by
  induction A generalizing a with
  | nil => simp [marksOf, total]
  | cons b A ih =>
    have := ih b
    simp only [List.cons_append, marksOf, List.map_cons] at this ⊢
    rw [this]
    congr 1
    have e : total (b :: (A ++ [x])) = total (b :: A) + x.length := by
      have := total_append (b :: A) [x]
      simpa [total] using this
    rw [e]
    omega
theorem marksOf_bound (ps : List (List Int)) : ∀ y ∈ marksOf ps, 0 ≤ y ∧ y ≤ (total ps : Int) := by
  induction ps with
  | nil => intro y hy; simp [marksOf] at hy
  | cons p ps ih =>
    cases ps with
    | nil => intro y hy; simp [marksOf] at hy
    | cons q ps =>
      intro y hy
      simp only [marksOf, List.mem_cons] at hy
      have e : total (p :: q :: ps) = p.length + total (q :: ps) := by simp [total]
      rcases hy with rfl | hy
      · omega
      · have := ih y hy; omega

def refOf (m : StrM) : RefM := ⟨m.parts.reverse.flatten, marksOf m.parts, m.cr, m.ended, m.dropped⟩

theorem ref_len (m : StrM) : (refOf m).L.length = m.len := total_flatten m.parts
theorem ref_marks (m : StrM) : (refOf m).M.length = m.parts.length - 1 := marksOf_len m.parts
theorem ref_bound (m : StrM) : ∀ x ∈ (refOf m).M, 0 ≤ x ∧ x ≤ ((refOf m).L.length : Int) := by
  intro x hx
  have := marksOf_bound m.parts x hx
  rw [ref_len]
  exact this
theorem ref_new : refOf newM = newR := rfl

theorem snoc_cases (ps : List (List Int)) (h : 0 < ps.length) : (∃ x, ps = [x]) ∨ ∃ a A x, ps = (a :: A) ++ [x] := by
  rcases List.eq_nil_or_concat ps with e | ⟨A, x, e⟩
  · rw [e] at h; simp at h
  · cases A with
    | nil => exact .inl ⟨x, by rw [e]; rfl⟩
    | cons a A => exact .inr ⟨a, A, x, by rw [e]; simp⟩

theorem last_of (A : List (List Int)) (x : List Int) (c e d : Bool) : (StrM.mk (A ++ [x]) c e d).last = x := by
  unfold StrM.last
  simp
theorem set_of (A : List (List Int)) (x y : List Int) : (A ++ [x]).set ((A ++ [x]).length - 1) y = A ++ [y] := by
  rw [List.set_append_right _ _ (by simp)]
  simp

section
variable {ps : List (List Int)} {c e d : Bool}
theorem flat_snoc (A : List (List Int)) (x : List Int) : (A ++ [x]).reverse.flatten = x ++ A.reverse.flatten := by simp
theorem refOf_snoc (a : List Int) (A : List (List Int)) (x : List Int) : refOf ⟨(a :: A) ++ [x], c, e, d⟩ = ⟨x ++ (a :: A).reverse.flatten, ((marksOf (a :: A)).map fun y => y + (x.length : Int)) ++ [(x.length : Int)], c, e, d⟩ := by
  unfold refOf
  simp only [flat_snoc, marksOf_snoc]
theorem refOf_one (x : List Int) : refOf ⟨[x], c, e, d⟩ = ⟨x, [], c, e, d⟩ := by simp [refOf, marksOf]

theorem sim_end (m : StrM) : ({ refOf m with over := true } : RefM) = refOf (finM m) := rfl
theorem sim_drop (m : StrM) : dropR (refOf m) = refOf (dropM m) := by
  unfold dropR dropM
  cases h : m.dropped with
  | true => rw [if_pos (by show m.dropped = true; exact h), if_pos rfl]
  | false => rw [if_neg (by show ¬ m.dropped = true; simp [h]), if_neg (by simp)]; rfl
theorem sim_mark (m : StrM) (hp : 0 < m.parts.length) : markR (refOf m) = ((markM m).1, refOf (markM m).2) := by
  unfold markR markM
  have hl := ref_marks m
  by_cases h : m.parts.length ≤ 21
  · rw [if_pos (by omega), if_pos h]
    obtain ⟨ps, c, e, d⟩ := m
    simp only at hp ⊢
    obtain ⟨a, A, rfl⟩ : ∃ a A, ps = a :: A := by cases ps with
      | nil => simp at hp
      | cons a A => exact ⟨a, A, rfl⟩
    rw [refOf_snoc]
    simp [refOf]
  · rw [if_neg (by omega), if_neg h]
theorem sim_feed (m : StrM) (hp : 0 < m.parts.length) (l : List Int) : feedR (refOf m) l = ((feedM m l).1, refOf (feedM m l).2) := by
  have hl := ref_len m
  unfold feedR feedM
  rw [show (refOf m).over = m.ended from rfl]
  cases h : m.ended with
  | true => simp only [if_true]
  | false =>
    simp only [Bool.false_eq_true, if_false]
    by_cases hf : l.length + m.len ≤ 1048576
    · rw [if_pos (by omega), if_pos hf]
      obtain ⟨ps, c, e, d⟩ := m
      cases ps with
      | nil => simp at hp
      | cons p ps =>
        simp only [List.getElem?_cons_zero, Option.getD_some, List.set_cons_zero, refOf, marksOf_head p (p ++ (endsM c l).1) ps]
        simp
    · rw [if_neg (by omega), if_neg hf]
theorem sim_peek (m : StrM) (hp : 0 < m.parts.length) : peekR (refOf m) = peekM m := by
  obtain ⟨ps, c, e, d⟩ := m
  rcases snoc_cases ps hp with ⟨x, rfl⟩ | ⟨a, A, x, rfl⟩
  · rw [refOf_one]
    unfold peekR peekM
    rw [if_neg (by simp), show (StrM.mk [x] c e d).last = x from rfl]
    cases x <;> simp
  · rw [refOf_snoc]
    unfold peekR peekM
    rw [last_of]
    have hlen : ((List.map (fun y => y + (x.length : Int)) (marksOf (a :: A))) ++ [(x.length : Int)]).length ≠ 0 := by simp
    have hlast : lastR ⟨x ++ (a :: A).reverse.flatten, ((marksOf (a :: A)).map fun y => y + (x.length : Int)) ++ [(x.length : Int)], c, e, d⟩ = (x.length : Int) := by
      unfold lastR
      simp
    rw [hlast]
    cases x with
    | nil =>
      rw [if_pos ⟨hlen, rfl⟩]
      simp
    | cons y t =>
      rw [if_neg (by simp; omega)]
      rfl
theorem sim_next (m : StrM) (hp : 0 < m.parts.length) : nextR (refOf m) = refOf (nextM m) := by
  have hpk := sim_peek m hp
  unfold nextR
  rw [hpk]
  obtain ⟨ps, c, e, d⟩ := m
  rcases snoc_cases ps hp with ⟨x, rfl⟩ | ⟨a, A, x, rfl⟩
  · cases x with
    | nil => rw [refOf_one, if_neg (by simp), next_nil (by simp) rfl, refOf_one]
    | cons y t =>
      rw [refOf_one, if_pos ⟨rfl, by simp⟩]
      rw [show nextM ⟨[y :: t], c, e, d⟩ = ⟨[t], c, e, d⟩ from rfl, refOf_one]
      rfl
  · cases x with
    | nil =>
      have h1 : (peekM ⟨a :: A ++ [[]], c, e, d⟩).2 = false := by
        unfold peekM
        rw [last_of]
        simp
      rw [if_neg (by rw [h1]; simp), next_nil (by simp) (last_of _ _ _ _ _)]
    | cons y t =>
      have h1 : (peekM ⟨a :: A ++ [y :: t], c, e, d⟩).2 = true := by
        unfold peekM
        rw [last_of]
      have h2 : nextM ⟨a :: A ++ [y :: t], c, e, d⟩ = ⟨a :: A ++ [t], c, e, d⟩ := by
        unfold nextM
        rw [last_of]
        simp only [set_of]
        rfl
      rw [refOf_snoc, if_pos ⟨h1, by simp⟩, h2, refOf_snoc]
      simp only [List.cons_append, List.tail_cons, List.map_append, List.map_map, List.map_cons, List.map_nil]
      congr 1
      · congr 1
        · apply List.map_congr_left
          intro z _
          simp
          omega
        · simp
theorem sim_write (m : StrM) (hp : 0 < m.parts.length) (l : List Int) : writeR (refOf m) l = ((writeM m l).1, refOf (writeM m l).2) := by
  have hl := ref_len m
  have hk := ref_marks m
  unfold writeR writeM
  by_cases h1 : m.parts.length = 1
  · rw [if_pos (by omega), if_pos h1]
  · rw [if_neg (by omega), if_neg h1]
    by_cases hf : l.length + m.len ≤ 1048576
    · rw [if_pos (by omega), if_pos hf]
      obtain ⟨ps, c, e, d⟩ := m
      rcases snoc_cases ps hp with ⟨x, rfl⟩ | ⟨a, A, x, rfl⟩
      · exact absurd rfl h1
      · have hlast : lastR (refOf ⟨(a :: A) ++ [x], c, e, d⟩) = (x.length : Int) := by
          rw [refOf_snoc]
          unfold lastR
          simp
        rw [hlast, last_of]
        simp only [set_of]
        rw [refOf_snoc, refOf_snoc]
        simp only [Int.toNat_natCast, List.take_left, List.drop_left, List.map_append, List.map_map, List.map_cons, List.map_nil, List.length_append]
        congr 2
        congr 1
        · apply List.map_congr_left
          intro z _
          simp
          omega
    · rw [if_neg (by omega), if_neg hf]
theorem sim_unmark (m : StrM) (hp : 0 < m.parts.length) : unmarkR (refOf m) = ((unmarkM m).1, refOf (unmarkM m).2) := by
  have hk := ref_marks m
  unfold unmarkR unmarkM
  by_cases h1 : m.parts.length = 1
  · rw [if_pos (by omega), if_pos h1]
  · rw [if_neg (by omega), if_neg h1]
    obtain ⟨ps, c, e, d⟩ := m
    rcases snoc_cases ps hp with ⟨x, rfl⟩ | ⟨a, A, x, rfl⟩
    · exact absurd rfl h1
    · rw [last_of]
      have hM : (refOf ⟨(a :: A) ++ [x], c, e, d⟩).M.take ((refOf ⟨(a :: A) ++ [x], c, e, d⟩).M.length - 1) = (marksOf (a :: A)).map fun y => y + (x.length : Int) := by
        rw [refOf_snoc]
        simp
      rw [hM]
      rcases snoc_cases (a :: A) (by simp) with ⟨b, e1⟩ | ⟨b0, B, b, e1⟩
      · rw [e1]
        simp [refOf, marksOf]
      · rw [e1]
        have h2 : ((b0 :: B) ++ [b] ++ [x]).length - 2 = (b0 :: B).length := by simp
        have h3 : ((b0 :: B) ++ [b] ++ [x])[((b0 :: B) ++ [b] ++ [x]).length - 2]?.getD [] = b := by
          rw [h2, List.append_assoc, List.getElem?_append_right (Nat.le_refl _)]
          simp
        have h4 : (((b0 :: B) ++ [b] ++ [x]).set (((b0 :: B) ++ [b] ++ [x]).length - 2) (x ++ b)).take (((b0 :: B) ++ [b] ++ [x]).length - 1) = (b0 :: B) ++ [x ++ b] := by
          rw [h2, List.append_assoc, List.set_append_right _ _ (Nat.le_refl _)]
          simp
          rw [show B ++ [x ++ b, x] = (B ++ [x ++ b]) ++ [x] by simp, List.take_left' (by simp)]
        simp only [h3, h4]
        rw [refOf_snoc, marksOf_snoc]
        simp [refOf]
        exact ⟨fun z _ => by omega, by omega⟩
end
end Go.Proofs.Ytlhebbhpcepfhaa
