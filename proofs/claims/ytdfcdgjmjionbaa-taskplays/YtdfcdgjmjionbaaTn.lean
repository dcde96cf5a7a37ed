/-
  Post and Next of any queue, by what waits; two of its plain laws.
-/
import Derived.Test.YtdfcdgjmjionbaaTl
namespace Go.Proofs.Ytdfcdgjmjionbaa
open Go.RowKit Go.Lib

/-- A post: its error, and what waits then. -/
def postM (qs : List (List Tk)) (src : Int) (t : Tk) : Int × List (List Tk) :=
  if src < 0 ∨ 4 ≤ src then (1, qs) else if (qs.getD src.toNat []).length < 4096 then (0, qs.set src.toNat (qs.getD src.toNat [] ++ [t])) else (9, qs)
/-- The task that is picked, its source, and what waits then. -/
def nextM (qs : List (List Tk)) (pick : Int) : Option (Tk × Nat × List (List Tk)) :=
  match (readyQ qs)[(restM pick (readyQ qs).length).toNat]? with
  | some i => match qs.getD i [] with
    | t :: l => some (t, i, qs.set i l)
    | [] => none
  | none => none

theorem ready_mem {qs : List (List Tk)} {i : Nat} (h : i ∈ readyQ qs) : i < 4 ∧ 0 < (qs.getD i []).length := by
  unfold readyQ at h
  obtain ⟨h1, h2⟩ := List.mem_filter.1 h
  exact ⟨List.mem_range.1 h1, by simpa using h2⟩
theorem ready_len (qs : List (List Tk)) : (readyQ qs).length ≤ 4 := by
  unfold readyQ
  exact Nat.le_trans (List.length_filter_le _ _) (by simp)
theorem next_no {qs : List (List Tk)} (h : readyQ qs = []) (pick : Int) : nextM qs pick = none := by simp [nextM, h]
theorem next_yes {qs : List (List Tk)} (h : readyQ qs ≠ []) (pick : Int) : ∃ i t l, (readyQ qs)[(restM pick (readyQ qs).length).toNat]? = some i ∧ i < 4 ∧ qs.getD i [] = t :: l ∧ nextM qs pick = some (t, i, qs.set i l) := by
  have hn : 0 < (readyQ qs).length := List.length_pos_iff.2 h
  have hr := restM_lt pick hn
  obtain ⟨i, hi⟩ : ∃ i, (readyQ qs)[(restM pick (readyQ qs).length).toNat]? = some i := ⟨_, List.getElem?_eq_getElem (by omega)⟩
  obtain ⟨h4, hpos⟩ := ready_mem (List.mem_of_getElem? hi)
  cases hl : qs.getD i [] with
  | nil => rw [hl] at hpos; simp at hpos
  | cons t l => exact ⟨i, t, l, hi, h4, hl, by unfold nextM; rw [hi]; dsimp only; rw [hl]⟩
theorem getD_some {qs : List (List Tk)} {i : Nat} (h : i < qs.length) : qs[i]? = some (qs.getD i []) := by simp [h]

section
variable {w : World} {base bq : Nat} {qs : List (List Tk)} {F : Nat → Prop}
theorem QueS.first (h : QueS w base bq qs F) : ∃ c, w.cell? ⟨bq, 0, none⟩ = some (.chan (some c)) := by
  obtain ⟨_, _, _, _, c0, _, _, _, _, hq, _⟩ := h.open4
  exact ⟨c0, (cell_of_row _ _ 0 _ _ _ hq).trans (by rfl)⟩
theorem post_any {G : Nat → Prop} (h : QueS w base bq qs F) (hbase : base ≤ w.heap.size) (src : Int) (t : Tk) (x : TkV) (hx : TkIn w G t x) :
    Calls Try.prog 11 #[.pointer (some ⟨bq, 0, none⟩), .int .i64 src, x.val] w fun e w' => e = .returned (.int .i64 (postM qs src t).1) ∧ ∃ F', QueS w' base bq (postM qs src t).2 F' ∧ Mod F w w' ∧ (∀ k, F' k → F k ∨ w.heap.size ≤ k) := by
  by_cases hs : src < 0 ∨ 4 ≤ src
  · obtain ⟨c, hc⟩ := h.first
    refine (post_arg src hs x w hc).mono ?_
    rintro e w' ⟨rfl, hb⟩
    have e1 : postM qs src t = (1, qs) := by simp [postM, hs]
    rw [e1]
    exact ⟨rfl, F, h.below hb, Mod.of_below hb, fun k hk => .inl hk⟩
  · have hsi : src = ((src.toNat : Nat) : Int) := by omega
    have hlt : src.toNat < qs.length := by have := h.len; omega
    have hi := getD_some hlt
    by_cases hr : (qs.getD src.toNat []).length < 4096
    · have e1 : postM qs src t = (0, qs.set src.toNat (qs.getD src.toNat [] ++ [t])) := by unfold postM; rw [if_neg hs, if_pos hr]
      rw [e1]
      generalize hn : src.toNat = n at *
      subst hsi
      exact post_room h hbase n _ hi hr t x hx
    · have e1 : postM qs src t = (9, qs) := by unfold postM; rw [if_neg hs, if_neg hr]
      rw [e1]
      obtain ⟨cs, hcl, _, _, hls⟩ := h.lies
      have hmo := (hls src.toNat _ _ (List.getElem?_eq_getElem (by omega)) hi).most
      generalize hn : src.toNat = n at *
      subst hsi
      refine (post_full h n _ hi (by omega) t x hx).mono ?_
      rintro e w' ⟨rfl, hb⟩
      exact ⟨rfl, F, h.below hb, Mod.of_below hb, fun k hk => .inl hk⟩
/-- What Next answers. -/
def NextA (qs : List (List Tk)) (pick : Int) (w w' : World) (base bq : Nat) (F : Nat → Prop) (e : Ending) : Prop :=
  match nextM qs pick with
  | none => e = .returned (.tuple #[tkZ.val, .int .i64 0, .bool false]) ∧ QueS w' base bq qs F ∧ Mod F w w'
  | some (t, i, qs') => ∃ x : TkV, e = .returned (.tuple #[x.val, .int .i64 i, .bool true]) ∧ QueS w' base bq qs' F ∧ TkIn w' F t x ∧ Mod F w w'
theorem next_any (h : QueS w base bq qs F) (pick : Int) : Calls Try.prog 14 #[.pointer (some ⟨bq, 0, none⟩), .int .i64 pick] w fun e w' => NextA qs pick w w' base bq F e := by
  by_cases hr : readyQ qs = []
  · have HR : Hid (∀ W, Below w.heap.size w W → Calls Try.prog 20 #[.pointer (some ⟨bq, 0, none⟩)] W fun e w' => ∃ a c, e = .returned (.slice a 0 c) ∧ Below W.heap.size W w') := hide fun W hb => (ready_any (h.below hb)).mono (by
      rintro e w' ⟨a, c, rfl, hb, _⟩
      exact ⟨a, c, by rw [hr]; rfl, hb⟩)
    refine (next_none _ pick w HR).mono ?_
    rintro e w' ⟨rfl, hb⟩
    unfold NextA
    rw [next_no hr]
    exact ⟨rfl, h.below hb, Mod.of_below hb⟩
  · obtain ⟨i, t, l, hi, h4, hl, hn⟩ := next_yes hr pick
    have hq := getD_some (qs := qs) (i := i) (by have := h.len; omega)
    rw [hl] at hq
    refine (next_some h pick i t l (by unfold toI; rw [List.getElem?_map, hi]; rfl) hq).mono ?_
    rintro e w' ⟨x, rfl, h1, h2, h3⟩
    unfold NextA
    rw [hn]
    exact ⟨x, rfl, h1, h2, h3⟩
end
end Go.Proofs.Ytdfcdgjmjionbaa
