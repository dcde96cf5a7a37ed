/-
  Both queues hold the same: each call answers alike.
-/
import Derived.Test.YtdfcdgjmjionbaaUg
import Derived.Test.YtdfcdgjmjionbaaTn
namespace Go.Proofs.Ytdfcdgjmjionbaa
open Go.RowKit Go.Lib

def qsOf (ls : List (List Jb)) : List (List Tk) := ls.map fun l => l.map fun x => tkJob x.n
theorem qsOf_get (ls : List (List Jb)) (i : Nat) : (qsOf ls).getD i [] = (ls.getD i []).map fun x => tkJob x.n := by
  unfold qsOf
  simp only [List.getD, List.getElem?_map]
  cases ls[i]? <;> rfl
theorem qsOf_set (ls : List (List Jb)) (i : Nat) (l : List Jb) : (qsOf ls).set i (l.map fun x => tkJob x.n) = qsOf (ls.set i l) := by
  unfold qsOf
  rw [List.map_set]
theorem qsOf_len (ls : List (List Jb)) : lenQ (qsOf ls) = lenT ls := by
  unfold lenQ qsOf lenT
  rw [List.map_map]
  congr 1
  apply List.map_congr_left
  intro l _
  simp
theorem qsOf_ready (ls : List (List Jb)) : readyQ (qsOf ls) = readyT ls 4 := by
  unfold readyQ readyT
  congr 1
  funext i
  rw [qsOf_get]
  simp
theorem qsOf_post (ls : List (List Jb)) (src : Int) (x : Jb) : postM (qsOf ls) src (tkJob x.n) = ((postT ls src x).1, qsOf (postT ls src x).2) := by
  unfold postM postT
  by_cases hs : src < 0 ∨ 4 ≤ src
  · rw [if_pos hs, if_pos hs]
  · rw [if_neg hs, if_neg hs, qsOf_get, List.length_map]
    by_cases hl : (ls.getD src.toNat []).length < 4096
    · rw [if_pos hl, if_pos hl, ← qsOf_set, List.map_append]
      rfl
    · rw [if_neg hl, if_neg hl]
theorem rpost_any {w : World} {base rq : Nat} {ls : List (List Jb)} {F : Nat → Prop} (h : RefS w base rq ls F) (hbase : base ≤ w.heap.size) (src : Int) (x : Jb) (hx : JobAt w x.b x.n) (hxb : base ≤ x.b) :
    Calls Try.prog 13 #[.pointer (some ⟨rq, 0, none⟩), .int .i64 src, x.val] w fun e w' => e = .returned (.int .i64 (postT ls src x).1) ∧ ∃ F', RefS w' base rq (postT ls src x).2 F' ∧ Mod F w w' ∧ (∀ k, F' k → F k ∨ k = x.b ∨ w.heap.size ≤ k) := by
  by_cases hs : src < 0 ∨ 4 ≤ src
  · have e1 : postT ls src x = (1, ls) := by unfold postT; rw [if_pos hs]
    rw [e1]
    refine (rpost_arg rq src x hs w).mono ?_
    rintro e w' ⟨rfl, hb⟩
    exact ⟨rfl, F, h.below hb, Mod.of_below hb, fun k hk => .inl hk⟩
  · have hsi : src = ((src.toNat : Nat) : Int) := by omega
    have hlt : src.toNat < ls.length := by have := h.len; omega
    have hi : ls[src.toNat]? = some (ls.getD src.toNat []) := by simp [hlt]
    by_cases hr : (ls.getD src.toNat []).length < 4096
    · have e1 : postT ls src x = (0, ls.set src.toNat (ls.getD src.toNat [] ++ [x])) := by unfold postT; rw [if_neg hs, if_pos hr]
      rw [e1]
      generalize hn : src.toNat = n at *
      subst hsi
      exact rpost_room h hbase n _ hi hr x hx hxb
    · have e1 : postT ls src x = (9, ls) := by unfold postT; rw [if_neg hs, if_neg hr]
      rw [e1]
      generalize hn : src.toNat = n at *
      subst hsi
      refine (rpost_full h n _ hi (by omega) x).mono ?_
      rintro e w' ⟨rfl, hb⟩
      exact ⟨rfl, F, h.below hb, Mod.of_below hb, fun k hk => .inl hk⟩
/-- Nothing waits, or both tell the same job. -/
theorem next_both {ls : List (List Jb)} (hlen : ls.length = 4) (pick : Int) : (readyT ls 4 = [] ∧ nextM (qsOf ls) pick = none) ∨
    ∃ (i : Nat) (y : Jb) (l : List Jb), (toI (readyT ls 4))[(restM pick (readyT ls 4).length).toNat]? = some (i : Int) ∧ ls[i]? = some (y :: l) ∧ nextM (qsOf ls) pick = some (tkJob y.n, i, qsOf (ls.set i l)) := by
  by_cases hr : readyT ls 4 = []
  · exact .inl ⟨hr, next_no (by rw [qsOf_ready, hr]) pick⟩
  · right
    obtain ⟨i, t, l, h1, h4, h2, h3⟩ := next_yes (qs := qsOf ls) (by rw [qsOf_ready]; exact hr) pick
    rw [qsOf_ready] at h1
    rw [qsOf_get] at h2
    have hget : ls[i]? = some (ls.getD i []) := by simp [hlen, h4]
    cases hk : ls.getD i [] with
    | nil => rw [hk] at h2; simp at h2
    | cons y m =>
      rw [hk] at h2 hget
      simp at h2
      obtain ⟨rfl, rfl⟩ := h2
      exact ⟨i, y, m, by unfold toI; rw [List.getElem?_map, h1]; rfl, hget, by rw [h3, ← qsOf_set]⟩
theorem rready_none {w : World} {base rq : Nat} {ls : List (List Jb)} {F : Nat → Prop} (h : RefS w base rq ls F) (hr : readyT ls 4 = []) : Hid (∀ W, Below w.heap.size w W → Calls Try.prog 21 #[.pointer (some ⟨rq, 0, none⟩)] W fun e w' => ∃ a c, e = .returned (.slice a 0 c) ∧ Below W.heap.size W w') :=
  hide fun W hb => (rready_any (h.below hb)).mono (by
    rintro e w' ⟨a, c, rfl, hb, _⟩
    exact ⟨a, c, by rw [hr]; rfl, hb⟩)
end Go.Proofs.Ytdfcdgjmjionbaa
