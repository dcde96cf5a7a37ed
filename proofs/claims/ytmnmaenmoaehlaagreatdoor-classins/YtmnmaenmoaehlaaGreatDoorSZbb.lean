/-
  The rules of each role. families: a closure over an arena and a node. The document's text of a node: an attribute's name.
-/
import Derived.Test.YtmnmaenmoaehlaaGreatDoorSZba
import Derived.Laws.Rows
import Derived.Test.YtmnmaenmoaehlaaGreatDoorSZas
import Derived.Test.YtmnmaenmoaehlaaGreatDoorSZaf
import Derived.Test.YtmnmaenmoaehlaaGreatDoorSZak
namespace Go.Proofs.YtmnmaenmoaehlaaGreatDoor
open Go.RowKit Go.Lib

theorem st_func {W : World} {B j : Nat} {cs : Array Value} (f : Fn) (x y : Array Value) (h : W.heap[B]? = some (.cells cs 66)) (hj : j < cs.size) : (store ⟨B, j, none⟩ (.func f x y)).run Tryz.prog W = .ok () (W.setCell ⟨B, j, none⟩ (.func f x y)) := by
  have hc : W.cell? ⟨B, j, none⟩ = some (cs[j]'hj) := by rw [cell_row _ _ _ _ _ _ h]; exact Array.getElem?_eq_getElem hj
  have hf : W.frozen? ⟨B, j, none⟩ = false := by unfold World.frozen?; simp only [h]; simp
  rw [run_store Tryz.prog W ⟨B, j, none⟩ (.func f x y) .plain rfl]
  simp [hc, hf]

def kindsW (w : World) : World := ((((((((((((((w.alloc (.cells #[.nilFunc, .nilFunc, .nilFunc, .nilFunc, .nilFunc, .nilFunc, .nilFunc, .nilFunc, .nilFunc, .nilFunc, .nilFunc, .nilFunc, .nilFunc, .nilFunc, .nilFunc, .nilFunc, .nilFunc, .nilFunc, .nilFunc, .nilFunc, .nilFunc, .nilFunc] 66)).alloc (.cells #[.int .i64 9, .int .i64 10, .int .i64 8] 74)).alloc (.cells #[.slice (some ⟨w.heap.size + 1, 0, none⟩) 3 3] 76)).alloc (.cells #[.int .i64 9, .int .i64 10, .int .i64 8, .int .i64 6, .int .i64 7] 74)).alloc (.cells #[.slice (some ⟨w.heap.size + 1 + 1 + 1, 0, none⟩) 5 5] 76)).alloc (.cells #[.slice none 0 0] 76)).alloc (.cells #[.int .i64 2] 74)).alloc (.cells #[.slice (some ⟨w.heap.size + 1 + 1 + 1 + 1 + 1 + 1, 0, none⟩) 1 1] 76)).alloc (.cells #[.int .i64 3, .int .i64 5] 74)).alloc (.cells #[.slice (some ⟨w.heap.size + 1 + 1 + 1 + 1 + 1 + 1 + 1 + 1, 0, none⟩) 2 2] 76)).alloc (.cells #[.int .i64 4] 74)).alloc (.cells #[.int .i64 9] 74)).alloc (.cells #[.slice none 0 0] 76)).alloc (.cells #[.slice none 0 0] 76))
def kindObjs (w : World) : List Obj := [.cells #[.nilFunc, .nilFunc, .nilFunc, .nilFunc, .nilFunc, .nilFunc, .nilFunc, .nilFunc, .nilFunc, .nilFunc, .nilFunc, .nilFunc, .nilFunc, .nilFunc, .nilFunc, .nilFunc, .nilFunc, .nilFunc, .nilFunc, .nilFunc, .nilFunc, .nilFunc] 66, .cells #[.int .i64 9, .int .i64 10, .int .i64 8] 74, .cells #[.slice (some ⟨w.heap.size + 1, 0, none⟩) 3 3] 76, .cells #[.int .i64 9, .int .i64 10, .int .i64 8, .int .i64 6, .int .i64 7] 74, .cells #[.slice (some ⟨w.heap.size + 1 + 1 + 1, 0, none⟩) 5 5] 76, .cells #[.slice none 0 0] 76, .cells #[.int .i64 2] 74, .cells #[.slice (some ⟨w.heap.size + 1 + 1 + 1 + 1 + 1 + 1, 0, none⟩) 1 1] 76, .cells #[.int .i64 3, .int .i64 5] 74, .cells #[.slice (some ⟨w.heap.size + 1 + 1 + 1 + 1 + 1 + 1 + 1 + 1, 0, none⟩) 2 2] 76, .cells #[.int .i64 4] 74, .cells #[.int .i64 9] 74, .cells #[.slice none 0 0] 76, .cells #[.slice none 0 0] 76]
theorem alloc_get {w : World} {base : Nat} {l : List Obj} (hs : w.heap.size = base + l.length) (hl : ∀ (i : Nat) o, l[i]? = some o → w.heap[base + i]? = some o) (o : Obj) : (w.alloc o).heap.size = base + (l ++ [o]).length ∧ ∀ (i : Nat) p, (l ++ [o])[i]? = some p → (w.alloc o).heap[base + i]? = some p := by
  refine ⟨by simp [hs]; omega, fun i p hp => ?_⟩
  by_cases h : i < l.length
  · rw [List.getElem?_append_left h] at hp
    rw [Below.heap_alloc _ _ _ (by omega)]
    exact hl i p hp
  · have hi : i = l.length := by
      have := (List.getElem?_eq_some_iff.1 hp).1
      simp at this
      omega
    subst hi
    rw [← hs]
    rw [World.alloc_heap_new]
    simpa using hp
theorem kindsW_get (w : World) : (kindsW w).heap.size = w.heap.size + 14 ∧ (∀ (i : Nat) p, (kindObjs w)[i]? = some p → (kindsW w).heap[w.heap.size + i]? = some p) ∧ Below w.heap.size w (kindsW w) := by
  have h0 : w.heap.size = w.heap.size + ([] : List Obj).length ∧ ∀ (i : Nat) o, ([] : List Obj)[i]? = some o → w.heap[w.heap.size + i]? = some o := ⟨rfl, fun i o h => by cases h⟩
  have h1 := alloc_get h0.1 h0.2 (.cells #[.nilFunc, .nilFunc, .nilFunc, .nilFunc, .nilFunc, .nilFunc, .nilFunc, .nilFunc, .nilFunc, .nilFunc, .nilFunc, .nilFunc, .nilFunc, .nilFunc, .nilFunc, .nilFunc, .nilFunc, .nilFunc, .nilFunc, .nilFunc, .nilFunc, .nilFunc] 66)
  have h2 := alloc_get h1.1 h1.2 (.cells #[.int .i64 9, .int .i64 10, .int .i64 8] 74)
  have h3 := alloc_get h2.1 h2.2 (.cells #[.slice (some ⟨w.heap.size + 1, 0, none⟩) 3 3] 76)
  have h4 := alloc_get h3.1 h3.2 (.cells #[.int .i64 9, .int .i64 10, .int .i64 8, .int .i64 6, .int .i64 7] 74)
  have h5 := alloc_get h4.1 h4.2 (.cells #[.slice (some ⟨w.heap.size + 1 + 1 + 1, 0, none⟩) 5 5] 76)
  have h6 := alloc_get h5.1 h5.2 (.cells #[.slice none 0 0] 76)
  have h7 := alloc_get h6.1 h6.2 (.cells #[.int .i64 2] 74)
  have h8 := alloc_get h7.1 h7.2 (.cells #[.slice (some ⟨w.heap.size + 1 + 1 + 1 + 1 + 1 + 1, 0, none⟩) 1 1] 76)
  have h9 := alloc_get h8.1 h8.2 (.cells #[.int .i64 3, .int .i64 5] 74)
  have h10 := alloc_get h9.1 h9.2 (.cells #[.slice (some ⟨w.heap.size + 1 + 1 + 1 + 1 + 1 + 1 + 1 + 1, 0, none⟩) 2 2] 76)
  have h11 := alloc_get h10.1 h10.2 (.cells #[.int .i64 4] 74)
  have h12 := alloc_get h11.1 h11.2 (.cells #[.int .i64 9] 74)
  have h13 := alloc_get h12.1 h12.2 (.cells #[.slice none 0 0] 76)
  have h14 := alloc_get h13.1 h13.2 (.cells #[.slice none 0 0] 76)
  refine ⟨h14.1, h14.2, ?_⟩
  unfold kindsW
  exact (((((((((((((((Below.refl _ _).alloc (by simp; try omega) _).alloc (by simp; try omega) _).alloc (by simp; try omega) _).alloc (by simp; try omega) _).alloc (by simp; try omega) _).alloc (by simp; try omega) _).alloc (by simp; try omega) _).alloc (by simp; try omega) _).alloc (by simp; try omega) _).alloc (by simp; try omega) _).alloc (by simp; try omega) _).alloc (by simp; try omega) _).alloc (by simp; try omega) _).alloc (by simp; try omega) _)
def kindsV (w : World) : Value := .agg #[.func (.func 51) #[] #[], .func (.func 77) #[] #[.pointer (some ⟨w.heap.size + 1 + 1 + 1 + 1 + 1, 0, none⟩)], .func (.func 53) #[] #[], .func (.func 77) #[] #[.pointer (some ⟨w.heap.size + 1 + 1 + 1 + 1 + 1 + 1 + 1, 0, none⟩)], .func (.func 53) #[] #[], .func (.func 77) #[] #[.pointer (some ⟨w.heap.size + 1 + 1 + 1 + 1 + 1 + 1 + 1 + 1 + 1, 0, none⟩)], .func (.func 53) #[] #[], .func (.func 79) #[] #[.pointer (some ⟨w.heap.size + 1 + 1 + 1 + 1 + 1 + 1 + 1 + 1 + 1 + 1, 0, none⟩)], .func (.func 53) #[] #[], .func (.func 79) #[] #[.pointer (some ⟨w.heap.size + 1 + 1 + 1 + 1 + 1 + 1 + 1 + 1 + 1 + 1 + 1, 0, none⟩)], .func (.func 55) #[] #[], .func (.func 75) #[] #[.pointer (some ⟨w.heap.size + 1 + 1 + 1 + 1, 0, none⟩)], .func (.func 55) #[] #[], .func (.func 75) #[] #[.pointer (some ⟨w.heap.size + 1 + 1 + 1 + 1, 0, none⟩)], .func (.func 55) #[] #[], .func (.func 75) #[] #[.pointer (some ⟨w.heap.size + 1 + 1, 0, none⟩)], .func (.func 55) #[] #[], .func (.func 75) #[] #[.pointer (some ⟨w.heap.size + 1 + 1, 0, none⟩)], .func (.func 56) #[] #[], .func (.func 77) #[] #[.pointer (some ⟨w.heap.size + 1 + 1 + 1 + 1 + 1 + 1 + 1 + 1 + 1 + 1 + 1 + 1, 0, none⟩)], .func (.func 57) #[] #[], .func (.func 77) #[] #[.pointer (some ⟨w.heap.size + 1 + 1 + 1 + 1 + 1 + 1 + 1 + 1 + 1 + 1 + 1 + 1 + 1, 0, none⟩)]]

set_option maxHeartbeats 8000000 in
set_option maxRecDepth 100000 in
theorem kinds_any (w : World) : Calls Tryz.prog 23 #[] w fun e w' => e = .returned (kindsV w) ∧ Mod (fun k => k = w.heap.size) (kindsW w) w' ∧ Below w.heap.size w w' := by
  obtain ⟨hsz, hobj, hbl⟩ := kindsW_get w
  have q0 : (kindsW w).heap[w.heap.size]? = some (.cells #[.nilFunc, .nilFunc, .nilFunc, .nilFunc, .nilFunc, .nilFunc, .nilFunc, .nilFunc, .nilFunc, .nilFunc, .nilFunc, .nilFunc, .nilFunc, .nilFunc, .nilFunc, .nilFunc, .nilFunc, .nilFunc, .nilFunc, .nilFunc, .nilFunc, .nilFunc] 66) := hobj 0 _ rfl
  have HM0 : Hid (Mod (fun k => k = w.heap.size) (kindsW w) (kindsW w)) := hide (Mod.refl _ _)
  have HS := hide hsz
  have HO := hide hobj
  have HBL := hide hbl
  clear hsz hobj hbl
  unfold kindsW at q0 HM0 HS HO HBL
  go_enter Tryz.func23, Tryz.ntmps23
  go_wp2_with (first
    | (go_at_call 50; refine (each_any _ _ ⟨_, _, _, rfl⟩).mono ?_; rintro e w' ⟨rfl, hw⟩; rw [hw]; clear hw)
    | (go_at_call 52; refine (just_any _ _ ⟨_, _, _, rfl⟩).mono ?_; rintro e w' ⟨rfl, hw⟩; rw [hw]; clear hw)
    | (go_at_call 54; refine (atMost_any _ _).mono ?_; rintro e w' ⟨rfl, hw⟩; rw [hw]; clear hw))
  generalize hW0 : ((((((((((((((w.alloc (.cells #[.nilFunc, .nilFunc, .nilFunc, .nilFunc, .nilFunc, .nilFunc, .nilFunc, .nilFunc, .nilFunc, .nilFunc, .nilFunc, .nilFunc, .nilFunc, .nilFunc, .nilFunc, .nilFunc, .nilFunc, .nilFunc, .nilFunc, .nilFunc, .nilFunc, .nilFunc] 66)).alloc (.cells #[.int .i64 9, .int .i64 10, .int .i64 8] 74)).alloc (.cells #[.slice (some ⟨w.heap.size + 1, 0, none⟩) 3 3] 76)).alloc (.cells #[.int .i64 9, .int .i64 10, .int .i64 8, .int .i64 6, .int .i64 7] 74)).alloc (.cells #[.slice (some ⟨w.heap.size + 1 + 1 + 1, 0, none⟩) 5 5] 76)).alloc (.cells #[.slice none 0 0] 76)).alloc (.cells #[.int .i64 2] 74)).alloc (.cells #[.slice (some ⟨w.heap.size + 1 + 1 + 1 + 1 + 1 + 1, 0, none⟩) 1 1] 76)).alloc (.cells #[.int .i64 3, .int .i64 5] 74)).alloc (.cells #[.slice (some ⟨w.heap.size + 1 + 1 + 1 + 1 + 1 + 1 + 1 + 1, 0, none⟩) 2 2] 76)).alloc (.cells #[.int .i64 4] 74)).alloc (.cells #[.int .i64 9] 74)).alloc (.cells #[.slice none 0 0] 76)).alloc (.cells #[.slice none 0 0] 76)) = W0 at *
  rw [st_func (j := 0) _ _ _ q0 (by simp)]
  try rw [Result.andThen_ok]
  try dsimp only
  have q1 := heap_setCell_same _ _ 0 _ _ (.func (.func 51) #[] #[]) q0
  have HM1 := hide ((unhide HM0).trans (Mod.setCell _ ⟨w.heap.size, 0, none⟩ (.func (.func 51) #[] #[]) rfl))
  clear q0 HM0
  generalize World.setCell _ ⟨w.heap.size, 0, none⟩ (.func (.func 51) #[] #[]) = W1 at q1 HM1 ⊢
  rw [st_func (j := 1) _ _ _ q1 (by simp)]
  try rw [Result.andThen_ok]
  try dsimp only
  have q2 := heap_setCell_same _ _ 1 _ _ (.func (.func 77) #[] #[.pointer (some ⟨w.heap.size + 1 + 1 + 1 + 1 + 1, 0, none⟩)]) q1
  have HM2 := hide ((unhide HM1).trans (Mod.setCell _ ⟨w.heap.size, 1, none⟩ (.func (.func 77) #[] #[.pointer (some ⟨w.heap.size + 1 + 1 + 1 + 1 + 1, 0, none⟩)]) rfl))
  clear q1 HM1
  generalize World.setCell _ ⟨w.heap.size, 1, none⟩ (.func (.func 77) #[] #[.pointer (some ⟨w.heap.size + 1 + 1 + 1 + 1 + 1, 0, none⟩)]) = W2 at q2 HM2 ⊢
  rw [st_func (j := 2) _ _ _ q2 (by simp)]
  try rw [Result.andThen_ok]
  try dsimp only
  have q3 := heap_setCell_same _ _ 2 _ _ (.func (.func 53) #[] #[]) q2
  have HM3 := hide ((unhide HM2).trans (Mod.setCell _ ⟨w.heap.size, 2, none⟩ (.func (.func 53) #[] #[]) rfl))
  clear q2 HM2
  generalize World.setCell _ ⟨w.heap.size, 2, none⟩ (.func (.func 53) #[] #[]) = W3 at q3 HM3 ⊢
  rw [st_func (j := 3) _ _ _ q3 (by simp)]
  try rw [Result.andThen_ok]
  try dsimp only
  have q4 := heap_setCell_same _ _ 3 _ _ (.func (.func 77) #[] #[.pointer (some ⟨w.heap.size + 1 + 1 + 1 + 1 + 1 + 1 + 1, 0, none⟩)]) q3
  have HM4 := hide ((unhide HM3).trans (Mod.setCell _ ⟨w.heap.size, 3, none⟩ (.func (.func 77) #[] #[.pointer (some ⟨w.heap.size + 1 + 1 + 1 + 1 + 1 + 1 + 1, 0, none⟩)]) rfl))
  clear q3 HM3
  generalize World.setCell _ ⟨w.heap.size, 3, none⟩ (.func (.func 77) #[] #[.pointer (some ⟨w.heap.size + 1 + 1 + 1 + 1 + 1 + 1 + 1, 0, none⟩)]) = W4 at q4 HM4 ⊢
  rw [st_func (j := 4) _ _ _ q4 (by simp)]
  try rw [Result.andThen_ok]
  try dsimp only
  have q5 := heap_setCell_same _ _ 4 _ _ (.func (.func 53) #[] #[]) q4
  have HM5 := hide ((unhide HM4).trans (Mod.setCell _ ⟨w.heap.size, 4, none⟩ (.func (.func 53) #[] #[]) rfl))
  clear q4 HM4
  generalize World.setCell _ ⟨w.heap.size, 4, none⟩ (.func (.func 53) #[] #[]) = W5 at q5 HM5 ⊢
  rw [st_func (j := 5) _ _ _ q5 (by simp)]
  try rw [Result.andThen_ok]
  try dsimp only
  have q6 := heap_setCell_same _ _ 5 _ _ (.func (.func 77) #[] #[.pointer (some ⟨w.heap.size + 1 + 1 + 1 + 1 + 1 + 1 + 1 + 1 + 1, 0, none⟩)]) q5
  have HM6 := hide ((unhide HM5).trans (Mod.setCell _ ⟨w.heap.size, 5, none⟩ (.func (.func 77) #[] #[.pointer (some ⟨w.heap.size + 1 + 1 + 1 + 1 + 1 + 1 + 1 + 1 + 1, 0, none⟩)]) rfl))
  clear q5 HM5
  generalize World.setCell _ ⟨w.heap.size, 5, none⟩ (.func (.func 77) #[] #[.pointer (some ⟨w.heap.size + 1 + 1 + 1 + 1 + 1 + 1 + 1 + 1 + 1, 0, none⟩)]) = W6 at q6 HM6 ⊢
  rw [st_func (j := 6) _ _ _ q6 (by simp)]
  try rw [Result.andThen_ok]
  try dsimp only
  have q7 := heap_setCell_same _ _ 6 _ _ (.func (.func 53) #[] #[]) q6
  have HM7 := hide ((unhide HM6).trans (Mod.setCell _ ⟨w.heap.size, 6, none⟩ (.func (.func 53) #[] #[]) rfl))
  clear q6 HM6
  generalize World.setCell _ ⟨w.heap.size, 6, none⟩ (.func (.func 53) #[] #[]) = W7 at q7 HM7 ⊢
  rw [st_func (j := 7) _ _ _ q7 (by simp)]
  try rw [Result.andThen_ok]
  try dsimp only
  have q8 := heap_setCell_same _ _ 7 _ _ (.func (.func 79) #[] #[.pointer (some ⟨w.heap.size + 1 + 1 + 1 + 1 + 1 + 1 + 1 + 1 + 1 + 1, 0, none⟩)]) q7
  have HM8 := hide ((unhide HM7).trans (Mod.setCell _ ⟨w.heap.size, 7, none⟩ (.func (.func 79) #[] #[.pointer (some ⟨w.heap.size + 1 + 1 + 1 + 1 + 1 + 1 + 1 + 1 + 1 + 1, 0, none⟩)]) rfl))
  clear q7 HM7
  generalize World.setCell _ ⟨w.heap.size, 7, none⟩ (.func (.func 79) #[] #[.pointer (some ⟨w.heap.size + 1 + 1 + 1 + 1 + 1 + 1 + 1 + 1 + 1 + 1, 0, none⟩)]) = W8 at q8 HM8 ⊢
  rw [st_func (j := 8) _ _ _ q8 (by simp)]
  try rw [Result.andThen_ok]
  try dsimp only
  have q9 := heap_setCell_same _ _ 8 _ _ (.func (.func 53) #[] #[]) q8
  have HM9 := hide ((unhide HM8).trans (Mod.setCell _ ⟨w.heap.size, 8, none⟩ (.func (.func 53) #[] #[]) rfl))
  clear q8 HM8
  generalize World.setCell _ ⟨w.heap.size, 8, none⟩ (.func (.func 53) #[] #[]) = W9 at q9 HM9 ⊢
  rw [st_func (j := 9) _ _ _ q9 (by simp)]
  try rw [Result.andThen_ok]
  try dsimp only
  have q10 := heap_setCell_same _ _ 9 _ _ (.func (.func 79) #[] #[.pointer (some ⟨w.heap.size + 1 + 1 + 1 + 1 + 1 + 1 + 1 + 1 + 1 + 1 + 1, 0, none⟩)]) q9
  have HM10 := hide ((unhide HM9).trans (Mod.setCell _ ⟨w.heap.size, 9, none⟩ (.func (.func 79) #[] #[.pointer (some ⟨w.heap.size + 1 + 1 + 1 + 1 + 1 + 1 + 1 + 1 + 1 + 1 + 1, 0, none⟩)]) rfl))
  clear q9 HM9
  generalize World.setCell _ ⟨w.heap.size, 9, none⟩ (.func (.func 79) #[] #[.pointer (some ⟨w.heap.size + 1 + 1 + 1 + 1 + 1 + 1 + 1 + 1 + 1 + 1 + 1, 0, none⟩)]) = W10 at q10 HM10 ⊢
  rw [st_func (j := 10) _ _ _ q10 (by simp)]
  try rw [Result.andThen_ok]
  try dsimp only
  have q11 := heap_setCell_same _ _ 10 _ _ (.func (.func 55) #[] #[]) q10
  have HM11 := hide ((unhide HM10).trans (Mod.setCell _ ⟨w.heap.size, 10, none⟩ (.func (.func 55) #[] #[]) rfl))
  clear q10 HM10
  generalize World.setCell _ ⟨w.heap.size, 10, none⟩ (.func (.func 55) #[] #[]) = W11 at q11 HM11 ⊢
  rw [st_func (j := 11) _ _ _ q11 (by simp)]
  try rw [Result.andThen_ok]
  try dsimp only
  have q12 := heap_setCell_same _ _ 11 _ _ (.func (.func 75) #[] #[.pointer (some ⟨w.heap.size + 1 + 1 + 1 + 1, 0, none⟩)]) q11
  have HM12 := hide ((unhide HM11).trans (Mod.setCell _ ⟨w.heap.size, 11, none⟩ (.func (.func 75) #[] #[.pointer (some ⟨w.heap.size + 1 + 1 + 1 + 1, 0, none⟩)]) rfl))
  clear q11 HM11
  generalize World.setCell _ ⟨w.heap.size, 11, none⟩ (.func (.func 75) #[] #[.pointer (some ⟨w.heap.size + 1 + 1 + 1 + 1, 0, none⟩)]) = W12 at q12 HM12 ⊢
  rw [st_func (j := 12) _ _ _ q12 (by simp)]
  try rw [Result.andThen_ok]
  try dsimp only
  have q13 := heap_setCell_same _ _ 12 _ _ (.func (.func 55) #[] #[]) q12
  have HM13 := hide ((unhide HM12).trans (Mod.setCell _ ⟨w.heap.size, 12, none⟩ (.func (.func 55) #[] #[]) rfl))
  clear q12 HM12
  generalize World.setCell _ ⟨w.heap.size, 12, none⟩ (.func (.func 55) #[] #[]) = W13 at q13 HM13 ⊢
  rw [st_func (j := 13) _ _ _ q13 (by simp)]
  try rw [Result.andThen_ok]
  try dsimp only
  have q14 := heap_setCell_same _ _ 13 _ _ (.func (.func 75) #[] #[.pointer (some ⟨w.heap.size + 1 + 1 + 1 + 1, 0, none⟩)]) q13
  have HM14 := hide ((unhide HM13).trans (Mod.setCell _ ⟨w.heap.size, 13, none⟩ (.func (.func 75) #[] #[.pointer (some ⟨w.heap.size + 1 + 1 + 1 + 1, 0, none⟩)]) rfl))
  clear q13 HM13
  generalize World.setCell _ ⟨w.heap.size, 13, none⟩ (.func (.func 75) #[] #[.pointer (some ⟨w.heap.size + 1 + 1 + 1 + 1, 0, none⟩)]) = W14 at q14 HM14 ⊢
  rw [st_func (j := 14) _ _ _ q14 (by simp)]
  try rw [Result.andThen_ok]
  try dsimp only
  have q15 := heap_setCell_same _ _ 14 _ _ (.func (.func 55) #[] #[]) q14
  have HM15 := hide ((unhide HM14).trans (Mod.setCell _ ⟨w.heap.size, 14, none⟩ (.func (.func 55) #[] #[]) rfl))
  clear q14 HM14
  generalize World.setCell _ ⟨w.heap.size, 14, none⟩ (.func (.func 55) #[] #[]) = W15 at q15 HM15 ⊢
  rw [st_func (j := 15) _ _ _ q15 (by simp)]
  try rw [Result.andThen_ok]
  try dsimp only
  have q16 := heap_setCell_same _ _ 15 _ _ (.func (.func 75) #[] #[.pointer (some ⟨w.heap.size + 1 + 1, 0, none⟩)]) q15
  have HM16 := hide ((unhide HM15).trans (Mod.setCell _ ⟨w.heap.size, 15, none⟩ (.func (.func 75) #[] #[.pointer (some ⟨w.heap.size + 1 + 1, 0, none⟩)]) rfl))
  clear q15 HM15
  generalize World.setCell _ ⟨w.heap.size, 15, none⟩ (.func (.func 75) #[] #[.pointer (some ⟨w.heap.size + 1 + 1, 0, none⟩)]) = W16 at q16 HM16 ⊢
  rw [st_func (j := 16) _ _ _ q16 (by simp)]
  try rw [Result.andThen_ok]
  try dsimp only
  have q17 := heap_setCell_same _ _ 16 _ _ (.func (.func 55) #[] #[]) q16
  have HM17 := hide ((unhide HM16).trans (Mod.setCell _ ⟨w.heap.size, 16, none⟩ (.func (.func 55) #[] #[]) rfl))
  clear q16 HM16
  generalize World.setCell _ ⟨w.heap.size, 16, none⟩ (.func (.func 55) #[] #[]) = W17 at q17 HM17 ⊢
  rw [st_func (j := 17) _ _ _ q17 (by simp)]
  try rw [Result.andThen_ok]
  try dsimp only
  have q18 := heap_setCell_same _ _ 17 _ _ (.func (.func 75) #[] #[.pointer (some ⟨w.heap.size + 1 + 1, 0, none⟩)]) q17
  have HM18 := hide ((unhide HM17).trans (Mod.setCell _ ⟨w.heap.size, 17, none⟩ (.func (.func 75) #[] #[.pointer (some ⟨w.heap.size + 1 + 1, 0, none⟩)]) rfl))
  clear q17 HM17
  generalize World.setCell _ ⟨w.heap.size, 17, none⟩ (.func (.func 75) #[] #[.pointer (some ⟨w.heap.size + 1 + 1, 0, none⟩)]) = W18 at q18 HM18 ⊢
  rw [st_func (j := 18) _ _ _ q18 (by simp)]
  try rw [Result.andThen_ok]
  try dsimp only
  have q19 := heap_setCell_same _ _ 18 _ _ (.func (.func 56) #[] #[]) q18
  have HM19 := hide ((unhide HM18).trans (Mod.setCell _ ⟨w.heap.size, 18, none⟩ (.func (.func 56) #[] #[]) rfl))
  clear q18 HM18
  generalize World.setCell _ ⟨w.heap.size, 18, none⟩ (.func (.func 56) #[] #[]) = W19 at q19 HM19 ⊢
  rw [st_func (j := 19) _ _ _ q19 (by simp)]
  try rw [Result.andThen_ok]
  try dsimp only
  have q20 := heap_setCell_same _ _ 19 _ _ (.func (.func 77) #[] #[.pointer (some ⟨w.heap.size + 1 + 1 + 1 + 1 + 1 + 1 + 1 + 1 + 1 + 1 + 1 + 1, 0, none⟩)]) q19
  have HM20 := hide ((unhide HM19).trans (Mod.setCell _ ⟨w.heap.size, 19, none⟩ (.func (.func 77) #[] #[.pointer (some ⟨w.heap.size + 1 + 1 + 1 + 1 + 1 + 1 + 1 + 1 + 1 + 1 + 1 + 1, 0, none⟩)]) rfl))
  clear q19 HM19
  generalize World.setCell _ ⟨w.heap.size, 19, none⟩ (.func (.func 77) #[] #[.pointer (some ⟨w.heap.size + 1 + 1 + 1 + 1 + 1 + 1 + 1 + 1 + 1 + 1 + 1 + 1, 0, none⟩)]) = W20 at q20 HM20 ⊢
  rw [st_func (j := 20) _ _ _ q20 (by simp)]
  try rw [Result.andThen_ok]
  try dsimp only
  have q21 := heap_setCell_same _ _ 20 _ _ (.func (.func 57) #[] #[]) q20
  have HM21 := hide ((unhide HM20).trans (Mod.setCell _ ⟨w.heap.size, 20, none⟩ (.func (.func 57) #[] #[]) rfl))
  clear q20 HM20
  generalize World.setCell _ ⟨w.heap.size, 20, none⟩ (.func (.func 57) #[] #[]) = W21 at q21 HM21 ⊢
  rw [st_func (j := 21) _ _ _ q21 (by simp)]
  try rw [Result.andThen_ok]
  try dsimp only
  have q22 := heap_setCell_same _ _ 21 _ _ (.func (.func 77) #[] #[.pointer (some ⟨w.heap.size + 1 + 1 + 1 + 1 + 1 + 1 + 1 + 1 + 1 + 1 + 1 + 1 + 1, 0, none⟩)]) q21
  have HM22 := hide ((unhide HM21).trans (Mod.setCell _ ⟨w.heap.size, 21, none⟩ (.func (.func 77) #[] #[.pointer (some ⟨w.heap.size + 1 + 1 + 1 + 1 + 1 + 1 + 1 + 1 + 1 + 1 + 1 + 1 + 1, 0, none⟩)]) rfl))
  clear q21 HM21
  generalize World.setCell _ ⟨w.heap.size, 21, none⟩ (.func (.func 77) #[] #[.pointer (some ⟨w.heap.size + 1 + 1 + 1 + 1 + 1 + 1 + 1 + 1 + 1 + 1 + 1 + 1 + 1, 0, none⟩)]) = W22 at q22 HM22 ⊢
  simp at q22
  go_wp2
  refine bodyPost_ret (results_cell_row (p := 0) (ty := 66) Tryz.results23 _ W22 w.heap.size 66 _ (0, 0) _ rfl q22 Tryz.underlying66 rfl (by kernel_rfl)) rfl ⟨rfl, ?_, ?_⟩
  · unfold kindsW; rw [hW0]; exact unhide HM22
  · exact (unhide HBL).trans ((unhide HM22).below (unhide HBL).size (fun k hk => by omega))
end Go.Proofs.YtmnmaenmoaehlaaGreatDoor

namespace Go.Proofs.YtmnmaenmoaehlaaGreatDoor
open Go.RowKit Go.Lib

theorem families_any (w : World) (bA : Nat) (x : NodeM) (a : Option Addr) (cap : Nat) : Calls Tryz.prog 24 #[.pointer (some ⟨bA, 0, none⟩), nodW x a cap] w fun e w' =>
    e = .returned (.func (.func 58) #[] #[.pointer (some ⟨w.heap.size + 1, 0, none⟩), .pointer (some ⟨w.heap.size, 0, none⟩)]) ∧ w' = (w.alloc (.cells #[.pointer (some ⟨bA, 0, none⟩)] 24)).alloc (nodeB x a cap) := by
  unfold nodW nodeB
  go_enter Tryz.func24, Tryz.ntmps24
  go_wp2
  go_ret
  exact ⟨rfl, rfl⟩
end Go.Proofs.YtmnmaenmoaehlaaGreatDoor

namespace Go.Proofs.YtmnmaenmoaehlaaGreatDoor
open Go.RowKit Go.Lib

def shownB (x : AttrM) : ByteArray := ⟨((aheadB x).data.toList ++ x.name.data.toList).toArray⟩
theorem shown_eq {a : ByteArray} {x : AttrM} {p : ByteArray} (h : aheadB x = p) (ha : a.data.toList = p.data.toList ++ x.name.data.toList) : a = shownB x := by
  unfold shownB
  rw [h, ← ha]

set_option maxHeartbeats 1000000 in
theorem shown_any (x : AttrM) (hx : x.name.size ≤ 100000000) (w : World) : Calls Tryz.prog 97 #[.agg #[.int .i64 x.space, .string x.pre, .string x.name, .string x.val]] w fun e w' => e = .returned (.string (shownB x)) ∧ Below w.heap.size w w' := by
  have HB := hidE (below_new w (.cells #[.int .i64 x.space, .string x.pre, .string x.name, .string x.val] 93))
  have hnz : (x.name.size : Int) ≤ 100000000 := by omega
  by_cases h3 : x.space = 3
  · have HQ : Hid (aheadB x = xlinkB) := hidE (by unfold aheadB; rw [if_pos h3])
    rw [h3] at HB ⊢
    clear h3
    go_enter Tryz.func97, Tryz.ntmps97
    go_wp2
    go_ret
    exact ⟨congrArg (fun v => Ending.returned (Value.string v)) (shown_eq (unhidE HQ) (by simp [ByteArray.data_append, xlinkB])), unhidE HB⟩
  · by_cases h4 : x.space = 4
    · have HQ : Hid (aheadB x = xmlB) := hidE (by unfold aheadB; rw [if_neg h3, if_pos h4])
      rw [h4] at HB ⊢
      clear h3 h4
      go_enter Tryz.func97, Tryz.ntmps97
      go_wp2
      go_ret
      exact ⟨congrArg (fun v => Ending.returned (Value.string v)) (shown_eq (unhidE HQ) (by simp [ByteArray.data_append, xmlB])), unhidE HB⟩
    · by_cases h5 : x.space = 5
      · cases hq : (x.name.toList == [120, 109, 108, 110, 115]) with
        | true =>
          have HQ : Hid (aheadB x = ⟨#[]⟩) := hidE (by unfold aheadB; rw [if_neg h3, if_neg h4, if_pos h5, hq]; rfl)
          have HN : Hid (x.name.data.toList = [120, 109, 108, 110, 115]) := hidE (by rw [← toList_data]; simpa using hq)
          rw [h5] at HB ⊢
          clear h3 h4 h5
          go_enter Tryz.func97, Tryz.ntmps97
          go_wp2
          go_ret
          exact ⟨congrArg (fun v => Ending.returned (Value.string v)) (shown_eq (unhidE HQ) (by rw [unhidE HN]; rfl)), unhidE HB⟩
        | false =>
          have HQ : Hid (aheadB x = xmlnsB) := hidE (by unfold aheadB; rw [if_neg h3, if_neg h4, if_pos h5, hq]; rfl)
          rw [h5] at HB ⊢
          clear h3 h4 h5
          go_enter Tryz.func97, Tryz.ntmps97
          go_wp2
          go_ret
          exact ⟨congrArg (fun v => Ending.returned (Value.string v)) (shown_eq (unhidE HQ) (by simp [ByteArray.data_append, xmlnsB])), unhidE HB⟩
      · have HQ : Hid (aheadB x = ⟨#[]⟩) := hidE (by unfold aheadB; rw [if_neg h3, if_neg h4, if_neg h5])
        have q3 : (x.space == 3) = false := by simpa using h3
        have q4 : (x.space == 4) = false := by simpa using h4
        have q5 : (x.space == 5) = false := by simpa using h5
        go_enter Tryz.func97, Tryz.ntmps97
        go_wp2
        go_ret
        exact ⟨congrArg (fun v => Ending.returned (Value.string v)) (shown_eq (unhidE HQ) (by simp)), unhidE HB⟩
end Go.Proofs.YtmnmaenmoaehlaaGreatDoor
