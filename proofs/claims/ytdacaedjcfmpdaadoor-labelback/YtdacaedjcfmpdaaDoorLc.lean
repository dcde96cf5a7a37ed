/-
  The document's side: blanks, labels, names, and its Of and Name.
-/
import Derived.Test.YtdacaedjcfmpdaaDoorLb
namespace Go.Proofs.YtdacaedjcfmpdaaDoor
open Go.RowKit Go.Lib

abbrev cs : List UInt8 := [9, 10, 12, 13, 32]

theorem blank_any (c : UInt8) (w : World) : Calls Tryd.prog 18 #[.int .u8 c.toNat] w fun e w' => e = .returned (.bool (cs.contains c)) ∧ w = w' := by
  by_cases h9 : c = 9
  · subst h9; go_enter Tryd.func18, Tryd.ntmps18; go_wp2; go_ret; exact ⟨rfl, rfl⟩
  by_cases h10 : c = 10
  · subst h10; go_enter Tryd.func18, Tryd.ntmps18; go_wp2; go_ret; exact ⟨rfl, rfl⟩
  by_cases h12 : c = 12
  · subst h12; go_enter Tryd.func18, Tryd.ntmps18; go_wp2; go_ret; exact ⟨rfl, rfl⟩
  by_cases h13 : c = 13
  · subst h13; go_enter Tryd.func18, Tryd.ntmps18; go_wp2; go_ret; exact ⟨rfl, rfl⟩
  by_cases h32 : c = 32
  · subst h32; go_enter Tryd.func18, Tryd.ntmps18; go_wp2; go_ret; exact ⟨rfl, rfl⟩
  have ne : ∀ k : UInt8, c ≠ k → ((c.toNat : Int) == (k.toNat : Int)) = false := fun k hk => by
    rw [beq_eq_false_iff_ne]; intro e; apply hk; apply UInt8.toNat_inj.1; omega
  have b9 : ((c.toNat : Int) == 9) = false := ne 9 h9
  have b10 : ((c.toNat : Int) == 10) = false := ne 10 h10
  have b12 : ((c.toNat : Int) == 12) = false := ne 12 h12
  have b13 : ((c.toNat : Int) == 13) = false := ne 13 h13
  have b32 : ((c.toNat : Int) == 32) = false := ne 32 h32
  have HC : Hid (cs.contains c = false) := hide (by simp [cs, h9, h10, h12, h13, h32])
  clear ne h9 h10 h12 h13 h32
  go_enter Tryd.func18, Tryd.ntmps18
  go_wp2
  go_ret
  exact ⟨by rw [unhide HC]; rfl, rfl⟩

theorem trimR_cons (c : UInt8) (l : List UInt8) : Lib.trimRightS (c :: l) cs = if Lib.trimRightS l cs = [] ∧ cs.contains c = true then [] else c :: Lib.trimRightS l cs := by
  unfold Lib.trimRightS
  rw [List.reverse_cons, List.dropWhile_append]
  by_cases h : (l.reverse.dropWhile (cs.contains ·)).isEmpty = true
  · rw [if_pos h]
    have h' : l.reverse.dropWhile (cs.contains ·) = [] := List.isEmpty_iff.1 h
    rw [h']
    by_cases hc : cs.contains c = true
    · rw [if_pos ⟨rfl, hc⟩, List.dropWhile_cons, if_pos hc]; rfl
    · rw [if_neg (fun x => hc x.2), List.dropWhile_cons, if_neg hc]; rfl
  · rw [if_neg h]
    have h' : ¬ (l.reverse.dropWhile (cs.contains ·)) = [] := fun e => h (List.isEmpty_iff.2 e)
    rw [if_neg (fun x => h' (by simpa using x.1))]
    simp
theorem trim_comm (l : List UInt8) : Lib.trimRightS (Lib.trimLeftS l cs) cs = Lib.trimS l cs := by
  unfold Lib.trimS
  induction l with
  | nil => rfl
  | cons c l ih =>
    rw [trimR_cons]
    by_cases hc : cs.contains c = true
    · have e1 : Lib.trimLeftS (c :: l) cs = Lib.trimLeftS l cs := by unfold Lib.trimLeftS; rw [List.dropWhile_cons, if_pos hc]
      rw [e1, ih]
      by_cases hr : Lib.trimRightS l cs = []
      · rw [if_pos ⟨hr, hc⟩, hr]
      · rw [if_neg (fun x => hr x.1)]
        unfold Lib.trimLeftS
        rw [List.dropWhile_cons, if_pos hc]
    · have e1 : ∀ l, Lib.trimLeftS (c :: l) cs = c :: l := fun l => by unfold Lib.trimLeftS; rw [List.dropWhile_cons, if_neg hc]
      rw [e1, trimR_cons, if_neg (fun x => hc x.2), e1]

theorem left_yes (x : ByteArray) (h : 0 < x.size) (hc : cs.contains (x[0]'h) = true) : Lib.trimLeftS x.data.toList cs = Lib.trimLeftS (x.extract 1 x.size).data.toList cs := by
  have e := drop_at x 0 h
  rw [List.drop_zero] at e
  rw [extract_list, List.take_of_length_le (by rw [len_data]; exact Nat.le_refl _), e]
  unfold Lib.trimLeftS
  rw [List.dropWhile_cons, if_pos hc]
  simp
theorem left_no (x : ByteArray) (h : 0 < x.size) (hc : cs.contains (x[0]'h) = false) : Lib.trimLeftS x.data.toList cs = x.data.toList := by
  have e := drop_at x 0 h
  rw [List.drop_zero] at e
  rw [e]
  unfold Lib.trimLeftS
  rw [List.dropWhile_cons, if_neg (by rw [hc]; decide)]
theorem last_at (x : ByteArray) (h : x.size - 1 < x.size) : x.data.toList = x.data.toList.take (x.size - 1) ++ [x[x.size - 1]'h] := by
  have := piece_step x 0 (x.size - 1) (Nat.zero_le _) h
  rw [List.drop_zero, List.drop_zero, show x.size - 1 + 1 = x.size by omega, List.take_of_length_le (by rw [len_data]; exact Nat.le_refl _)] at this
  exact this
theorem right_yes (x : ByteArray) (h : x.size - 1 < x.size) (hc : cs.contains (x[x.size - 1]'h) = true) : Lib.trimRightS x.data.toList cs = Lib.trimRightS (x.extract 0 (x.size - 1)).data.toList cs := by
  rw [extract_list, List.drop_zero]
  conv => lhs; rw [last_at x h]
  unfold Lib.trimRightS
  rw [List.reverse_append, List.reverse_singleton, List.singleton_append, List.dropWhile_cons, if_pos hc]
theorem right_no (x : ByteArray) (h : x.size - 1 < x.size) (hc : cs.contains (x[x.size - 1]'h) = false) : Lib.trimRightS x.data.toList cs = x.data.toList := by
  conv => lhs; rw [last_at x h]
  unfold Lib.trimRightS
  rw [List.reverse_append, List.reverse_singleton, List.singleton_append, List.dropWhile_cons, if_neg (by rw [hc]; decide), List.reverse_cons, List.reverse_reverse]
  exact (last_at x h).symm

structure LabsAt (w : World) (b : Nat) : Prop where
  at_ : ∀ (i : Nat) L, labs[i]? = some L → w.cell? ⟨b + 7, i, none⟩ = some (.slice (some ⟨b + i, 0, none⟩) L.length L.length)
  str : ∀ (i : Nat) L (k : Nat) x, labs[i]? = some L → L[k]? = some x → w.cell? ⟨b + i, k, none⟩ = some (.string ⟨x.toArray⟩)
  lies : b + 7 < w.heap.size
theorem LabsAt.below {w wx : World} {b : Nat} (h : LabsAt w b) (hb : Below w.heap.size w wx) : LabsAt wx b :=
  ⟨fun i L hL => by rw [hb.cell h.lies]; exact h.at_ i L hL,
    fun i L k x hL hx => by
      have hi : i < 7 := by have := (List.getElem?_eq_some_iff.1 hL).1; rw [labs_len] at this; exact this
      have hl : b + i < w.heap.size := by have := h.lies; omega
      rw [hb.cell hl]; exact h.str i L k x hL hx, Nat.lt_of_lt_of_le h.lies hb.size⟩

/-- Seven blocks, and one that holds them. -/
def lay8 (w : World) (c0 c1 c2 c3 c4 c5 c6 c7 : Array Value) (t u : Nat) : World :=
  (((((((w.alloc (.cells c0 t)).alloc (.cells c1 t)).alloc (.cells c2 t)).alloc (.cells c3 t)).alloc (.cells c4 t)).alloc (.cells c5 t)).alloc (.cells c6 t)).alloc (.cells c7 u)
section
variable (w : World) (c0 c1 c2 c3 c4 c5 c6 c7 : Array Value) (t u : Nat)
theorem lay8_size : (lay8 w c0 c1 c2 c3 c4 c5 c6 c7 t u).heap.size = w.heap.size + 8 := by simp [lay8]
theorem lay8_below : Below w.heap.size w (lay8 w c0 c1 c2 c3 c4 c5 c6 c7 t u) := by
  unfold lay8
  repeat (first | exact Below.refl _ _ | refine Below.alloc ?_ (by simp <;> omega) _)
theorem lay8_7 (i : Nat) : (lay8 w c0 c1 c2 c3 c4 c5 c6 c7 t u).cell? ⟨w.heap.size + 7, i, none⟩ = c7[i]? := by
  unfold lay8
  rw [World.cell?_alloc_at _ _ _ _ (by simp)]
theorem lay8_k (k i : Nat) (c : Array Value) (hk : [c0, c1, c2, c3, c4, c5, c6][k]? = some c) : (lay8 w c0 c1 c2 c3 c4 c5 c6 c7 t u).cell? ⟨w.heap.size + k, i, none⟩ = c[i]? := by
  have h7 : k < 7 := by have := (List.getElem?_eq_some_iff.1 hk).1; simpa using this
  unfold lay8
  rcases (by omega : k = 0 ∨ k = 1 ∨ k = 2 ∨ k = 3 ∨ k = 4 ∨ k = 5 ∨ k = 6) with rfl | rfl | rfl | rfl | rfl | rfl | rfl
  · cases hk; rw [World.cell?_alloc_past _ _ _ (by simp <;> omega), World.cell?_alloc_past _ _ _ (by simp <;> omega), World.cell?_alloc_past _ _ _ (by simp <;> omega), World.cell?_alloc_past _ _ _ (by simp <;> omega), World.cell?_alloc_past _ _ _ (by simp <;> omega), World.cell?_alloc_past _ _ _ (by simp <;> omega), World.cell?_alloc_past _ _ _ (by simp <;> omega), World.cell?_alloc_at _ _ _ _ (by simp)]
  · cases hk; rw [World.cell?_alloc_past _ _ _ (by simp <;> omega), World.cell?_alloc_past _ _ _ (by simp <;> omega), World.cell?_alloc_past _ _ _ (by simp <;> omega), World.cell?_alloc_past _ _ _ (by simp <;> omega), World.cell?_alloc_past _ _ _ (by simp <;> omega), World.cell?_alloc_past _ _ _ (by simp <;> omega), World.cell?_alloc_at _ _ _ _ (by simp)]
  · cases hk; rw [World.cell?_alloc_past _ _ _ (by simp <;> omega), World.cell?_alloc_past _ _ _ (by simp <;> omega), World.cell?_alloc_past _ _ _ (by simp <;> omega), World.cell?_alloc_past _ _ _ (by simp <;> omega), World.cell?_alloc_past _ _ _ (by simp <;> omega), World.cell?_alloc_at _ _ _ _ (by simp)]
  · cases hk; rw [World.cell?_alloc_past _ _ _ (by simp <;> omega), World.cell?_alloc_past _ _ _ (by simp <;> omega), World.cell?_alloc_past _ _ _ (by simp <;> omega), World.cell?_alloc_past _ _ _ (by simp <;> omega), World.cell?_alloc_at _ _ _ _ (by simp)]
  · cases hk; rw [World.cell?_alloc_past _ _ _ (by simp <;> omega), World.cell?_alloc_past _ _ _ (by simp <;> omega), World.cell?_alloc_past _ _ _ (by simp <;> omega), World.cell?_alloc_at _ _ _ _ (by simp)]
  · cases hk; rw [World.cell?_alloc_past _ _ _ (by simp <;> omega), World.cell?_alloc_past _ _ _ (by simp <;> omega), World.cell?_alloc_at _ _ _ _ (by simp)]
  · cases hk; rw [World.cell?_alloc_past _ _ _ (by simp <;> omega), World.cell?_alloc_at _ _ _ _ (by simp)]
end

def strs (L : List (List UInt8)) : Array Value := (L.map fun x => Value.string ⟨x.toArray⟩).toArray
def labC (k : Nat) : Array Value := strs (labs.getD k [])

set_option maxHeartbeats 2000000 in
theorem labels_any (w : World) : Calls Tryd.prog 19 #[] w fun e w' => e = .returned (.slice (some ⟨w.heap.size + 7, 0, none⟩) 7 7) ∧ LabsAt w' w.heap.size ∧ Below w.heap.size w w' := by
  have fin : ∀ w', w' = lay8 w (labC 0) (labC 1) (labC 2) (labC 3) (labC 4) (labC 5) (labC 6) #[Value.slice (some ⟨w.heap.size, 0, none⟩) 6 6, Value.slice (some ⟨w.heap.size + 1, 0, none⟩) 7 7, Value.slice (some ⟨w.heap.size + 2, 0, none⟩) 2 2, Value.slice (some ⟨w.heap.size + 3, 0, none⟩) 12 12, Value.slice (some ⟨w.heap.size + 4, 0, none⟩) 5 5, Value.slice (some ⟨w.heap.size + 5, 0, none⟩) 6 6, Value.slice (some ⟨w.heap.size + 6, 0, none⟩) 1 1] 9 36 → LabsAt w' w.heap.size ∧ Below w.heap.size w w' := by
    rintro w' rfl
    refine ⟨⟨fun i L hL => ?_, fun i L k x hL hx => ?_, by rw [lay8_size]; omega⟩, lay8_below _ _ _ _ _ _ _ _ _ _ _⟩
    · have hk : i < 7 := by have := (List.getElem?_eq_some_iff.1 hL).1; rw [labs_len] at this; exact this
      rw [lay8_7]
      rcases (by omega : i = 0 ∨ i = 1 ∨ i = 2 ∨ i = 3 ∨ i = 4 ∨ i = 5 ∨ i = 6) with rfl | rfl | rfl | rfl | rfl | rfl | rfl <;> (cases hL; rfl)
    · have hk : i < 7 := by have := (List.getElem?_eq_some_iff.1 hL).1; rw [labs_len] at this; exact this
      have hc : [labC 0, labC 1, labC 2, labC 3, labC 4, labC 5, labC 6][i]? = some (strs L) := by
        have e : labC i = strs L := by unfold labC; rw [List.getD_eq_getElem?_getD, hL]; rfl
        rw [← e]
        rcases (by omega : i = 0 ∨ i = 1 ∨ i = 2 ∨ i = 3 ∨ i = 4 ∨ i = 5 ∨ i = 6) with rfl | rfl | rfl | rfl | rfl | rfl | rfl <;> rfl
      rw [lay8_k _ _ _ _ _ _ _ _ _ _ _ i k _ hc]
      unfold strs
      simp [hx]
  have HF := hide fin
  clear fin
  go_enter Tryd.func19, Tryd.ntmps19
  go_wp2
  go_ret
  exact ⟨rfl, (unhide HF) _ rfl⟩
theorem labs_most : labs.all (fun L => decide (L.length ≤ 12)) = true := by decide +kernel
end Go.Proofs.YtdacaedjcfmpdaaDoor
