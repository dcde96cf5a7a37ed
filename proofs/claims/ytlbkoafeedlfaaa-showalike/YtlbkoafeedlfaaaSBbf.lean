/-
  Package show's Show of a node without children; that the program answers at all.
-/
import Derived.Test.YtlbkoafeedlfaaaSBbe
import Derived.Lib.UnsafeStr
import Derived.Lib.Builder
import Derived.Laws.Externs
namespace Go.Proofs.Ytlbkoafeedlfaaa
open Go.RowKit

theorem size117 : (Try.prog.info? 117).map (·.size) = some 2 := by kernel_rfl
theorem lies117 : liesAt Try.prog Try.prog.depth 117 (2 / Try.prog.cellsOf 117) 0 117 1 = true := by kernel_rfl

set_option maxHeartbeats 1000000 in
set_option maxRecDepth 100000 in
theorem copyCheck0 {w : World} {b : Nat} (h0 : w.cell? ⟨b, 0, none⟩ = some (.pointer none)) (hsh : w.shape? b = some (117, 2)) (hfz : w.frozen? ⟨b, 0, none⟩ = false) :
    Calls Try.prog 117 #[.pointer (some ⟨b, 0, none⟩)] w fun e w' => e = .returned (.tuple #[]) ∧ w' = w.setCell ⟨b, 0, none⟩ (.pointer (some ⟨b, 0, none⟩)) := by
  obtain ⟨j, hj, hjs⟩ := Option.map_eq_some_iff.1 size117
  go_enter Try.func117, Try.ntmps117
  go_wp2
  rw [Lib.run_to_unsafe w ⟨b, 0, none⟩ Try.underlying115 Try.underlying174 hj (by rw [hjs]; decide) hsh (Nat.zero_lt_succ 1)]
  simp only [Result.andThen]
  rw [Oper.upon_value]
  go_wp2
  rw [run_callFunc_extern Try.func137 (by kernel_rfl) (by kernel_rfl) (by kernel_rfl) (e := Extern.AbiNoEscape.same) (by kernel_rfl)]
  rw [Lib.run_noEscape]
  simp only [Result.andThen]
  rw [Oper.upon_value]
  go_wp2
  rw [Lib.run_from_unsafe w ⟨b, 0, none⟩ Try.underlying174 Try.underlying115 hj hsh lies117]
  simp only [Result.andThen]
  rw [Oper.upon_value]
  go_wp2
  go_end0
  exact ⟨rfl, rfl⟩

set_option maxHeartbeats 1000000 in
set_option maxRecDepth 10000 in
theorem grow0 {w : World} {b : Nat} (h0 : w.cell? ⟨b, 0, none⟩ = some (.pointer none)) (h1 : w.cell? ⟨b, 1, none⟩ = some (.slice none 0 0)) (hsh : w.shape? b = some (117, 2)) (hfz : w.frozen? ⟨b, 0, none⟩ = false) :
    Calls Try.prog 76 #[.pointer (some ⟨b, 0, none⟩), .int .i64 0] w fun e w' => e = .returned (.tuple #[]) ∧ w'.cell? ⟨b, 1, none⟩ = some (.slice none 0 0) ∧ Below b w w' ∧ w'.heap.size = w.heap.size := by
  have HC := hide (copyCheck0 h0 hsh hfz)
  have HB : Hid (Below b w (w.setCell ⟨b, 0, none⟩ (.pointer (some ⟨b, 0, none⟩)))) := hide ((Below.refl _ _).setCell (p := ⟨b, 0, none⟩) (Nat.le_refl _) _)
  have h1' : (w.setCell ⟨b, 0, none⟩ (.pointer (some ⟨b, 0, none⟩))).cell? ⟨b, 1, none⟩ = some (.slice none 0 0) := by
    rw [World.cell?_setCell_other _ _ _ _ (by intro e; cases e)]; exact h1
  have HSZ : Hid ((w.setCell ⟨b, 0, none⟩ (.pointer (some ⟨b, 0, none⟩))).heap.size = w.heap.size) := hide (by simp)
  generalize w.setCell ⟨b, 0, none⟩ (.pointer (some ⟨b, 0, none⟩)) = w2 at HC HB h1' HSZ
  clear h0 h1 hsh hfz
  go_enter Try.func76, Try.ntmps76
  go_wp2_with (go_at_call 117; refine (unhide HC).mono ?_; rintro e w' ⟨rfl, hw⟩; subst hw)
  go_quiet (fail)
  go_wp2
  go_end0
  exact ⟨rfl, by simpa using h1', below_drewN' (unhide HB) _, by simpa using unhide HSZ⟩

set_option maxHeartbeats 1000000 in
theorem string0 {w : World} {bb : Nat} (h1 : w.cell? ⟨bb, 1, none⟩ = some (.slice none 0 0)) :
    Calls Try.prog 78 #[.pointer (some ⟨bb, 0, none⟩)] w fun e w' => e = .returned (.string ⟨#[]⟩) ∧ Below w.heap.size w w' := by
  have u1 := fun W ts ty => Go.Lib.run_unsafeSliceData_nil (P := Try.prog) W ts ty 0 0
  have u2 := fun W pt it ty => Go.Lib.run_unsafeString_none (P := Try.prog) W pt it ty none
  go_enter Try.func78, Try.ntmps78
  go_wp2
  go_quiet (fail)
  go_wp2
  go_ret
  exact ⟨rfl, below_drewN' (Below.refl _ _) _⟩

theorem put0 (d : Int) (b : Nat) (w : World) : Calls Try.prog 112 #[.int .i64 (-1), .int .i64 d, .pointer (some ⟨b, 0, none⟩)] w fun e w' => e = .returned (.tuple #[]) ∧ w = w' := by
  go_enter Try.func112, Try.ntmps112
  go_wp2
  go_end0
  exact ⟨rfl, rfl⟩
theorem empty0 {b : Nat} {w : World} (h : w.cell? ⟨b, 0, none⟩ = some (.slice none 0 0)) : Calls Try.prog 114 #[.pointer (some ⟨b, 0, none⟩)] w fun e w' => e = .returned (.bool true) ∧ w = w' := by
  go_enter Try.func114, Try.ntmps114
  go_wp2
  go_ret
  exact ⟨rfl, rfl⟩

set_option maxHeartbeats 1000000 in
set_option maxRecDepth 10000 in
theorem eachLine0 (a : Value) (f : Value) (w : World) :
    Calls Try.prog 73 #[a, .int .i64 (-1), f] w fun e w' => e = .returned (.tuple #[]) ∧ Below w.heap.size w w' := by
  have HB := hide ((Below.refl _ w).alloc (Nat.le_refl _) (.cells #[.slice none 0 0] 149))
  have HE := hide (empty0 (b := w.heap.size) (w := w.alloc (.cells #[.slice none 0 0] 149)) (by simp))
  go_enter Try.func73, Try.ntmps73
  go_wp2_with (go_at_call 112; refine (put0 _ _ _).mono ?_; rintro e w' ⟨rfl, rfl⟩)
  go_loopg [8, 9, 10, 11, 12] 0 (fun _ _ _ _ _ _ wx => w.alloc (.cells #[.slice none 0 0] 149) = wx)
  case atStart => rfl
  case round =>
    subst hrel
    go_wp2_with (go_at_call 114; refine (unhide HE).mono ?_; rintro e w' ⟨rfl, rfl⟩)
    go_end0
    exact ⟨rfl, unhide HB⟩

theorem lineWriter0 (b : Nat) (w : World) : Calls Try.prog 77 #[.pointer (some ⟨b, 0, none⟩)] w fun e w' => (∃ f, e = .returned f) ∧ Below w.heap.size w w' := by
  have HB := hide (fun o o' => ((Below.refl _ w).alloc (Nat.le_refl _) o).alloc (by simp) o')
  go_enter Try.func77, Try.ntmps77
  go_wp2
  go_ret
  exact ⟨⟨_, rfl⟩, (unhide HB) _ _⟩
theorem shape_new (w : World) : (w.alloc (.cells #[.pointer none, .slice none 0 0] 117)).shape? w.heap.size = some (117, 2) := by
  unfold World.shape?; rw [heap_alloc_new]; rfl
theorem free_new (w : World) : (w.alloc (.cells #[.pointer none, .slice none 0 0] 117)).frozen? ⟨w.heap.size, 0, none⟩ = false := by
  unfold World.frozen?; simp only [heap_alloc_new]; rfl

theorem keep_cell {w w' : World} {B k j : Nat} {v : Value} (hb : Below B w w') (hk : k < B) (h : w.cell? ⟨k, j, none⟩ = some v) : w'.cell? ⟨k, j, none⟩ = some v := (hb.cell (p := ⟨k, j, none⟩) hk).trans h

set_option maxHeartbeats 2000000 in
set_option maxRecDepth 10000 in
theorem show0 {w : World} {base bA : Nat} {ns : List NodeM} {F : Nat → Prop} (h : ArS w base bA ns F) {i : Nat} {n : NodeM} (hi : ns[i]? = some n) (hf : n.first = -1) :
    Calls Try.prog 28 #[.pointer (some ⟨bA, 0, none⟩), .int .i64 i] w fun e w' => e = .returned (.tuple #[.string ⟨#[]⟩, .int .i64 0]) ∧ Below w.heap.size w w' := by
  have HN := hide (nodeA h (Below.refl _ w) hi)
  rw [hf] at HN
  clear h hi hf
  go_enter Try.func28, Try.ntmps28
  go_wp2_with (first
    | (go_at_call 18; refine (unhide HN).mono ?_; rintro e w1 ⟨a, c, rfl, hat, hb1⟩; have HB1 := hide hb1; clear hat hb1)
    | (go_at_call 76; refine (grow0 (by simp) (by simp) (shape_new _) (free_new _)).mono ?_; rintro e w3 ⟨rfl, hc3, hb3, hz3⟩; have k73 := keep_cell hb3 hs0 ((World.cell?_alloc_past _ _ _ hs0).trans k7); have HB3 := hide (hb3.mono (Nat.le_of_lt hs0)); have hz3' : w2.heap.size < w3.heap.size := (by simp at hz3; omega); clear hb3 hz3)
    | (go_at_call 73; refine (eachLine0 _ _ _).mono ?_; rintro e w2 ⟨rfl, hb2⟩; have HB2 := hide hb2; have hz2 := hb2.size; have hs1 : w1.heap.size + 1 < w2.heap.size := (by simp at hz2; omega); have hs0 : w1.heap.size < w2.heap.size := (by omega); have k7 := keep_cell (k := w1.heap.size) (j := 7) (v := .int .i64 (-1)) hb2 (by simp; omega) (by simp); have k0 := keep_cell (k := w1.heap.size + 1) (j := 0) (v := .int .i64 0) hb2 (by simp) (by simp); clear hb2 hz2))
  have hs3 : w1.heap.size < w3.heap.size := Nat.lt_trans hs0 hz3'
  go_region_with (first
    | (go_at_call 77; refine (lineWriter0 _ _).mono ?_; rintro e w4 ⟨⟨fv, rfl⟩, hb4⟩; have k74 := keep_cell (k := w1.heap.size) (j := 7) (v := .int .i64 (-1)) hb4 (by simpa using hs3) (by simpa using k73); have hc4 := keep_cell (k := w2.heap.size) (j := 1) (v := .slice none 0 0) hb4 (by simpa using hz3') (by simpa using hc3); have hz4 : w2.heap.size < w4.heap.size := (by have := hb4.size; simp at this; omega); have HB4 : Hid (Below w1.heap.size w3.drew w4) := hide (hb4.mono (by simp; omega)); clear hb4)
    | (go_at_call 73; refine (eachLine0 _ _ _).mono ?_; rintro e w5 ⟨rfl, hb5⟩; have hc5 := keep_cell (k := w2.heap.size) (j := 1) (v := .slice none 0 0) hb5 (by simpa using hz4) (by simpa using hc4); have HB5 : Hid (Below w4.heap.size w4 w5) := hide hb5; clear hb5))
  all_goals go_wp2_with (go_at_call 78; refine (string0 (by simpa using hc5)).mono ?_; rintro e w6 ⟨rfl, hb6⟩; have HB6 := hide hb6; clear hb6)
  all_goals go_ret2
  all_goals
    have hA : Below w1.heap.size w1 w2 := (((Below.refl _ w1).alloc (Nat.le_refl _) _).alloc (by simp) _).trans ((unhide HB2).mono (by simp; omega))
    have hB : Below w1.heap.size w1 w3 := (hA.alloc (Nat.le_of_lt hs0) _).trans (unhide HB3)
    have hC := hB.drew.trans (unhide HB4)
    have hD := hC.trans ((unhide HB5).mono hC.size)
    have hE := hD.trans ((unhide HB6).mono hD.size)
    exact ⟨rfl, (unhide HB1).trans (hE.mono (unhide HB1).size)⟩
end Go.Proofs.Ytlbkoafeedlfaaa
