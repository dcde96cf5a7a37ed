/-
  class.In, walked.
-/
import Derived.Test.YtmnmaenmoaehlaaGreatDoorSZbp
import Derived.RangeFuncCalls
import Derived.RangeFuncLeaves
namespace Go.Proofs.YtmnmaenmoaehlaaGreatDoor
open Go.RowKit Go.Lib Go.Shelf
attribute [local go_sem] Oper.semAt_some

def BZ (w2 W : World) : Prop := Below w2.heap.size w2 W ∧ W.heap.size = w2.heap.size + 1
theorem bz_set {w2 W : World} (h : BZ w2 W) (j : Nat) (v : Value) : BZ w2 (W.setCell ⟨w2.heap.size, j, none⟩ v) := ⟨h.1.setCell (p := ⟨w2.heap.size, j, none⟩) (Nat.le_refl _) v, by rw [← h.2]; simp [World.setCell]⟩
set_option maxRecDepth 100000 in
set_option maxHeartbeats 8000000 in
theorem cin_any {w : World} {base bA : Nat} {ns : List NodeM} {os : List OneM} {F : Nat → Prop} (h : ArS w base bA ns F) (hs : Sim ns os) (hE : Ext os) (hP : PgO os) (hmax : os.length ≤ 32768) (hg : GV w) :
    CallsIn Fence.wide 6 Tryz.prog 7 #[.pointer (some ⟨bA, 0, none⟩)] w fun e w' => e = .returned (.bool (famF os (os.length + 5) 0 0)) ∧ Below w.heap.size w w' := by
  obtain ⟨o0, ho0, hk0, ha0⟩ := hP.top
  obtain ⟨n0, hn0, hsame0⟩ := hs.get ho0
  have hb0 := below_new w (.cells #[.bool false] 4)
  have HN := hide (node_in (h.below hb0) 0 n0 hn0)
  have HAR := hide h
  have HS := hide hs
  have HE := hide hE
  have HPG := hide hP
  have HG := hide hg
  have HN0 := hide hn0
  have HO0 := hide ho0
  have HB0 := hide hb0
  clear h hs hE hP hg hn0 ho0 hb0 hk0 ha0 hsame0
  refine callsIn_of_wp_marks Tryz.func7 rfl trivial ?_ rfl
  simp only [Tryz.ntmps7, List.size_toArray, List.length_cons, List.length_nil, Nat.reduceAdd, Nat.reduceSub, Array.replicate_succ, Array.replicate_zero, List.push_toArray, List.append_toArray, List.nil_append, List.cons_append]
  gi_wp2_with fail
  refine ⟨trivial, (callsIn_wide.2 (unhide HN)).mono ?_⟩
  rintro e w1 ⟨ao, cp, rfl, hown, hb1, hnew⟩
  have hB1 := (unhide HB0).trans (hb1.mono (unhide HB0).size)
  have k1 : w1.heap[w.heap.size]? = some (.cells #[.bool false] 4) := (hb1.block _ (by simp)).trans (World.alloc_heap_new w _)
  have HK1 := hide k1
  have HB1 := hide hB1
  have HOWN := hide hown
  have hlt1 : w.heap.size < w1.heap.size := lt_of_block k1
  clear hown hb1 hnew hB1 k1
  unfold nodeV NodeM.cells
  gi_wp2_with fail
  refine ⟨trivial, (callsIn_wide.2 (kinds_any _)).mono ?_⟩
  rintro e w2 ⟨rfl, hm2, hb2⟩
  have HM2 := hide hm2
  have HB2 := hide hb2
  have hz2 := hb2.size
  rw [World.size_alloc] at hz2
  have q := (hb2.block w1.heap.size (by simp)).trans (World.alloc_heap_new w1 _)
  have HQ := hide q
  clear hm2 hb2 q
  have hkv := kinds_at (w := w1.alloc (.cells #[.int .i64 n0.kind, .int .i64 n0.space, .string n0.name, .slice ao n0.attrs.length cp, .string n0.data, .string n0.system, .int .i64 n0.parent, .int .i64 n0.first, .int .i64 n0.last, .int .i64 n0.prev, .int .i64 n0.next, .int .i64 n0.inner] 51)) (unhide HM2)
  have HKV := hide hkv
  clear hkv
  unfold kindsV
  gi_wp2_with fail
  have z0 : (w2.alloc (.cells #[.nilFunc, .nilFunc, .nilFunc, .nilFunc, .nilFunc, .nilFunc, .nilFunc, .nilFunc, .nilFunc, .nilFunc, .nilFunc, .nilFunc, .nilFunc, .nilFunc, .nilFunc, .nilFunc, .nilFunc, .nilFunc, .nilFunc, .nilFunc, .nilFunc, .nilFunc] 66)).heap[w2.heap.size]? = some (.cells #[.nilFunc, .nilFunc, .nilFunc, .nilFunc, .nilFunc, .nilFunc, .nilFunc, .nilFunc, .nilFunc, .nilFunc, .nilFunc, .nilFunc, .nilFunc, .nilFunc, .nilFunc, .nilFunc, .nilFunc, .nilFunc, .nilFunc, .nilFunc, .nilFunc, .nilFunc] 66) := World.alloc_heap_new w2 _
  have HZ0 : Hid (BZ w2 (w2.alloc (.cells #[.nilFunc, .nilFunc, .nilFunc, .nilFunc, .nilFunc, .nilFunc, .nilFunc, .nilFunc, .nilFunc, .nilFunc, .nilFunc, .nilFunc, .nilFunc, .nilFunc, .nilFunc, .nilFunc, .nilFunc, .nilFunc, .nilFunc, .nilFunc, .nilFunc, .nilFunc] 66))) := hide ⟨(Below.refl _ w2).alloc (Nat.le_refl _) _, by simp⟩
  rw [st_func (j := 0) _ _ _ z0 (by simp)]
  try rw [Result.andThen_ok]
  try dsimp only
  have z1 : (World.setCell (w2.alloc (.cells #[.nilFunc, .nilFunc, .nilFunc, .nilFunc, .nilFunc, .nilFunc, .nilFunc, .nilFunc, .nilFunc, .nilFunc, .nilFunc, .nilFunc, .nilFunc, .nilFunc, .nilFunc, .nilFunc, .nilFunc, .nilFunc, .nilFunc, .nilFunc, .nilFunc, .nilFunc] 66)) ⟨w2.heap.size, 0, none⟩ (.func (.func 51) #[] #[])).heap[w2.heap.size]? = some (.cells #[.func (.func 51) #[] #[], .nilFunc, .nilFunc, .nilFunc, .nilFunc, .nilFunc, .nilFunc, .nilFunc, .nilFunc, .nilFunc, .nilFunc, .nilFunc, .nilFunc, .nilFunc, .nilFunc, .nilFunc, .nilFunc, .nilFunc, .nilFunc, .nilFunc, .nilFunc, .nilFunc] 66) := heap_setCell_same _ _ 0 _ _ (.func (.func 51) #[] #[]) z0
  have HZ1 := hide (bz_set (unhide HZ0) 0 (.func (.func 51) #[] #[]))
  clear z0 HZ0
  generalize World.setCell _ ⟨w2.heap.size, 0, none⟩ (.func (.func 51) #[] #[]) = Z1 at z1 HZ1 ⊢
  rw [st_func (j := 1) _ _ _ z1 (by simp)]
  try rw [Result.andThen_ok]
  try dsimp only
  have z2 : (World.setCell Z1 ⟨w2.heap.size, 1, none⟩ (.func (.func 77) #[] #[.pointer (some ⟨w1.heap.size + 1 + 1 + 1 + 1 + 1 + 1, 0, none⟩)])).heap[w2.heap.size]? = some (.cells #[.func (.func 51) #[] #[], .func (.func 77) #[] #[.pointer (some ⟨w1.heap.size + 1 + 1 + 1 + 1 + 1 + 1, 0, none⟩)], .nilFunc, .nilFunc, .nilFunc, .nilFunc, .nilFunc, .nilFunc, .nilFunc, .nilFunc, .nilFunc, .nilFunc, .nilFunc, .nilFunc, .nilFunc, .nilFunc, .nilFunc, .nilFunc, .nilFunc, .nilFunc, .nilFunc, .nilFunc] 66) := heap_setCell_same _ _ 1 _ _ (.func (.func 77) #[] #[.pointer (some ⟨w1.heap.size + 1 + 1 + 1 + 1 + 1 + 1, 0, none⟩)]) z1
  have HZ2 := hide (bz_set (unhide HZ1) 1 (.func (.func 77) #[] #[.pointer (some ⟨w1.heap.size + 1 + 1 + 1 + 1 + 1 + 1, 0, none⟩)]))
  clear z1 HZ1
  generalize World.setCell _ ⟨w2.heap.size, 1, none⟩ (.func (.func 77) #[] #[.pointer (some ⟨w1.heap.size + 1 + 1 + 1 + 1 + 1 + 1, 0, none⟩)]) = Z2 at z2 HZ2 ⊢
  rw [st_func (j := 2) _ _ _ z2 (by simp)]
  try rw [Result.andThen_ok]
  try dsimp only
  have z3 : (World.setCell Z2 ⟨w2.heap.size, 2, none⟩ (.func (.func 53) #[] #[])).heap[w2.heap.size]? = some (.cells #[.func (.func 51) #[] #[], .func (.func 77) #[] #[.pointer (some ⟨w1.heap.size + 1 + 1 + 1 + 1 + 1 + 1, 0, none⟩)], .func (.func 53) #[] #[], .nilFunc, .nilFunc, .nilFunc, .nilFunc, .nilFunc, .nilFunc, .nilFunc, .nilFunc, .nilFunc, .nilFunc, .nilFunc, .nilFunc, .nilFunc, .nilFunc, .nilFunc, .nilFunc, .nilFunc, .nilFunc, .nilFunc] 66) := heap_setCell_same _ _ 2 _ _ (.func (.func 53) #[] #[]) z2
  have HZ3 := hide (bz_set (unhide HZ2) 2 (.func (.func 53) #[] #[]))
  clear z2 HZ2
  generalize World.setCell _ ⟨w2.heap.size, 2, none⟩ (.func (.func 53) #[] #[]) = Z3 at z3 HZ3 ⊢
  rw [st_func (j := 3) _ _ _ z3 (by simp)]
  try rw [Result.andThen_ok]
  try dsimp only
  have z4 : (World.setCell Z3 ⟨w2.heap.size, 3, none⟩ (.func (.func 77) #[] #[.pointer (some ⟨w1.heap.size + 1 + 1 + 1 + 1 + 1 + 1 + 1 + 1, 0, none⟩)])).heap[w2.heap.size]? = some (.cells #[.func (.func 51) #[] #[], .func (.func 77) #[] #[.pointer (some ⟨w1.heap.size + 1 + 1 + 1 + 1 + 1 + 1, 0, none⟩)], .func (.func 53) #[] #[], .func (.func 77) #[] #[.pointer (some ⟨w1.heap.size + 1 + 1 + 1 + 1 + 1 + 1 + 1 + 1, 0, none⟩)], .nilFunc, .nilFunc, .nilFunc, .nilFunc, .nilFunc, .nilFunc, .nilFunc, .nilFunc, .nilFunc, .nilFunc, .nilFunc, .nilFunc, .nilFunc, .nilFunc, .nilFunc, .nilFunc, .nilFunc, .nilFunc] 66) := heap_setCell_same _ _ 3 _ _ (.func (.func 77) #[] #[.pointer (some ⟨w1.heap.size + 1 + 1 + 1 + 1 + 1 + 1 + 1 + 1, 0, none⟩)]) z3
  have HZ4 := hide (bz_set (unhide HZ3) 3 (.func (.func 77) #[] #[.pointer (some ⟨w1.heap.size + 1 + 1 + 1 + 1 + 1 + 1 + 1 + 1, 0, none⟩)]))
  clear z3 HZ3
  generalize World.setCell _ ⟨w2.heap.size, 3, none⟩ (.func (.func 77) #[] #[.pointer (some ⟨w1.heap.size + 1 + 1 + 1 + 1 + 1 + 1 + 1 + 1, 0, none⟩)]) = Z4 at z4 HZ4 ⊢
  rw [st_func (j := 4) _ _ _ z4 (by simp)]
  try rw [Result.andThen_ok]
  try dsimp only
  have z5 : (World.setCell Z4 ⟨w2.heap.size, 4, none⟩ (.func (.func 53) #[] #[])).heap[w2.heap.size]? = some (.cells #[.func (.func 51) #[] #[], .func (.func 77) #[] #[.pointer (some ⟨w1.heap.size + 1 + 1 + 1 + 1 + 1 + 1, 0, none⟩)], .func (.func 53) #[] #[], .func (.func 77) #[] #[.pointer (some ⟨w1.heap.size + 1 + 1 + 1 + 1 + 1 + 1 + 1 + 1, 0, none⟩)], .func (.func 53) #[] #[], .nilFunc, .nilFunc, .nilFunc, .nilFunc, .nilFunc, .nilFunc, .nilFunc, .nilFunc, .nilFunc, .nilFunc, .nilFunc, .nilFunc, .nilFunc, .nilFunc, .nilFunc, .nilFunc, .nilFunc] 66) := heap_setCell_same _ _ 4 _ _ (.func (.func 53) #[] #[]) z4
  have HZ5 := hide (bz_set (unhide HZ4) 4 (.func (.func 53) #[] #[]))
  clear z4 HZ4
  generalize World.setCell _ ⟨w2.heap.size, 4, none⟩ (.func (.func 53) #[] #[]) = Z5 at z5 HZ5 ⊢
  rw [st_func (j := 5) _ _ _ z5 (by simp)]
  try rw [Result.andThen_ok]
  try dsimp only
  have z6 : (World.setCell Z5 ⟨w2.heap.size, 5, none⟩ (.func (.func 77) #[] #[.pointer (some ⟨w1.heap.size + 1 + 1 + 1 + 1 + 1 + 1 + 1 + 1 + 1 + 1, 0, none⟩)])).heap[w2.heap.size]? = some (.cells #[.func (.func 51) #[] #[], .func (.func 77) #[] #[.pointer (some ⟨w1.heap.size + 1 + 1 + 1 + 1 + 1 + 1, 0, none⟩)], .func (.func 53) #[] #[], .func (.func 77) #[] #[.pointer (some ⟨w1.heap.size + 1 + 1 + 1 + 1 + 1 + 1 + 1 + 1, 0, none⟩)], .func (.func 53) #[] #[], .func (.func 77) #[] #[.pointer (some ⟨w1.heap.size + 1 + 1 + 1 + 1 + 1 + 1 + 1 + 1 + 1 + 1, 0, none⟩)], .nilFunc, .nilFunc, .nilFunc, .nilFunc, .nilFunc, .nilFunc, .nilFunc, .nilFunc, .nilFunc, .nilFunc, .nilFunc, .nilFunc, .nilFunc, .nilFunc, .nilFunc, .nilFunc] 66) := heap_setCell_same _ _ 5 _ _ (.func (.func 77) #[] #[.pointer (some ⟨w1.heap.size + 1 + 1 + 1 + 1 + 1 + 1 + 1 + 1 + 1 + 1, 0, none⟩)]) z5
  have HZ6 := hide (bz_set (unhide HZ5) 5 (.func (.func 77) #[] #[.pointer (some ⟨w1.heap.size + 1 + 1 + 1 + 1 + 1 + 1 + 1 + 1 + 1 + 1, 0, none⟩)]))
  clear z5 HZ5
  generalize World.setCell _ ⟨w2.heap.size, 5, none⟩ (.func (.func 77) #[] #[.pointer (some ⟨w1.heap.size + 1 + 1 + 1 + 1 + 1 + 1 + 1 + 1 + 1 + 1, 0, none⟩)]) = Z6 at z6 HZ6 ⊢
  rw [st_func (j := 6) _ _ _ z6 (by simp)]
  try rw [Result.andThen_ok]
  try dsimp only
  have z7 : (World.setCell Z6 ⟨w2.heap.size, 6, none⟩ (.func (.func 53) #[] #[])).heap[w2.heap.size]? = some (.cells #[.func (.func 51) #[] #[], .func (.func 77) #[] #[.pointer (some ⟨w1.heap.size + 1 + 1 + 1 + 1 + 1 + 1, 0, none⟩)], .func (.func 53) #[] #[], .func (.func 77) #[] #[.pointer (some ⟨w1.heap.size + 1 + 1 + 1 + 1 + 1 + 1 + 1 + 1, 0, none⟩)], .func (.func 53) #[] #[], .func (.func 77) #[] #[.pointer (some ⟨w1.heap.size + 1 + 1 + 1 + 1 + 1 + 1 + 1 + 1 + 1 + 1, 0, none⟩)], .func (.func 53) #[] #[], .nilFunc, .nilFunc, .nilFunc, .nilFunc, .nilFunc, .nilFunc, .nilFunc, .nilFunc, .nilFunc, .nilFunc, .nilFunc, .nilFunc, .nilFunc, .nilFunc, .nilFunc] 66) := heap_setCell_same _ _ 6 _ _ (.func (.func 53) #[] #[]) z6
  have HZ7 := hide (bz_set (unhide HZ6) 6 (.func (.func 53) #[] #[]))
  clear z6 HZ6
  generalize World.setCell _ ⟨w2.heap.size, 6, none⟩ (.func (.func 53) #[] #[]) = Z7 at z7 HZ7 ⊢
  rw [st_func (j := 7) _ _ _ z7 (by simp)]
  try rw [Result.andThen_ok]
  try dsimp only
  have z8 : (World.setCell Z7 ⟨w2.heap.size, 7, none⟩ (.func (.func 79) #[] #[.pointer (some ⟨w1.heap.size + 1 + 1 + 1 + 1 + 1 + 1 + 1 + 1 + 1 + 1 + 1, 0, none⟩)])).heap[w2.heap.size]? = some (.cells #[.func (.func 51) #[] #[], .func (.func 77) #[] #[.pointer (some ⟨w1.heap.size + 1 + 1 + 1 + 1 + 1 + 1, 0, none⟩)], .func (.func 53) #[] #[], .func (.func 77) #[] #[.pointer (some ⟨w1.heap.size + 1 + 1 + 1 + 1 + 1 + 1 + 1 + 1, 0, none⟩)], .func (.func 53) #[] #[], .func (.func 77) #[] #[.pointer (some ⟨w1.heap.size + 1 + 1 + 1 + 1 + 1 + 1 + 1 + 1 + 1 + 1, 0, none⟩)], .func (.func 53) #[] #[], .func (.func 79) #[] #[.pointer (some ⟨w1.heap.size + 1 + 1 + 1 + 1 + 1 + 1 + 1 + 1 + 1 + 1 + 1, 0, none⟩)], .nilFunc, .nilFunc, .nilFunc, .nilFunc, .nilFunc, .nilFunc, .nilFunc, .nilFunc, .nilFunc, .nilFunc, .nilFunc, .nilFunc, .nilFunc, .nilFunc] 66) := heap_setCell_same _ _ 7 _ _ (.func (.func 79) #[] #[.pointer (some ⟨w1.heap.size + 1 + 1 + 1 + 1 + 1 + 1 + 1 + 1 + 1 + 1 + 1, 0, none⟩)]) z7
  have HZ8 := hide (bz_set (unhide HZ7) 7 (.func (.func 79) #[] #[.pointer (some ⟨w1.heap.size + 1 + 1 + 1 + 1 + 1 + 1 + 1 + 1 + 1 + 1 + 1, 0, none⟩)]))
  clear z7 HZ7
  generalize World.setCell _ ⟨w2.heap.size, 7, none⟩ (.func (.func 79) #[] #[.pointer (some ⟨w1.heap.size + 1 + 1 + 1 + 1 + 1 + 1 + 1 + 1 + 1 + 1 + 1, 0, none⟩)]) = Z8 at z8 HZ8 ⊢
  rw [st_func (j := 8) _ _ _ z8 (by simp)]
  try rw [Result.andThen_ok]
  try dsimp only
  have z9 : (World.setCell Z8 ⟨w2.heap.size, 8, none⟩ (.func (.func 53) #[] #[])).heap[w2.heap.size]? = some (.cells #[.func (.func 51) #[] #[], .func (.func 77) #[] #[.pointer (some ⟨w1.heap.size + 1 + 1 + 1 + 1 + 1 + 1, 0, none⟩)], .func (.func 53) #[] #[], .func (.func 77) #[] #[.pointer (some ⟨w1.heap.size + 1 + 1 + 1 + 1 + 1 + 1 + 1 + 1, 0, none⟩)], .func (.func 53) #[] #[], .func (.func 77) #[] #[.pointer (some ⟨w1.heap.size + 1 + 1 + 1 + 1 + 1 + 1 + 1 + 1 + 1 + 1, 0, none⟩)], .func (.func 53) #[] #[], .func (.func 79) #[] #[.pointer (some ⟨w1.heap.size + 1 + 1 + 1 + 1 + 1 + 1 + 1 + 1 + 1 + 1 + 1, 0, none⟩)], .func (.func 53) #[] #[], .nilFunc, .nilFunc, .nilFunc, .nilFunc, .nilFunc, .nilFunc, .nilFunc, .nilFunc, .nilFunc, .nilFunc, .nilFunc, .nilFunc, .nilFunc] 66) := heap_setCell_same _ _ 8 _ _ (.func (.func 53) #[] #[]) z8
  have HZ9 := hide (bz_set (unhide HZ8) 8 (.func (.func 53) #[] #[]))
  clear z8 HZ8
  generalize World.setCell _ ⟨w2.heap.size, 8, none⟩ (.func (.func 53) #[] #[]) = Z9 at z9 HZ9 ⊢
  rw [st_func (j := 9) _ _ _ z9 (by simp)]
  try rw [Result.andThen_ok]
  try dsimp only
  have z10 : (World.setCell Z9 ⟨w2.heap.size, 9, none⟩ (.func (.func 79) #[] #[.pointer (some ⟨w1.heap.size + 1 + 1 + 1 + 1 + 1 + 1 + 1 + 1 + 1 + 1 + 1 + 1, 0, none⟩)])).heap[w2.heap.size]? = some (.cells #[.func (.func 51) #[] #[], .func (.func 77) #[] #[.pointer (some ⟨w1.heap.size + 1 + 1 + 1 + 1 + 1 + 1, 0, none⟩)], .func (.func 53) #[] #[], .func (.func 77) #[] #[.pointer (some ⟨w1.heap.size + 1 + 1 + 1 + 1 + 1 + 1 + 1 + 1, 0, none⟩)], .func (.func 53) #[] #[], .func (.func 77) #[] #[.pointer (some ⟨w1.heap.size + 1 + 1 + 1 + 1 + 1 + 1 + 1 + 1 + 1 + 1, 0, none⟩)], .func (.func 53) #[] #[], .func (.func 79) #[] #[.pointer (some ⟨w1.heap.size + 1 + 1 + 1 + 1 + 1 + 1 + 1 + 1 + 1 + 1 + 1, 0, none⟩)], .func (.func 53) #[] #[], .func (.func 79) #[] #[.pointer (some ⟨w1.heap.size + 1 + 1 + 1 + 1 + 1 + 1 + 1 + 1 + 1 + 1 + 1 + 1, 0, none⟩)], .nilFunc, .nilFunc, .nilFunc, .nilFunc, .nilFunc, .nilFunc, .nilFunc, .nilFunc, .nilFunc, .nilFunc, .nilFunc, .nilFunc] 66) := heap_setCell_same _ _ 9 _ _ (.func (.func 79) #[] #[.pointer (some ⟨w1.heap.size + 1 + 1 + 1 + 1 + 1 + 1 + 1 + 1 + 1 + 1 + 1 + 1, 0, none⟩)]) z9
  have HZ10 := hide (bz_set (unhide HZ9) 9 (.func (.func 79) #[] #[.pointer (some ⟨w1.heap.size + 1 + 1 + 1 + 1 + 1 + 1 + 1 + 1 + 1 + 1 + 1 + 1, 0, none⟩)]))
  clear z9 HZ9
  generalize World.setCell _ ⟨w2.heap.size, 9, none⟩ (.func (.func 79) #[] #[.pointer (some ⟨w1.heap.size + 1 + 1 + 1 + 1 + 1 + 1 + 1 + 1 + 1 + 1 + 1 + 1, 0, none⟩)]) = Z10 at z10 HZ10 ⊢
  rw [st_func (j := 10) _ _ _ z10 (by simp)]
  try rw [Result.andThen_ok]
  try dsimp only
  have z11 : (World.setCell Z10 ⟨w2.heap.size, 10, none⟩ (.func (.func 55) #[] #[])).heap[w2.heap.size]? = some (.cells #[.func (.func 51) #[] #[], .func (.func 77) #[] #[.pointer (some ⟨w1.heap.size + 1 + 1 + 1 + 1 + 1 + 1, 0, none⟩)], .func (.func 53) #[] #[], .func (.func 77) #[] #[.pointer (some ⟨w1.heap.size + 1 + 1 + 1 + 1 + 1 + 1 + 1 + 1, 0, none⟩)], .func (.func 53) #[] #[], .func (.func 77) #[] #[.pointer (some ⟨w1.heap.size + 1 + 1 + 1 + 1 + 1 + 1 + 1 + 1 + 1 + 1, 0, none⟩)], .func (.func 53) #[] #[], .func (.func 79) #[] #[.pointer (some ⟨w1.heap.size + 1 + 1 + 1 + 1 + 1 + 1 + 1 + 1 + 1 + 1 + 1, 0, none⟩)], .func (.func 53) #[] #[], .func (.func 79) #[] #[.pointer (some ⟨w1.heap.size + 1 + 1 + 1 + 1 + 1 + 1 + 1 + 1 + 1 + 1 + 1 + 1, 0, none⟩)], .func (.func 55) #[] #[], .nilFunc, .nilFunc, .nilFunc, .nilFunc, .nilFunc, .nilFunc, .nilFunc, .nilFunc, .nilFunc, .nilFunc, .nilFunc] 66) := heap_setCell_same _ _ 10 _ _ (.func (.func 55) #[] #[]) z10
  have HZ11 := hide (bz_set (unhide HZ10) 10 (.func (.func 55) #[] #[]))
  clear z10 HZ10
  generalize World.setCell _ ⟨w2.heap.size, 10, none⟩ (.func (.func 55) #[] #[]) = Z11 at z11 HZ11 ⊢
  rw [st_func (j := 11) _ _ _ z11 (by simp)]
  try rw [Result.andThen_ok]
  try dsimp only
  have z12 : (World.setCell Z11 ⟨w2.heap.size, 11, none⟩ (.func (.func 75) #[] #[.pointer (some ⟨w1.heap.size + 1 + 1 + 1 + 1 + 1, 0, none⟩)])).heap[w2.heap.size]? = some (.cells #[.func (.func 51) #[] #[], .func (.func 77) #[] #[.pointer (some ⟨w1.heap.size + 1 + 1 + 1 + 1 + 1 + 1, 0, none⟩)], .func (.func 53) #[] #[], .func (.func 77) #[] #[.pointer (some ⟨w1.heap.size + 1 + 1 + 1 + 1 + 1 + 1 + 1 + 1, 0, none⟩)], .func (.func 53) #[] #[], .func (.func 77) #[] #[.pointer (some ⟨w1.heap.size + 1 + 1 + 1 + 1 + 1 + 1 + 1 + 1 + 1 + 1, 0, none⟩)], .func (.func 53) #[] #[], .func (.func 79) #[] #[.pointer (some ⟨w1.heap.size + 1 + 1 + 1 + 1 + 1 + 1 + 1 + 1 + 1 + 1 + 1, 0, none⟩)], .func (.func 53) #[] #[], .func (.func 79) #[] #[.pointer (some ⟨w1.heap.size + 1 + 1 + 1 + 1 + 1 + 1 + 1 + 1 + 1 + 1 + 1 + 1, 0, none⟩)], .func (.func 55) #[] #[], .func (.func 75) #[] #[.pointer (some ⟨w1.heap.size + 1 + 1 + 1 + 1 + 1, 0, none⟩)], .nilFunc, .nilFunc, .nilFunc, .nilFunc, .nilFunc, .nilFunc, .nilFunc, .nilFunc, .nilFunc, .nilFunc] 66) := heap_setCell_same _ _ 11 _ _ (.func (.func 75) #[] #[.pointer (some ⟨w1.heap.size + 1 + 1 + 1 + 1 + 1, 0, none⟩)]) z11
  have HZ12 := hide (bz_set (unhide HZ11) 11 (.func (.func 75) #[] #[.pointer (some ⟨w1.heap.size + 1 + 1 + 1 + 1 + 1, 0, none⟩)]))
  clear z11 HZ11
  generalize World.setCell _ ⟨w2.heap.size, 11, none⟩ (.func (.func 75) #[] #[.pointer (some ⟨w1.heap.size + 1 + 1 + 1 + 1 + 1, 0, none⟩)]) = Z12 at z12 HZ12 ⊢
  rw [st_func (j := 12) _ _ _ z12 (by simp)]
  try rw [Result.andThen_ok]
  try dsimp only
  have z13 : (World.setCell Z12 ⟨w2.heap.size, 12, none⟩ (.func (.func 55) #[] #[])).heap[w2.heap.size]? = some (.cells #[.func (.func 51) #[] #[], .func (.func 77) #[] #[.pointer (some ⟨w1.heap.size + 1 + 1 + 1 + 1 + 1 + 1, 0, none⟩)], .func (.func 53) #[] #[], .func (.func 77) #[] #[.pointer (some ⟨w1.heap.size + 1 + 1 + 1 + 1 + 1 + 1 + 1 + 1, 0, none⟩)], .func (.func 53) #[] #[], .func (.func 77) #[] #[.pointer (some ⟨w1.heap.size + 1 + 1 + 1 + 1 + 1 + 1 + 1 + 1 + 1 + 1, 0, none⟩)], .func (.func 53) #[] #[], .func (.func 79) #[] #[.pointer (some ⟨w1.heap.size + 1 + 1 + 1 + 1 + 1 + 1 + 1 + 1 + 1 + 1 + 1, 0, none⟩)], .func (.func 53) #[] #[], .func (.func 79) #[] #[.pointer (some ⟨w1.heap.size + 1 + 1 + 1 + 1 + 1 + 1 + 1 + 1 + 1 + 1 + 1 + 1, 0, none⟩)], .func (.func 55) #[] #[], .func (.func 75) #[] #[.pointer (some ⟨w1.heap.size + 1 + 1 + 1 + 1 + 1, 0, none⟩)], .func (.func 55) #[] #[], .nilFunc, .nilFunc, .nilFunc, .nilFunc, .nilFunc, .nilFunc, .nilFunc, .nilFunc, .nilFunc] 66) := heap_setCell_same _ _ 12 _ _ (.func (.func 55) #[] #[]) z12
  have HZ13 := hide (bz_set (unhide HZ12) 12 (.func (.func 55) #[] #[]))
  clear z12 HZ12
  generalize World.setCell _ ⟨w2.heap.size, 12, none⟩ (.func (.func 55) #[] #[]) = Z13 at z13 HZ13 ⊢
  rw [st_func (j := 13) _ _ _ z13 (by simp)]
  try rw [Result.andThen_ok]
  try dsimp only
  have z14 : (World.setCell Z13 ⟨w2.heap.size, 13, none⟩ (.func (.func 75) #[] #[.pointer (some ⟨w1.heap.size + 1 + 1 + 1 + 1 + 1, 0, none⟩)])).heap[w2.heap.size]? = some (.cells #[.func (.func 51) #[] #[], .func (.func 77) #[] #[.pointer (some ⟨w1.heap.size + 1 + 1 + 1 + 1 + 1 + 1, 0, none⟩)], .func (.func 53) #[] #[], .func (.func 77) #[] #[.pointer (some ⟨w1.heap.size + 1 + 1 + 1 + 1 + 1 + 1 + 1 + 1, 0, none⟩)], .func (.func 53) #[] #[], .func (.func 77) #[] #[.pointer (some ⟨w1.heap.size + 1 + 1 + 1 + 1 + 1 + 1 + 1 + 1 + 1 + 1, 0, none⟩)], .func (.func 53) #[] #[], .func (.func 79) #[] #[.pointer (some ⟨w1.heap.size + 1 + 1 + 1 + 1 + 1 + 1 + 1 + 1 + 1 + 1 + 1, 0, none⟩)], .func (.func 53) #[] #[], .func (.func 79) #[] #[.pointer (some ⟨w1.heap.size + 1 + 1 + 1 + 1 + 1 + 1 + 1 + 1 + 1 + 1 + 1 + 1, 0, none⟩)], .func (.func 55) #[] #[], .func (.func 75) #[] #[.pointer (some ⟨w1.heap.size + 1 + 1 + 1 + 1 + 1, 0, none⟩)], .func (.func 55) #[] #[], .func (.func 75) #[] #[.pointer (some ⟨w1.heap.size + 1 + 1 + 1 + 1 + 1, 0, none⟩)], .nilFunc, .nilFunc, .nilFunc, .nilFunc, .nilFunc, .nilFunc, .nilFunc, .nilFunc] 66) := heap_setCell_same _ _ 13 _ _ (.func (.func 75) #[] #[.pointer (some ⟨w1.heap.size + 1 + 1 + 1 + 1 + 1, 0, none⟩)]) z13
  have HZ14 := hide (bz_set (unhide HZ13) 13 (.func (.func 75) #[] #[.pointer (some ⟨w1.heap.size + 1 + 1 + 1 + 1 + 1, 0, none⟩)]))
  clear z13 HZ13
  generalize World.setCell _ ⟨w2.heap.size, 13, none⟩ (.func (.func 75) #[] #[.pointer (some ⟨w1.heap.size + 1 + 1 + 1 + 1 + 1, 0, none⟩)]) = Z14 at z14 HZ14 ⊢
  rw [st_func (j := 14) _ _ _ z14 (by simp)]
  try rw [Result.andThen_ok]
  try dsimp only
  have z15 : (World.setCell Z14 ⟨w2.heap.size, 14, none⟩ (.func (.func 55) #[] #[])).heap[w2.heap.size]? = some (.cells #[.func (.func 51) #[] #[], .func (.func 77) #[] #[.pointer (some ⟨w1.heap.size + 1 + 1 + 1 + 1 + 1 + 1, 0, none⟩)], .func (.func 53) #[] #[], .func (.func 77) #[] #[.pointer (some ⟨w1.heap.size + 1 + 1 + 1 + 1 + 1 + 1 + 1 + 1, 0, none⟩)], .func (.func 53) #[] #[], .func (.func 77) #[] #[.pointer (some ⟨w1.heap.size + 1 + 1 + 1 + 1 + 1 + 1 + 1 + 1 + 1 + 1, 0, none⟩)], .func (.func 53) #[] #[], .func (.func 79) #[] #[.pointer (some ⟨w1.heap.size + 1 + 1 + 1 + 1 + 1 + 1 + 1 + 1 + 1 + 1 + 1, 0, none⟩)], .func (.func 53) #[] #[], .func (.func 79) #[] #[.pointer (some ⟨w1.heap.size + 1 + 1 + 1 + 1 + 1 + 1 + 1 + 1 + 1 + 1 + 1 + 1, 0, none⟩)], .func (.func 55) #[] #[], .func (.func 75) #[] #[.pointer (some ⟨w1.heap.size + 1 + 1 + 1 + 1 + 1, 0, none⟩)], .func (.func 55) #[] #[], .func (.func 75) #[] #[.pointer (some ⟨w1.heap.size + 1 + 1 + 1 + 1 + 1, 0, none⟩)], .func (.func 55) #[] #[], .nilFunc, .nilFunc, .nilFunc, .nilFunc, .nilFunc, .nilFunc, .nilFunc] 66) := heap_setCell_same _ _ 14 _ _ (.func (.func 55) #[] #[]) z14
  have HZ15 := hide (bz_set (unhide HZ14) 14 (.func (.func 55) #[] #[]))
  clear z14 HZ14
  generalize World.setCell _ ⟨w2.heap.size, 14, none⟩ (.func (.func 55) #[] #[]) = Z15 at z15 HZ15 ⊢
  rw [st_func (j := 15) _ _ _ z15 (by simp)]
  try rw [Result.andThen_ok]
  try dsimp only
  have z16 : (World.setCell Z15 ⟨w2.heap.size, 15, none⟩ (.func (.func 75) #[] #[.pointer (some ⟨w1.heap.size + 1 + 1 + 1, 0, none⟩)])).heap[w2.heap.size]? = some (.cells #[.func (.func 51) #[] #[], .func (.func 77) #[] #[.pointer (some ⟨w1.heap.size + 1 + 1 + 1 + 1 + 1 + 1, 0, none⟩)], .func (.func 53) #[] #[], .func (.func 77) #[] #[.pointer (some ⟨w1.heap.size + 1 + 1 + 1 + 1 + 1 + 1 + 1 + 1, 0, none⟩)], .func (.func 53) #[] #[], .func (.func 77) #[] #[.pointer (some ⟨w1.heap.size + 1 + 1 + 1 + 1 + 1 + 1 + 1 + 1 + 1 + 1, 0, none⟩)], .func (.func 53) #[] #[], .func (.func 79) #[] #[.pointer (some ⟨w1.heap.size + 1 + 1 + 1 + 1 + 1 + 1 + 1 + 1 + 1 + 1 + 1, 0, none⟩)], .func (.func 53) #[] #[], .func (.func 79) #[] #[.pointer (some ⟨w1.heap.size + 1 + 1 + 1 + 1 + 1 + 1 + 1 + 1 + 1 + 1 + 1 + 1, 0, none⟩)], .func (.func 55) #[] #[], .func (.func 75) #[] #[.pointer (some ⟨w1.heap.size + 1 + 1 + 1 + 1 + 1, 0, none⟩)], .func (.func 55) #[] #[], .func (.func 75) #[] #[.pointer (some ⟨w1.heap.size + 1 + 1 + 1 + 1 + 1, 0, none⟩)], .func (.func 55) #[] #[], .func (.func 75) #[] #[.pointer (some ⟨w1.heap.size + 1 + 1 + 1, 0, none⟩)], .nilFunc, .nilFunc, .nilFunc, .nilFunc, .nilFunc, .nilFunc] 66) := heap_setCell_same _ _ 15 _ _ (.func (.func 75) #[] #[.pointer (some ⟨w1.heap.size + 1 + 1 + 1, 0, none⟩)]) z15
  have HZ16 := hide (bz_set (unhide HZ15) 15 (.func (.func 75) #[] #[.pointer (some ⟨w1.heap.size + 1 + 1 + 1, 0, none⟩)]))
  clear z15 HZ15
  generalize World.setCell _ ⟨w2.heap.size, 15, none⟩ (.func (.func 75) #[] #[.pointer (some ⟨w1.heap.size + 1 + 1 + 1, 0, none⟩)]) = Z16 at z16 HZ16 ⊢
  rw [st_func (j := 16) _ _ _ z16 (by simp)]
  try rw [Result.andThen_ok]
  try dsimp only
  have z17 : (World.setCell Z16 ⟨w2.heap.size, 16, none⟩ (.func (.func 55) #[] #[])).heap[w2.heap.size]? = some (.cells #[.func (.func 51) #[] #[], .func (.func 77) #[] #[.pointer (some ⟨w1.heap.size + 1 + 1 + 1 + 1 + 1 + 1, 0, none⟩)], .func (.func 53) #[] #[], .func (.func 77) #[] #[.pointer (some ⟨w1.heap.size + 1 + 1 + 1 + 1 + 1 + 1 + 1 + 1, 0, none⟩)], .func (.func 53) #[] #[], .func (.func 77) #[] #[.pointer (some ⟨w1.heap.size + 1 + 1 + 1 + 1 + 1 + 1 + 1 + 1 + 1 + 1, 0, none⟩)], .func (.func 53) #[] #[], .func (.func 79) #[] #[.pointer (some ⟨w1.heap.size + 1 + 1 + 1 + 1 + 1 + 1 + 1 + 1 + 1 + 1 + 1, 0, none⟩)], .func (.func 53) #[] #[], .func (.func 79) #[] #[.pointer (some ⟨w1.heap.size + 1 + 1 + 1 + 1 + 1 + 1 + 1 + 1 + 1 + 1 + 1 + 1, 0, none⟩)], .func (.func 55) #[] #[], .func (.func 75) #[] #[.pointer (some ⟨w1.heap.size + 1 + 1 + 1 + 1 + 1, 0, none⟩)], .func (.func 55) #[] #[], .func (.func 75) #[] #[.pointer (some ⟨w1.heap.size + 1 + 1 + 1 + 1 + 1, 0, none⟩)], .func (.func 55) #[] #[], .func (.func 75) #[] #[.pointer (some ⟨w1.heap.size + 1 + 1 + 1, 0, none⟩)], .func (.func 55) #[] #[], .nilFunc, .nilFunc, .nilFunc, .nilFunc, .nilFunc] 66) := heap_setCell_same _ _ 16 _ _ (.func (.func 55) #[] #[]) z16
  have HZ17 := hide (bz_set (unhide HZ16) 16 (.func (.func 55) #[] #[]))
  clear z16 HZ16
  generalize World.setCell _ ⟨w2.heap.size, 16, none⟩ (.func (.func 55) #[] #[]) = Z17 at z17 HZ17 ⊢
  rw [st_func (j := 17) _ _ _ z17 (by simp)]
  try rw [Result.andThen_ok]
  try dsimp only
  have z18 : (World.setCell Z17 ⟨w2.heap.size, 17, none⟩ (.func (.func 75) #[] #[.pointer (some ⟨w1.heap.size + 1 + 1 + 1, 0, none⟩)])).heap[w2.heap.size]? = some (.cells #[.func (.func 51) #[] #[], .func (.func 77) #[] #[.pointer (some ⟨w1.heap.size + 1 + 1 + 1 + 1 + 1 + 1, 0, none⟩)], .func (.func 53) #[] #[], .func (.func 77) #[] #[.pointer (some ⟨w1.heap.size + 1 + 1 + 1 + 1 + 1 + 1 + 1 + 1, 0, none⟩)], .func (.func 53) #[] #[], .func (.func 77) #[] #[.pointer (some ⟨w1.heap.size + 1 + 1 + 1 + 1 + 1 + 1 + 1 + 1 + 1 + 1, 0, none⟩)], .func (.func 53) #[] #[], .func (.func 79) #[] #[.pointer (some ⟨w1.heap.size + 1 + 1 + 1 + 1 + 1 + 1 + 1 + 1 + 1 + 1 + 1, 0, none⟩)], .func (.func 53) #[] #[], .func (.func 79) #[] #[.pointer (some ⟨w1.heap.size + 1 + 1 + 1 + 1 + 1 + 1 + 1 + 1 + 1 + 1 + 1 + 1, 0, none⟩)], .func (.func 55) #[] #[], .func (.func 75) #[] #[.pointer (some ⟨w1.heap.size + 1 + 1 + 1 + 1 + 1, 0, none⟩)], .func (.func 55) #[] #[], .func (.func 75) #[] #[.pointer (some ⟨w1.heap.size + 1 + 1 + 1 + 1 + 1, 0, none⟩)], .func (.func 55) #[] #[], .func (.func 75) #[] #[.pointer (some ⟨w1.heap.size + 1 + 1 + 1, 0, none⟩)], .func (.func 55) #[] #[], .func (.func 75) #[] #[.pointer (some ⟨w1.heap.size + 1 + 1 + 1, 0, none⟩)], .nilFunc, .nilFunc, .nilFunc, .nilFunc] 66) := heap_setCell_same _ _ 17 _ _ (.func (.func 75) #[] #[.pointer (some ⟨w1.heap.size + 1 + 1 + 1, 0, none⟩)]) z17
  have HZ18 := hide (bz_set (unhide HZ17) 17 (.func (.func 75) #[] #[.pointer (some ⟨w1.heap.size + 1 + 1 + 1, 0, none⟩)]))
  clear z17 HZ17
  generalize World.setCell _ ⟨w2.heap.size, 17, none⟩ (.func (.func 75) #[] #[.pointer (some ⟨w1.heap.size + 1 + 1 + 1, 0, none⟩)]) = Z18 at z18 HZ18 ⊢
  rw [st_func (j := 18) _ _ _ z18 (by simp)]
  try rw [Result.andThen_ok]
  try dsimp only
  have z19 : (World.setCell Z18 ⟨w2.heap.size, 18, none⟩ (.func (.func 56) #[] #[])).heap[w2.heap.size]? = some (.cells #[.func (.func 51) #[] #[], .func (.func 77) #[] #[.pointer (some ⟨w1.heap.size + 1 + 1 + 1 + 1 + 1 + 1, 0, none⟩)], .func (.func 53) #[] #[], .func (.func 77) #[] #[.pointer (some ⟨w1.heap.size + 1 + 1 + 1 + 1 + 1 + 1 + 1 + 1, 0, none⟩)], .func (.func 53) #[] #[], .func (.func 77) #[] #[.pointer (some ⟨w1.heap.size + 1 + 1 + 1 + 1 + 1 + 1 + 1 + 1 + 1 + 1, 0, none⟩)], .func (.func 53) #[] #[], .func (.func 79) #[] #[.pointer (some ⟨w1.heap.size + 1 + 1 + 1 + 1 + 1 + 1 + 1 + 1 + 1 + 1 + 1, 0, none⟩)], .func (.func 53) #[] #[], .func (.func 79) #[] #[.pointer (some ⟨w1.heap.size + 1 + 1 + 1 + 1 + 1 + 1 + 1 + 1 + 1 + 1 + 1 + 1, 0, none⟩)], .func (.func 55) #[] #[], .func (.func 75) #[] #[.pointer (some ⟨w1.heap.size + 1 + 1 + 1 + 1 + 1, 0, none⟩)], .func (.func 55) #[] #[], .func (.func 75) #[] #[.pointer (some ⟨w1.heap.size + 1 + 1 + 1 + 1 + 1, 0, none⟩)], .func (.func 55) #[] #[], .func (.func 75) #[] #[.pointer (some ⟨w1.heap.size + 1 + 1 + 1, 0, none⟩)], .func (.func 55) #[] #[], .func (.func 75) #[] #[.pointer (some ⟨w1.heap.size + 1 + 1 + 1, 0, none⟩)], .func (.func 56) #[] #[], .nilFunc, .nilFunc, .nilFunc] 66) := heap_setCell_same _ _ 18 _ _ (.func (.func 56) #[] #[]) z18
  have HZ19 := hide (bz_set (unhide HZ18) 18 (.func (.func 56) #[] #[]))
  clear z18 HZ18
  generalize World.setCell _ ⟨w2.heap.size, 18, none⟩ (.func (.func 56) #[] #[]) = Z19 at z19 HZ19 ⊢
  rw [st_func (j := 19) _ _ _ z19 (by simp)]
  try rw [Result.andThen_ok]
  try dsimp only
  have z20 : (World.setCell Z19 ⟨w2.heap.size, 19, none⟩ (.func (.func 77) #[] #[.pointer (some ⟨w1.heap.size + 1 + 1 + 1 + 1 + 1 + 1 + 1 + 1 + 1 + 1 + 1 + 1 + 1, 0, none⟩)])).heap[w2.heap.size]? = some (.cells #[.func (.func 51) #[] #[], .func (.func 77) #[] #[.pointer (some ⟨w1.heap.size + 1 + 1 + 1 + 1 + 1 + 1, 0, none⟩)], .func (.func 53) #[] #[], .func (.func 77) #[] #[.pointer (some ⟨w1.heap.size + 1 + 1 + 1 + 1 + 1 + 1 + 1 + 1, 0, none⟩)], .func (.func 53) #[] #[], .func (.func 77) #[] #[.pointer (some ⟨w1.heap.size + 1 + 1 + 1 + 1 + 1 + 1 + 1 + 1 + 1 + 1, 0, none⟩)], .func (.func 53) #[] #[], .func (.func 79) #[] #[.pointer (some ⟨w1.heap.size + 1 + 1 + 1 + 1 + 1 + 1 + 1 + 1 + 1 + 1 + 1, 0, none⟩)], .func (.func 53) #[] #[], .func (.func 79) #[] #[.pointer (some ⟨w1.heap.size + 1 + 1 + 1 + 1 + 1 + 1 + 1 + 1 + 1 + 1 + 1 + 1, 0, none⟩)], .func (.func 55) #[] #[], .func (.func 75) #[] #[.pointer (some ⟨w1.heap.size + 1 + 1 + 1 + 1 + 1, 0, none⟩)], .func (.func 55) #[] #[], .func (.func 75) #[] #[.pointer (some ⟨w1.heap.size + 1 + 1 + 1 + 1 + 1, 0, none⟩)], .func (.func 55) #[] #[], .func (.func 75) #[] #[.pointer (some ⟨w1.heap.size + 1 + 1 + 1, 0, none⟩)], .func (.func 55) #[] #[], .func (.func 75) #[] #[.pointer (some ⟨w1.heap.size + 1 + 1 + 1, 0, none⟩)], .func (.func 56) #[] #[], .func (.func 77) #[] #[.pointer (some ⟨w1.heap.size + 1 + 1 + 1 + 1 + 1 + 1 + 1 + 1 + 1 + 1 + 1 + 1 + 1, 0, none⟩)], .nilFunc, .nilFunc] 66) := heap_setCell_same _ _ 19 _ _ (.func (.func 77) #[] #[.pointer (some ⟨w1.heap.size + 1 + 1 + 1 + 1 + 1 + 1 + 1 + 1 + 1 + 1 + 1 + 1 + 1, 0, none⟩)]) z19
  have HZ20 := hide (bz_set (unhide HZ19) 19 (.func (.func 77) #[] #[.pointer (some ⟨w1.heap.size + 1 + 1 + 1 + 1 + 1 + 1 + 1 + 1 + 1 + 1 + 1 + 1 + 1, 0, none⟩)]))
  clear z19 HZ19
  generalize World.setCell _ ⟨w2.heap.size, 19, none⟩ (.func (.func 77) #[] #[.pointer (some ⟨w1.heap.size + 1 + 1 + 1 + 1 + 1 + 1 + 1 + 1 + 1 + 1 + 1 + 1 + 1, 0, none⟩)]) = Z20 at z20 HZ20 ⊢
  rw [st_func (j := 20) _ _ _ z20 (by simp)]
  try rw [Result.andThen_ok]
  try dsimp only
  have z21 : (World.setCell Z20 ⟨w2.heap.size, 20, none⟩ (.func (.func 57) #[] #[])).heap[w2.heap.size]? = some (.cells #[.func (.func 51) #[] #[], .func (.func 77) #[] #[.pointer (some ⟨w1.heap.size + 1 + 1 + 1 + 1 + 1 + 1, 0, none⟩)], .func (.func 53) #[] #[], .func (.func 77) #[] #[.pointer (some ⟨w1.heap.size + 1 + 1 + 1 + 1 + 1 + 1 + 1 + 1, 0, none⟩)], .func (.func 53) #[] #[], .func (.func 77) #[] #[.pointer (some ⟨w1.heap.size + 1 + 1 + 1 + 1 + 1 + 1 + 1 + 1 + 1 + 1, 0, none⟩)], .func (.func 53) #[] #[], .func (.func 79) #[] #[.pointer (some ⟨w1.heap.size + 1 + 1 + 1 + 1 + 1 + 1 + 1 + 1 + 1 + 1 + 1, 0, none⟩)], .func (.func 53) #[] #[], .func (.func 79) #[] #[.pointer (some ⟨w1.heap.size + 1 + 1 + 1 + 1 + 1 + 1 + 1 + 1 + 1 + 1 + 1 + 1, 0, none⟩)], .func (.func 55) #[] #[], .func (.func 75) #[] #[.pointer (some ⟨w1.heap.size + 1 + 1 + 1 + 1 + 1, 0, none⟩)], .func (.func 55) #[] #[], .func (.func 75) #[] #[.pointer (some ⟨w1.heap.size + 1 + 1 + 1 + 1 + 1, 0, none⟩)], .func (.func 55) #[] #[], .func (.func 75) #[] #[.pointer (some ⟨w1.heap.size + 1 + 1 + 1, 0, none⟩)], .func (.func 55) #[] #[], .func (.func 75) #[] #[.pointer (some ⟨w1.heap.size + 1 + 1 + 1, 0, none⟩)], .func (.func 56) #[] #[], .func (.func 77) #[] #[.pointer (some ⟨w1.heap.size + 1 + 1 + 1 + 1 + 1 + 1 + 1 + 1 + 1 + 1 + 1 + 1 + 1, 0, none⟩)], .func (.func 57) #[] #[], .nilFunc] 66) := heap_setCell_same _ _ 20 _ _ (.func (.func 57) #[] #[]) z20
  have HZ21 := hide (bz_set (unhide HZ20) 20 (.func (.func 57) #[] #[]))
  clear z20 HZ20
  generalize World.setCell _ ⟨w2.heap.size, 20, none⟩ (.func (.func 57) #[] #[]) = Z21 at z21 HZ21 ⊢
  rw [st_func (j := 21) _ _ _ z21 (by simp)]
  try rw [Result.andThen_ok]
  try dsimp only
  have z22 : (World.setCell Z21 ⟨w2.heap.size, 21, none⟩ (.func (.func 77) #[] #[.pointer (some ⟨w1.heap.size + 1 + 1 + 1 + 1 + 1 + 1 + 1 + 1 + 1 + 1 + 1 + 1 + 1 + 1, 0, none⟩)])).heap[w2.heap.size]? = some (.cells #[.func (.func 51) #[] #[], .func (.func 77) #[] #[.pointer (some ⟨w1.heap.size + 1 + 1 + 1 + 1 + 1 + 1, 0, none⟩)], .func (.func 53) #[] #[], .func (.func 77) #[] #[.pointer (some ⟨w1.heap.size + 1 + 1 + 1 + 1 + 1 + 1 + 1 + 1, 0, none⟩)], .func (.func 53) #[] #[], .func (.func 77) #[] #[.pointer (some ⟨w1.heap.size + 1 + 1 + 1 + 1 + 1 + 1 + 1 + 1 + 1 + 1, 0, none⟩)], .func (.func 53) #[] #[], .func (.func 79) #[] #[.pointer (some ⟨w1.heap.size + 1 + 1 + 1 + 1 + 1 + 1 + 1 + 1 + 1 + 1 + 1, 0, none⟩)], .func (.func 53) #[] #[], .func (.func 79) #[] #[.pointer (some ⟨w1.heap.size + 1 + 1 + 1 + 1 + 1 + 1 + 1 + 1 + 1 + 1 + 1 + 1, 0, none⟩)], .func (.func 55) #[] #[], .func (.func 75) #[] #[.pointer (some ⟨w1.heap.size + 1 + 1 + 1 + 1 + 1, 0, none⟩)], .func (.func 55) #[] #[], .func (.func 75) #[] #[.pointer (some ⟨w1.heap.size + 1 + 1 + 1 + 1 + 1, 0, none⟩)], .func (.func 55) #[] #[], .func (.func 75) #[] #[.pointer (some ⟨w1.heap.size + 1 + 1 + 1, 0, none⟩)], .func (.func 55) #[] #[], .func (.func 75) #[] #[.pointer (some ⟨w1.heap.size + 1 + 1 + 1, 0, none⟩)], .func (.func 56) #[] #[], .func (.func 77) #[] #[.pointer (some ⟨w1.heap.size + 1 + 1 + 1 + 1 + 1 + 1 + 1 + 1 + 1 + 1 + 1 + 1 + 1, 0, none⟩)], .func (.func 57) #[] #[], .func (.func 77) #[] #[.pointer (some ⟨w1.heap.size + 1 + 1 + 1 + 1 + 1 + 1 + 1 + 1 + 1 + 1 + 1 + 1 + 1 + 1, 0, none⟩)]] 66) := heap_setCell_same _ _ 21 _ _ (.func (.func 77) #[] #[.pointer (some ⟨w1.heap.size + 1 + 1 + 1 + 1 + 1 + 1 + 1 + 1 + 1 + 1 + 1 + 1 + 1 + 1, 0, none⟩)]) z21
  have HZ22 := hide (bz_set (unhide HZ21) 21 (.func (.func 77) #[] #[.pointer (some ⟨w1.heap.size + 1 + 1 + 1 + 1 + 1 + 1 + 1 + 1 + 1 + 1 + 1 + 1 + 1 + 1, 0, none⟩)]))
  clear z21 HZ21
  generalize World.setCell _ ⟨w2.heap.size, 21, none⟩ (.func (.func 77) #[] #[.pointer (some ⟨w1.heap.size + 1 + 1 + 1 + 1 + 1 + 1 + 1 + 1 + 1 + 1 + 1 + 1 + 1 + 1, 0, none⟩)]) = Z22 at z22 HZ22 ⊢
  have zz : Z22.heap[w2.heap.size]? = some (.cells #[.func (.func 51) #[] #[], .func (.func 77) #[] #[.pointer (some ⟨w1.heap.size + 1 + 1 + 1 + 1 + 1 + 1, 0, none⟩)], .func (.func 53) #[] #[], .func (.func 77) #[] #[.pointer (some ⟨w1.heap.size + 1 + 1 + 1 + 1 + 1 + 1 + 1 + 1, 0, none⟩)], .func (.func 53) #[] #[], .func (.func 77) #[] #[.pointer (some ⟨w1.heap.size + 1 + 1 + 1 + 1 + 1 + 1 + 1 + 1 + 1 + 1, 0, none⟩)], .func (.func 53) #[] #[], .func (.func 79) #[] #[.pointer (some ⟨w1.heap.size + 1 + 1 + 1 + 1 + 1 + 1 + 1 + 1 + 1 + 1 + 1, 0, none⟩)], .func (.func 53) #[] #[], .func (.func 79) #[] #[.pointer (some ⟨w1.heap.size + 1 + 1 + 1 + 1 + 1 + 1 + 1 + 1 + 1 + 1 + 1 + 1, 0, none⟩)], .func (.func 55) #[] #[], .func (.func 75) #[] #[.pointer (some ⟨w1.heap.size + 1 + 1 + 1 + 1 + 1, 0, none⟩)], .func (.func 55) #[] #[], .func (.func 75) #[] #[.pointer (some ⟨w1.heap.size + 1 + 1 + 1 + 1 + 1, 0, none⟩)], .func (.func 55) #[] #[], .func (.func 75) #[] #[.pointer (some ⟨w1.heap.size + 1 + 1 + 1, 0, none⟩)], .func (.func 55) #[] #[], .func (.func 75) #[] #[.pointer (some ⟨w1.heap.size + 1 + 1 + 1, 0, none⟩)], .func (.func 56) #[] #[], .func (.func 77) #[] #[.pointer (some ⟨w1.heap.size + 1 + 1 + 1 + 1 + 1 + 1 + 1 + 1 + 1 + 1 + 1 + 1 + 1, 0, none⟩)], .func (.func 57) #[] #[], .func (.func 77) #[] #[.pointer (some ⟨w1.heap.size + 1 + 1 + 1 + 1 + 1 + 1 + 1 + 1 + 1 + 1 + 1 + 1 + 1 + 1, 0, none⟩)]] 66) := z22
  have HZZ := hide zz
  have hzb := unhide HZ22
  have hzs := hzb.2
  have hlt2 : w1.heap.size < w2.heap.size := by omega
  have q := (hzb.1.block w1.heap.size hlt2).trans (unhide HQ)
  clear z22 zz
  have q0 := cell_row _ _ 0 _ _ _ q
  have q1 := cell_row _ _ 1 _ _ _ q
  have q2 := cell_row _ _ 2 _ _ _ q
  have q3 := cell_row _ _ 3 _ _ _ q
  have q4 := cell_row _ _ 4 _ _ _ q
  have q5 := cell_row _ _ 5 _ _ _ q
  have q6 := cell_row _ _ 6 _ _ _ q
  have q7 := cell_row _ _ 7 _ _ _ q
  have q8 := cell_row _ _ 8 _ _ _ q
  have q9 := cell_row _ _ 9 _ _ _ q
  have q10 := cell_row _ _ 10 _ _ _ q
  have q11 := cell_row _ _ 11 _ _ _ q
  clear hzb q
  have HFA := hide (families_any Z22 bA n0 ao cp)
  unfold nodW at HFA
  gi_wp2_with fail
  refine ⟨trivial, (callsIn_wide.2 (unhide HFA)).mono ?_⟩
  rintro e w3 ⟨rfl, rfl⟩
  clear q0 q1 q2 q3 q4 q5 q6 q7 q8 q9 q10 q11
  gi_wp2_with fail
  have HF : ∀ w5, (Z22.alloc (.cells #[.pointer (some ⟨bA, 0, none⟩)] 24)).alloc (nodeB n0 ao cp) = w5 → Below w.heap.size w w5 ∧ (∀ (l : Nat) (J Jx : World → Prop) (W : World), w5.heap.size ≤ l → l < W.heap.size → Below w5.heap.size w5 W → (∀ A B, J A → Below W.heap.size A B → J B) → (∀ A, J A → ∃ r, A.heap[l]? = some (.loop r)) → (∀ y W1, AX ns os y W1 → J W1 → YieldAt Fence.wide (6 - 1 - 1) Tryz.prog l #[.agg (famC y)] W1 fun e W' => (e = .returned (.bool true) ∧ okX y = true ∧ J W' ∧ Mod (· = l) W1 W') ∨ (e = .returned (.bool false) ∧ okX y = false ∧ Jx W')) → J W → CallsIn Fence.wide (6 - 1) Tryz.prog 58 #[.func (.yield l) #[] #[], .pointer (some ⟨Z22.heap.size + 1, 0, none⟩), .pointer (some ⟨Z22.heap.size, 0, none⟩)] W fun e W' => (∃ v, e = .returned v) ∧ ((famF os (os.length + 5) 0 0 = true ∧ J W') ∨ (famF os (os.length + 5) 0 0 = false ∧ Jx W'))) ∧ w5.heap[w2.heap.size]? = some (.cells #[.func (.func 51) #[] #[], .func (.func 77) #[] #[.pointer (some ⟨w1.heap.size + 1 + 1 + 1 + 1 + 1 + 1, 0, none⟩)], .func (.func 53) #[] #[], .func (.func 77) #[] #[.pointer (some ⟨w1.heap.size + 1 + 1 + 1 + 1 + 1 + 1 + 1 + 1, 0, none⟩)], .func (.func 53) #[] #[], .func (.func 77) #[] #[.pointer (some ⟨w1.heap.size + 1 + 1 + 1 + 1 + 1 + 1 + 1 + 1 + 1 + 1, 0, none⟩)], .func (.func 53) #[] #[], .func (.func 79) #[] #[.pointer (some ⟨w1.heap.size + 1 + 1 + 1 + 1 + 1 + 1 + 1 + 1 + 1 + 1 + 1, 0, none⟩)], .func (.func 53) #[] #[], .func (.func 79) #[] #[.pointer (some ⟨w1.heap.size + 1 + 1 + 1 + 1 + 1 + 1 + 1 + 1 + 1 + 1 + 1 + 1, 0, none⟩)], .func (.func 55) #[] #[], .func (.func 75) #[] #[.pointer (some ⟨w1.heap.size + 1 + 1 + 1 + 1 + 1, 0, none⟩)], .func (.func 55) #[] #[], .func (.func 75) #[] #[.pointer (some ⟨w1.heap.size + 1 + 1 + 1 + 1 + 1, 0, none⟩)], .func (.func 55) #[] #[], .func (.func 75) #[] #[.pointer (some ⟨w1.heap.size + 1 + 1 + 1, 0, none⟩)], .func (.func 55) #[] #[], .func (.func 75) #[] #[.pointer (some ⟨w1.heap.size + 1 + 1 + 1, 0, none⟩)], .func (.func 56) #[] #[], .func (.func 77) #[] #[.pointer (some ⟨w1.heap.size + 1 + 1 + 1 + 1 + 1 + 1 + 1 + 1 + 1 + 1 + 1 + 1 + 1, 0, none⟩)], .func (.func 57) #[] #[], .func (.func 77) #[] #[.pointer (some ⟨w1.heap.size + 1 + 1 + 1 + 1 + 1 + 1 + 1 + 1 + 1 + 1 + 1 + 1 + 1 + 1, 0, none⟩)]] 66) ∧ w5.heap[w.heap.size]? = some (.cells #[.bool false] 4) ∧ Below w2.heap.size w2 w5 ∧ GV w5 := by
    intro w5 hw5
    have hBw : Below w.heap.size w ((Z22.alloc (.cells #[.pointer (some ⟨bA, 0, none⟩)] 24)).alloc (nodeB n0 ao cp)) := by
      have h1 := unhide HB1
      have h2 : Below w.heap.size w w2 := (h1.alloc h1.size _).trans ((unhide HB2).mono (by rw [World.size_alloc]; have := h1.size; omega))
      have h3 := h2.trans ((unhide HZ22).1.mono h2.size)
      exact (h3.alloc h3.size _).alloc (by rw [World.size_alloc]; have := h3.size; omega) _
    have h12 : Below w1.heap.size w1 ((Z22.alloc (.cells #[.pointer (some ⟨bA, 0, none⟩)] 24)).alloc (nodeB n0 ao cp)) := by
      have h2 : Below w1.heap.size w1 w2 := ((Below.refl w1.heap.size w1).alloc (Nat.le_refl _) _).trans ((unhide HB2).mono (by rw [World.size_alloc]; omega))
      have h3 := h2.trans ((unhide HZ22).1.mono h2.size)
      exact (h3.alloc h3.size _).alloc (by rw [World.size_alloc]; have := h3.size; omega) _
    have hzz2 : Below Z22.heap.size Z22 ((Z22.alloc (.cells #[.pointer (some ⟨bA, 0, none⟩)] 24)).alloc (nodeB n0 ao cp)) := ((Below.refl Z22.heap.size Z22).alloc (Nat.le_refl _) _).alloc (by simp) _
    have har5 := (unhide HAR).below hBw
    have hP5 : ((Z22.alloc (.cells #[.pointer (some ⟨bA, 0, none⟩)] 24)).alloc (nodeB n0 ao cp)).cell? ⟨Z22.heap.size, 0, none⟩ = some (.pointer (some ⟨bA, 0, none⟩)) := by
      have h1 : ((Z22.alloc (.cells #[.pointer (some ⟨bA, 0, none⟩)] 24)).alloc (nodeB n0 ao cp)).heap[Z22.heap.size]? = some (.cells #[.pointer (some ⟨bA, 0, none⟩)] 24) := (Below.heap_alloc _ _ _ (by simp)).trans (World.alloc_heap_new Z22 _)
      exact cell_row _ _ 0 _ _ _ h1
    have hT5 : ((Z22.alloc (.cells #[.pointer (some ⟨bA, 0, none⟩)] 24)).alloc (nodeB n0 ao cp)).heap[Z22.heap.size + 1]? = some (nodeB n0 ao cp) := by
      have := World.alloc_heap_new (Z22.alloc (.cells #[.pointer (some ⟨bA, 0, none⟩)] 24)) (nodeB n0 ao cp)
      rwa [World.size_alloc] at this
    have hge : GE ns os ⟨{ n0 with av := .slice ao n0.attrs.length cp }, 0, 0⟩ := by
      refine ⟨⟨n0, o0, unhide HN0, unhide HO0, rfl⟩, ⟨[], ⟨rfl, -1, ?_, rfl⟩, rfl⟩⟩
      obtain ⟨o1, h1, hk1, _⟩ := (unhide HPG).top
      have e1 := unhide HO0
      rw [h1] at e1
      cases e1
      have hup := (unhide HS).alone 0 o0 h1 (.inl hk1)
      have hho : o0.host = -1 := by
        rcases (unhide HS).host 0 o0 h1 with h | ⟨h, _⟩
        · exact h
        · rw [hk1] at h; cases h
      unfold upO
      rw [h1]
      show some (if o0.up = -1 then o0.host else o0.up) = some (-1)
      rw [if_pos hup, hho]
    have hat5 : ((Z22.alloc (.cells #[.pointer (some ⟨bA, 0, none⟩)] 24)).alloc (nodeB n0 ao cp)).ownsRow base 93 4 (.slice ao n0.attrs.length cp) n0.attrs.length (attrRow n0.attrs) := ownsRow_kept (unhide HOWN) (fun k hk => h12.block k ((unhide HOWN).lt k hk).2)
    have hB5 := unhide HZZ
    have h5k : ((Z22.alloc (.cells #[.pointer (some ⟨bA, 0, none⟩)] 24)).alloc (nodeB n0 ao cp)).heap[w2.heap.size]? = some (.cells #[.func (.func 51) #[] #[], .func (.func 77) #[] #[.pointer (some ⟨w1.heap.size + 1 + 1 + 1 + 1 + 1 + 1, 0, none⟩)], .func (.func 53) #[] #[], .func (.func 77) #[] #[.pointer (some ⟨w1.heap.size + 1 + 1 + 1 + 1 + 1 + 1 + 1 + 1, 0, none⟩)], .func (.func 53) #[] #[], .func (.func 77) #[] #[.pointer (some ⟨w1.heap.size + 1 + 1 + 1 + 1 + 1 + 1 + 1 + 1 + 1 + 1, 0, none⟩)], .func (.func 53) #[] #[], .func (.func 79) #[] #[.pointer (some ⟨w1.heap.size + 1 + 1 + 1 + 1 + 1 + 1 + 1 + 1 + 1 + 1 + 1, 0, none⟩)], .func (.func 53) #[] #[], .func (.func 79) #[] #[.pointer (some ⟨w1.heap.size + 1 + 1 + 1 + 1 + 1 + 1 + 1 + 1 + 1 + 1 + 1 + 1, 0, none⟩)], .func (.func 55) #[] #[], .func (.func 75) #[] #[.pointer (some ⟨w1.heap.size + 1 + 1 + 1 + 1 + 1, 0, none⟩)], .func (.func 55) #[] #[], .func (.func 75) #[] #[.pointer (some ⟨w1.heap.size + 1 + 1 + 1 + 1 + 1, 0, none⟩)], .func (.func 55) #[] #[], .func (.func 75) #[] #[.pointer (some ⟨w1.heap.size + 1 + 1 + 1, 0, none⟩)], .func (.func 55) #[] #[], .func (.func 75) #[] #[.pointer (some ⟨w1.heap.size + 1 + 1 + 1, 0, none⟩)], .func (.func 56) #[] #[], .func (.func 77) #[] #[.pointer (some ⟨w1.heap.size + 1 + 1 + 1 + 1 + 1 + 1 + 1 + 1 + 1 + 1 + 1 + 1 + 1, 0, none⟩)], .func (.func 57) #[] #[], .func (.func 77) #[] #[.pointer (some ⟨w1.heap.size + 1 + 1 + 1 + 1 + 1 + 1 + 1 + 1 + 1 + 1 + 1 + 1 + 1 + 1, 0, none⟩)]] 66) := (hzz2.block _ (lt_of_block hB5)).trans hB5
    have h5r : ((Z22.alloc (.cells #[.pointer (some ⟨bA, 0, none⟩)] 24)).alloc (nodeB n0 ao cp)).heap[w.heap.size]? = some (.cells #[.bool false] 4) := (h12.block _ hlt1).trans (unhide HK1)
    have hk25 : Below w2.heap.size w2 ((Z22.alloc (.cells #[.pointer (some ⟨bA, 0, none⟩)] 24)).alloc (nodeB n0 ao cp)) := (unhide HZ22).1.trans (hzz2.mono (unhide HZ22).1.size)
    have hg5 := (unhide HG).below hBw
    have hseq := fun (l : Nat) (J Jx : World → Prop) (W : World) a1 a2 a3 a4 a5 a6 a7 => fams_in har5 (unhide HS) hmax Z22.heap.size (Z22.heap.size + 1) hP5 { n0 with av := .slice ao n0.attrs.length cp } ao cp hT5 rfl hge hat5 (6 - 1) (by omega) l J Jx W a1 a2 a3 a4 a5 a6 a7
    rw [hw5] at hBw h5k h5r hk25 hg5 hseq
    exact ⟨hBw, hseq, h5k, h5r, hk25, hg5⟩
  obtain ⟨w5, hw5⟩ : ∃ w5, (Z22.alloc (.cells #[.pointer (some ⟨bA, 0, none⟩)] 24)).alloc (nodeB n0 ao cp) = w5 := ⟨_, rfl⟩
  obtain ⟨hBw, hseq, h5k, h5r, hk25, hg5⟩ := HF w5 hw5
  clear HF
  rw [hw5]
  rw [hzs] at hseq
  have hlt5 : w.heap.size < w5.heap.size := lt_of_block h5r
  have HKEEP := hide (show Below w2.heap.size w2 w5 from hk25)
  clear hzs hw5 HFA HZZ HZ22
  refine wpIn_rangeFam1 (α := FamX) (s := 6) (lb := #[.pointer (some ⟨w2.heap.size + 1 + 1, 0, none⟩), .pointer (some ⟨w2.heap.size + 1, 0, none⟩)]) (gf := 58) (A := AX ns os) (ok := okX) (all := famF os (os.length + 5) 0 0) rfl (by omega) rfl trivial (enters_of Tryz.func58 (by kernel_rfl) rfl) (fun y => .agg (famC y)) AX.put AX.below hseq (fun W => W.cell? ⟨w.heap.size, 0, none⟩ = some (.bool false) ∧ W.frozen? ⟨w.heap.size, 0, none⟩ = false ∧ Below w.heap.size w W) ?ep (fun y => famB y.x y.a y.cap (.slice y.ka y.l.length y.kc)) ?assign ?body ?done ?stop
  case ep =>
    rintro W l o hl ⟨e1, e2, e3⟩
    have hne : w.heap.size ≠ l := by omega
    exact ⟨(World.cell?_of_block (World.putObj_heap_other hne)).trans e1, (World.frozen?_of_block (World.putObj_heap_other hne)).trans e2, ⟨e3.os, e3.tape, e3.output, by rw [World.putObj_size]; exact e3.size, fun k hk => (World.putObj_heap_other (by omega)).trans (e3.block k hk)⟩⟩
  case assign =>
    intro l y W K hK
    clear hseq h5k
    unfold famB at hK
    unfold famC
    gi_wp2
    exact hK
  case body =>
    intro l y b W hl hlb hWs hob hax hB
    have hfew := AX.few hax (unhide HS) hmax
    have hok := AX.ok hax (unhide HS) (unhide HE) (hg5.below hB)
    obtain ⟨r, hr, hr10⟩ : ∃ r : Nat, roleM y.x.n = (r : Int) ∧ r ≤ 10 := by
      have := roleM_range y.x.n
      exact ⟨(roleM y.x.n).toNat, by omega, by omega⟩
    obtain ⟨cs, v1, v2, hcs, hv1, hv2, ⟨f1, rfl, en1, ct1⟩, ⟨f2, pp, rfl, en2, ct2⟩⟩ := (unhide HKV) r hr10
    unfold kindsV at hcs
    rw [World.size_alloc] at hcs
    injection hcs with hcs
    have hkb := (hB.block _ (lt_of_block h5k)).trans h5k
    rw [hcs] at hkb
    have HKB := hide hkb
    have m1 : W.cell? ⟨w2.heap.size, r * 2, none⟩ = some (.func (.func f1) #[] #[]) := (cell_row _ _ (r * 2) _ _ _ hkb).trans (by rw [Nat.mul_comm]; exact hv1)
    have m2 : W.cell? ⟨w2.heap.size, r * 2 + 1, none⟩ = some (.func (.func f2) #[] #[.pointer (some ⟨pp, 0, none⟩)]) := (cell_row _ _ (r * 2 + 1) _ _ _ hkb).trans (by rw [Nat.mul_comm]; exact hv2)
    have hlt2k : w2.heap.size < W.heap.size := lt_of_block hkb
    have HM1 := hide m1
    have HM2' := hide m2
    have HOB := hide hob
    have HAX := hide hax
    have HOKN := hide hok
    have HEN1 := hide en1
    have HEN2 := hide en2
    have HC1 := hide ct1
    have HC2 := hide ct2
    have HB := hide hB
    have hrz : (r : Int) < 11 := by omega
    have hrz0 : (0 : Int) ≤ (r : Int) := by omega
    have HRO := hide (roleOf_any y.x.n y.a y.cap W)
    rw [hr] at HRO
    unfold nodW at HRO
    have HRR := hide hr
    unfold famB at hob
    have d0 := cell_row _ _ 0 _ _ _ hob
    have d1 := cell_row _ _ 1 _ _ _ hob
    have d2 := cell_row _ _ 2 _ _ _ hob
    have d3 := cell_row _ _ 3 _ _ _ hob
    have d4 := cell_row _ _ 4 _ _ _ hob
    have d5 := cell_row _ _ 5 _ _ _ hob
    have d6 := cell_row _ _ 6 _ _ _ hob
    have d7 := cell_row _ _ 7 _ _ _ hob
    have d8 := cell_row _ _ 8 _ _ _ hob
    have d9 := cell_row _ _ 9 _ _ _ hob
    have d10 := cell_row _ _ 10 _ _ _ hob
    have d11 := cell_row _ _ 11 _ _ _ hob
    have HBWW := hide hBw
    have H5R := hide h5r
    clear hcs hv1 hv2 hkb m1 m2 hob hax hok en1 en2 ct1 ct2 hB hr hseq h5k hBw hk25 hg5
    clear HKV HM2 HOWN HQ HB2 HB1 HK1 HB0 HN HAR HPG HN0 HO0
    simp only [List.setIfInBounds_toArray, List.set_cons_succ, List.set_cons_zero]
    gi_wp2_with fail
    refine ⟨trivial, (CallsIn.inRound l (callsIn_wide.2 (unhide HRO))).mono ?_⟩
    rintro e w6 ⟨rfl, hb6⟩
    have m1 := (hb6.cell (p := ⟨w2.heap.size, r * 2, none⟩) hlt2k).trans (unhide HM1)
    have m2 := (hb6.cell (p := ⟨w2.heap.size, r * 2 + 1, none⟩) hlt2k).trans (unhide HM2')
    have HB6 := hide hb6
    clear hb6 d0 d1 d2 d3 d4 d5 d6 d7 d8 d9 d10 d11 HRO
    gi_wp2_with fail
    have z0 := World.alloc_heap_new w6 (.cells #[.nilFunc, .nilFunc] 65)
    rw [st_func2 (j := 0) _ _ _ z0 (by simp)]
    try rw [Result.andThen_ok]
    try dsimp only
    have z1 : (World.setCell (w6.alloc (.cells #[.nilFunc, .nilFunc] 65)) ⟨w6.heap.size, 0, none⟩ (.func (.func f1) #[] #[])).heap[w6.heap.size]? = some (.cells #[.func (.func f1) #[] #[], .nilFunc] 65) := heap_setCell_same _ _ 0 _ _ _ z0
    have hy1 := (below_new w6 (.cells #[.nilFunc, .nilFunc] 65)).setCell (p := ⟨w6.heap.size, 0, none⟩) (Nat.le_refl _) (.func (.func f1) #[] #[])
    generalize World.setCell (w6.alloc (.cells #[.nilFunc, .nilFunc] 65)) ⟨w6.heap.size, 0, none⟩ (.func (.func f1) #[] #[]) = Y1 at z1 hy1 ⊢
    rw [st_func2 (j := 1) _ _ _ z1 (by simp)]
    try rw [Result.andThen_ok]
    try dsimp only
    have z2 : (World.setCell Y1 ⟨w6.heap.size, 1, none⟩ (.func (.func f2) #[] #[.pointer (some ⟨pp, 0, none⟩)])).heap[w6.heap.size]? = some (.cells #[.func (.func f1) #[] #[], .func (.func f2) #[] #[.pointer (some ⟨pp, 0, none⟩)]] 65) := heap_setCell_same _ _ 1 _ _ _ z1
    have hy2 := hy1.setCell (p := ⟨w6.heap.size, 1, none⟩) (Nat.le_refl _) (.func (.func f2) #[] #[.pointer (some ⟨pp, 0, none⟩)])
    clear z0 z1 hy1
    generalize World.setCell Y1 ⟨w6.heap.size, 1, none⟩ (.func (.func f2) #[] #[.pointer (some ⟨pp, 0, none⟩)]) = Y2 at z2 hy2 ⊢
    have HZ2 := hide z2
    have HY2 := hide hy2
    clear z2 hy2 m1 m2
    gi_wp2_with fail
    refine region_in_round (by kernel_rfl) ?nd ?lo ?_
    case nd => exact noDefer_spec (by kernel_rfl)
    case lo =>
      rintro ⟨_, _, h⟩
      rcases h with ⟨h, _⟩ | ⟨h, _⟩ <;> cases h
    have hY : Below W.heap.size W Y2 := (unhide HB6).trans ((unhide HY2).mono (unhide HB6).size)
    have hbW : b < W.heap.size := lt_of_block (unhide HOB)
    have HSS : Hid (∀ W', Below Y2.heap.size Y2 W' → W'.cell? ⟨b, 0, none⟩ = some (.int .i64 y.x.n.kind) ∧ W'.cell? ⟨b, 1, none⟩ = some (.int .i64 y.x.n.space) ∧ W'.cell? ⟨b, 2, none⟩ = some (.string y.x.n.name) ∧ W'.cell? ⟨b, 3, none⟩ = some (.slice y.a y.x.n.attrs.length y.cap) ∧ W'.cell? ⟨b, 4, none⟩ = some (.string y.x.n.data) ∧ W'.cell? ⟨b, 5, none⟩ = some (.string y.x.n.system) ∧ W'.cell? ⟨b, 6, none⟩ = some (.int .i64 y.x.n.parent) ∧ W'.cell? ⟨b, 7, none⟩ = some (.int .i64 y.x.n.first) ∧ W'.cell? ⟨b, 8, none⟩ = some (.int .i64 y.x.n.last) ∧ W'.cell? ⟨b, 9, none⟩ = some (.int .i64 y.x.n.prev) ∧ W'.cell? ⟨b, 10, none⟩ = some (.int .i64 y.x.n.next) ∧ W'.cell? ⟨b, 11, none⟩ = some (.int .i64 y.x.n.inner) ∧ W'.cell? ⟨b, 12, none⟩ = some (.slice y.ka y.l.length y.kc) ∧ W'.cell? ⟨b, 13, none⟩ = some (.int .i64 y.x.d) ∧ W'.cell? ⟨w6.heap.size, 0, none⟩ = some (.func (.func f1) #[] #[]) ∧ W'.cell? ⟨w6.heap.size, 1, none⟩ = some (.func (.func f2) #[] #[.pointer (some ⟨pp, 0, none⟩)])) := hide (fun W' hW' => by
      have h1 := (hW'.block b (Nat.lt_of_lt_of_le hbW hY.size)).trans ((hY.block b hbW).trans (unhide HOB))
      have h2 := (hW'.block w6.heap.size (lt_of_block (unhide HZ2))).trans (unhide HZ2)
      unfold famB at h1
      exact ⟨cell_row _ _ 0 _ _ _ h1, cell_row _ _ 1 _ _ _ h1, cell_row _ _ 2 _ _ _ h1, cell_row _ _ 3 _ _ _ h1, cell_row _ _ 4 _ _ _ h1, cell_row _ _ 5 _ _ _ h1, cell_row _ _ 6 _ _ _ h1, cell_row _ _ 7 _ _ _ h1, cell_row _ _ 8 _ _ _ h1, cell_row _ _ 9 _ _ _ h1, cell_row _ _ 10 _ _ _ h1, cell_row _ _ 11 _ _ _ h1, cell_row _ _ 12 _ _ _ h1, cell_row _ _ 13 _ _ _ h1, cell_row _ _ 0 _ _ _ h2, cell_row _ _ 1 _ _ _ h2⟩)
    have en1 : ∀ (args : Array Value) (w : World), (callFunc f1 args).run Tryz.prog w = .ok (.enter f1 args) w := unhide HEN1
    have en2 : ∀ (args : Array Value) (w : World), (callFunc f2 args).run Tryz.prog w = .ok (.enter f2 args) w := unhide HEN2
    have hkW : Below w2.heap.size w2 Y2 := by
      have h1 := (unhide HKEEP).trans ((unhide HB).mono (unhide HKEEP).size)
      exact h1.trans (hY.mono h1.size)
    have HCA := hide (fun W' (hb : Below Y2.heap.size Y2 W') => (unhide HC1) W' y.x.n y.a y.cap (((unhide HOKN).below hY).below hb))
    have HCB := hide (fun W' (hb : Below Y2.heap.size Y2 W') => rolesOf_any W' y.ka y.kc y.l (((unhide HAX).row.below hY).below hb) (by omega))
    have HCC : Hid (∀ W' ra rc, Below Y2.heap.size Y2 W' → RolesIn W' ra (y.l.map roleM) → Calls Tryz.prog f2 #[.slice ra y.l.length rc, .pointer (some ⟨pp, 0, none⟩)] W' fun e w' => e = .returned (.bool (kidsR r (y.l.map roleM))) ∧ Below W'.heap.size W' w') := hide (fun W' ra rc hb hro => by
      have h1 := (unhide HC2) W' ra rc (y.l.map roleM) (hkW.trans (hb.mono hkW.size)) hro (by rw [List.length_map]; omega)
      rw [List.length_map] at h1
      exact h1)
    unfold nodW at HCA
    have HOKX : Hid (okX y = (decide (y.x.d ≤ 200) && (ownN r y.x.n && kidsR r (y.l.map roleM)))) := hide (by unfold okX; rw [unhide HRR])
    have HYY := hide hY
    have HBD := hide ((Below.refl Y2.heap.size Y2).drew)
    clear hkW hY
    refine wpAny_of_held (S := fun W' => W'.cell? ⟨b, 0, none⟩ = some (.int .i64 y.x.n.kind) ∧ W'.cell? ⟨b, 1, none⟩ = some (.int .i64 y.x.n.space) ∧ W'.cell? ⟨b, 2, none⟩ = some (.string y.x.n.name) ∧ W'.cell? ⟨b, 3, none⟩ = some (.slice y.a y.x.n.attrs.length y.cap) ∧ W'.cell? ⟨b, 4, none⟩ = some (.string y.x.n.data) ∧ W'.cell? ⟨b, 5, none⟩ = some (.string y.x.n.system) ∧ W'.cell? ⟨b, 6, none⟩ = some (.int .i64 y.x.n.parent) ∧ W'.cell? ⟨b, 7, none⟩ = some (.int .i64 y.x.n.first) ∧ W'.cell? ⟨b, 8, none⟩ = some (.int .i64 y.x.n.last) ∧ W'.cell? ⟨b, 9, none⟩ = some (.int .i64 y.x.n.prev) ∧ W'.cell? ⟨b, 10, none⟩ = some (.int .i64 y.x.n.next) ∧ W'.cell? ⟨b, 11, none⟩ = some (.int .i64 y.x.n.inner) ∧ W'.cell? ⟨b, 12, none⟩ = some (.slice y.ka y.l.length y.kc) ∧ W'.cell? ⟨b, 13, none⟩ = some (.int .i64 y.x.d) ∧ W'.cell? ⟨w6.heap.size, 0, none⟩ = some (.func (.func f1) #[] #[]) ∧ W'.cell? ⟨w6.heap.size, 1, none⟩ = some (.func (.func f2) #[] #[.pointer (some ⟨pp, 0, none⟩)])) _ _ _ _ ?_
    try (change wpAnyH _ _ _ _ _ _ _ _ (World.drew _))
    have hHeld : Y2.drew.cell? ⟨b, 0, none⟩ = some (.int .i64 y.x.n.kind) ∧ Y2.drew.cell? ⟨b, 1, none⟩ = some (.int .i64 y.x.n.space) ∧ Y2.drew.cell? ⟨b, 2, none⟩ = some (.string y.x.n.name) ∧ Y2.drew.cell? ⟨b, 3, none⟩ = some (.slice y.a y.x.n.attrs.length y.cap) ∧ Y2.drew.cell? ⟨b, 4, none⟩ = some (.string y.x.n.data) ∧ Y2.drew.cell? ⟨b, 5, none⟩ = some (.string y.x.n.system) ∧ Y2.drew.cell? ⟨b, 6, none⟩ = some (.int .i64 y.x.n.parent) ∧ Y2.drew.cell? ⟨b, 7, none⟩ = some (.int .i64 y.x.n.first) ∧ Y2.drew.cell? ⟨b, 8, none⟩ = some (.int .i64 y.x.n.last) ∧ Y2.drew.cell? ⟨b, 9, none⟩ = some (.int .i64 y.x.n.prev) ∧ Y2.drew.cell? ⟨b, 10, none⟩ = some (.int .i64 y.x.n.next) ∧ Y2.drew.cell? ⟨b, 11, none⟩ = some (.int .i64 y.x.n.inner) ∧ Y2.drew.cell? ⟨b, 12, none⟩ = some (.slice y.ka y.l.length y.kc) ∧ Y2.drew.cell? ⟨b, 13, none⟩ = some (.int .i64 y.x.d) ∧ Y2.drew.cell? ⟨w6.heap.size, 0, none⟩ = some (.func (.func f1) #[] #[]) ∧ Y2.drew.cell? ⟨w6.heap.size, 1, none⟩ = some (.func (.func f2) #[] #[.pointer (some ⟨pp, 0, none⟩)]) := (unhide HSS) _ (unhide HBD)
    by_cases hd : y.x.d ≤ 200
    · have hdz : ¬ (200 : Int) < (y.x.d : Int) := by omega
      refine wpAnyH_take (i := 0) (oi := ({ dst := some 25, op := Op.fieldAddr 73 (Operand.tmp 6) 2, type := 0, pos := _, after := #[], guard := none } : Oper)) (v := ?_) rfl (by kernel_rfl) (by kernel_rfl) (by kernel_rfl) (fun _ _ _ h => h) (Or.inl ⟨by rfl, ?_⟩) (by assumption) ?_
      rotate_left
      · first | (intro W0 hSw; (try dsimp only at hSw); go_simp; done) | (intro W0 hSw; (try dsimp only at hSw); go_simp; with_reducible rfl)
      (try simp only [Act.put]); (try simp only [List.setIfInBounds_toArray]); (try simp only [List.set_cons_succ]); (try simp only [List.set_cons_zero])
      refine wpAnyH_take (i := 1) (oi := ({ dst := some 26, op := Op.load 3 (Operand.tmp 25), type := 3, pos := _, after := #[{ on := 0, ground := Ground.data }], guard := none } : Oper)) (v := ?_) rfl (by kernel_rfl) (by kernel_rfl) (by kernel_rfl) (fun _ _ _ h => h) (Or.inl ⟨by rfl, ?_⟩) (by assumption) ?_
      rotate_left
      · first | (intro W0 hSw; (try dsimp only at hSw); go_simp; done) | (intro W0 hSw; (try dsimp only at hSw); go_simp; with_reducible rfl)
      (try simp only [Act.put]); (try simp only [List.setIfInBounds_toArray]); (try simp only [List.set_cons_succ]); (try simp only [List.set_cons_zero])
      refine wpAnyH_take (i := 2) (oi := ({ dst := some 27, op := Op.binOp BinOp.gtr 3 (Operand.tmp 26) (Operand.const (Value.int IntKind.i64 200)) 3, type := 4, pos := _, after := #[{ on := 1, ground := Ground.data }], guard := none } : Oper)) (v := ?_) rfl (by kernel_rfl) (by kernel_rfl) (by kernel_rfl) (fun _ _ _ h => h) (Or.inl ⟨by rfl, ?_⟩) (by assumption) ?_
      rotate_left
      · first | (intro W0 hSw; (try dsimp only at hSw); go_simp; done) | (intro W0 hSw; (try dsimp only at hSw); go_simp; with_reducible rfl)
      (try simp only [Act.put]); (try simp only [List.setIfInBounds_toArray]); (try simp only [List.set_cons_succ]); (try simp only [List.set_cons_zero])
      refine wpAnyH_take (i := 3) (oi := ({ dst := some 28, op := Op.move (Operand.tmp 27), type := 4, pos := _, after := #[{ on := 2, ground := Ground.data }], guard := none } : Oper)) (v := ?_) rfl (by kernel_rfl) (by kernel_rfl) (by kernel_rfl) (fun _ _ _ h => h) (Or.inl ⟨by rfl, ?_⟩) (by assumption) ?_
      rotate_left
      · first | (intro W0 hSw; (try dsimp only at hSw); go_simp; done) | (intro W0 hSw; (try dsimp only at hSw); go_simp; with_reducible rfl)
      (try simp only [Act.put]); (try simp only [List.setIfInBounds_toArray]); (try simp only [List.set_cons_succ]); (try simp only [List.set_cons_zero])
      refine wpAnyH_take (i := 4) (oi := ({ dst := some 29, op := Op.fieldAddr 65 (Operand.tmp 7) 0, type := 0, pos := _, after := #[{ on := 3, ground := Ground.guard }], guard := some (3, false) } : Oper)) (v := ?_) rfl (by kernel_rfl) (by kernel_rfl) (by kernel_rfl) (fun _ _ _ h => h) (Or.inl ⟨by rfl, ?_⟩) (by assumption) ?_
      rotate_left
      · first | (intro W0 hSw; (try dsimp only at hSw); go_simp; done) | (intro W0 hSw; (try dsimp only at hSw); go_simp; with_reducible rfl)
      (try simp only [Act.put]); (try simp only [List.setIfInBounds_toArray]); (try simp only [List.set_cons_succ]); (try simp only [List.set_cons_zero])
      refine wpAnyH_take (i := 5) (oi := ({ dst := some 30, op := Op.load 62 (Operand.tmp 29), type := 62, pos := _, after := #[{ on := 4, ground := Ground.data }, { on := 3, ground := Ground.guard }], guard := some (3, false) } : Oper)) (v := ?_) rfl (by kernel_rfl) (by kernel_rfl) (by kernel_rfl) (fun _ _ _ h => h) (Or.inl ⟨by rfl, ?_⟩) (by assumption) ?_
      rotate_left
      · first | (intro W0 hSw; (try dsimp only at hSw); go_simp; done) | (intro W0 hSw; (try dsimp only at hSw); go_simp; with_reducible rfl)
      (try simp only [Act.put]); (try simp only [List.setIfInBounds_toArray]); (try simp only [List.set_cons_succ]); (try simp only [List.set_cons_zero])
      refine wpAnyH_take (i := 6) (oi := ({ dst := some 31, op := Op.fieldAddr 73 (Operand.tmp 6) 0, type := 0, pos := _, after := #[{ on := 3, ground := Ground.guard }], guard := some (3, false) } : Oper)) (v := ?_) rfl (by kernel_rfl) (by kernel_rfl) (by kernel_rfl) (fun _ _ _ h => h) (Or.inl ⟨by rfl, ?_⟩) (by assumption) ?_
      rotate_left
      · first | (intro W0 hSw; (try dsimp only at hSw); go_simp; done) | (intro W0 hSw; (try dsimp only at hSw); go_simp; with_reducible rfl)
      (try simp only [Act.put]); (try simp only [List.setIfInBounds_toArray]); (try simp only [List.set_cons_succ]); (try simp only [List.set_cons_zero])
      refine wpAnyH_take (i := 7) (oi := ({ dst := some 32, op := Op.load 51 (Operand.tmp 31), type := 51, pos := _, after := #[{ on := 6, ground := Ground.data }, { on := 3, ground := Ground.guard }], guard := some (3, false) } : Oper)) (v := ?_) rfl (by kernel_rfl) (by kernel_rfl) (by kernel_rfl) (fun _ _ _ h => h) (Or.inl ⟨by rfl, ?_⟩) (by assumption) ?_
      rotate_left
      · first | (intro W0 hSw; (try dsimp only at hSw); go_simp; done) | (intro W0 hSw; (try dsimp only at hSw); go_simp; with_reducible rfl)
      (try simp only [Act.put]); (try simp only [List.setIfInBounds_toArray]); (try simp only [List.set_cons_succ]); (try simp only [List.set_cons_zero])
      refine wpAnyH_ready (rs := [8]) (by kernel_rfl) (by simp) ?_
      refine AllReadyH.cons (o := ({ dst := some 33, op := Op.call { callee := Callee.value (Operand.tmp 30), args := #[Operand.tmp 32], argTypes := #[51] }, type := 4, pos := _, after := #[{ on := 5, ground := Ground.data }, { on := 7, ground := Ground.data }, { on := 3, ground := Ground.chain }, { on := 3, ground := Ground.guard }], guard := some (3, false) } : Oper)) rfl (fun K hK => ?_) AllReadyH.nil
      go_simp
      refine ((unhide HCA) _ (unhide HBD)).mono ?_
      rintro e w7 ⟨rfl, hb7⟩
      have HB7 := hide ((unhide HBD).trans (hb7.mono (unhide HBD).size))
      clear hb7
      refine hK.out _ _ ?_ (fun hHeld => ?_)
      · exact (unhide HSS) _ (unhide HB7)
      clear hK K
      (try simp only [Act.put]); (try simp only [List.setIfInBounds_toArray]); (try simp only [List.set_cons_succ]); (try simp only [List.set_cons_zero])
      cases hown : ownN r y.x.n with
      | false =>
        have HR : Hid (okX y = false) := hide (by rw [unhide HOKX, hown]; simp)
        refine wpAnyH_take (i := 9) (oi := ({ dst := some 34, op := Op.unOp UnOp.not 4 (Operand.tmp 33), type := 4, pos := _, after := #[{ on := 8, ground := Ground.data }, { on := 3, ground := Ground.guard }], guard := some (3, false) } : Oper)) (v := ?_) rfl (by kernel_rfl) (by kernel_rfl) (by kernel_rfl) (fun _ _ _ h => h) (Or.inl ⟨by rfl, ?_⟩) (by assumption) ?_
        rotate_left
        · first | (intro W0 hSw; (try dsimp only at hSw); go_simp; done) | (intro W0 hSw; (try dsimp only at hSw); go_simp; with_reducible rfl)
        (try simp only [Act.put]); (try simp only [List.setIfInBounds_toArray]); (try simp only [List.set_cons_succ]); (try simp only [List.set_cons_zero])
        refine wpAnyH_take (i := 10) (oi := ({ dst := some 35, op := Op.pick (Operand.tmp 28) (Operand.const (Value.bool true)) (Operand.tmp 34), type := 4, pos := _, after := #[{ on := 3, ground := Ground.data }, { on := 9, ground := Ground.data }], guard := none } : Oper)) (v := ?_) rfl (by kernel_rfl) (by kernel_rfl) (by kernel_rfl) (fun _ _ _ h => h) (Or.inl ⟨by rfl, ?_⟩) (by assumption) ?_
        rotate_left
        · first | (intro W0 hSw; (try dsimp only at hSw); go_simp; done) | (intro W0 hSw; (try dsimp only at hSw); go_simp; with_reducible rfl)
        (try simp only [Act.put]); (try simp only [List.setIfInBounds_toArray]); (try simp only [List.set_cons_succ]); (try simp only [List.set_cons_zero])
        refine wpAnyH_take (i := 11) (oi := ({ dst := some 36, op := Op.move (Operand.tmp 35), type := 4, pos := _, after := #[{ on := 10, ground := Ground.data }, { on := 8, ground := Ground.chain }], guard := none } : Oper)) (v := ?_) rfl (by kernel_rfl) (by kernel_rfl) (by kernel_rfl) (fun _ _ _ h => h) (Or.inl ⟨by rfl, ?_⟩) (by assumption) ?_
        rotate_left
        · first | (intro W0 hSw; (try dsimp only at hSw); go_simp; done) | (intro W0 hSw; (try dsimp only at hSw); go_simp; with_reducible rfl)
        (try simp only [Act.put]); (try simp only [List.setIfInBounds_toArray]); (try simp only [List.set_cons_succ]); (try simp only [List.set_cons_zero])
        refine wpAnyH_take (i := 12) (oi := ({ dst := some 37, op := Op.fieldAddr 65 (Operand.tmp 7) 1, type := 0, pos := _, after := #[{ on := 11, ground := Ground.guard }], guard := some (11, false) } : Oper)) (v := undef) rfl (by kernel_rfl) (by kernel_rfl) (by kernel_rfl) (fun _ _ _ h => h) (Or.inr ⟨by rfl, rfl⟩) (by assumption) ?_
        (try simp only [Act.put]); (try simp only [List.setIfInBounds_toArray]); (try simp only [List.set_cons_succ]); (try simp only [List.set_cons_zero])
        refine wpAnyH_take (i := 13) (oi := ({ dst := some 38, op := Op.load 63 (Operand.tmp 37), type := 63, pos := _, after := #[{ on := 12, ground := Ground.data }, { on := 11, ground := Ground.guard }], guard := some (11, false) } : Oper)) (v := undef) rfl (by kernel_rfl) (by kernel_rfl) (by kernel_rfl) (fun _ _ _ h => h) (Or.inr ⟨by rfl, rfl⟩) (by assumption) ?_
        (try simp only [Act.put]); (try simp only [List.setIfInBounds_toArray]); (try simp only [List.set_cons_succ]); (try simp only [List.set_cons_zero])
        refine wpAnyH_take (i := 14) (oi := ({ dst := some 39, op := Op.fieldAddr 73 (Operand.tmp 6) 1, type := 0, pos := _, after := #[{ on := 11, ground := Ground.guard }], guard := some (11, false) } : Oper)) (v := undef) rfl (by kernel_rfl) (by kernel_rfl) (by kernel_rfl) (fun _ _ _ h => h) (Or.inr ⟨by rfl, rfl⟩) (by assumption) ?_
        (try simp only [Act.put]); (try simp only [List.setIfInBounds_toArray]); (try simp only [List.set_cons_succ]); (try simp only [List.set_cons_zero])
        refine wpAnyH_take (i := 15) (oi := ({ dst := some 40, op := Op.load 71 (Operand.tmp 39), type := 71, pos := _, after := #[{ on := 14, ground := Ground.data }, { on := 11, ground := Ground.guard }], guard := some (11, false) } : Oper)) (v := undef) rfl (by kernel_rfl) (by kernel_rfl) (by kernel_rfl) (fun _ _ _ h => h) (Or.inr ⟨by rfl, rfl⟩) (by assumption) ?_
        (try simp only [Act.put]); (try simp only [List.setIfInBounds_toArray]); (try simp only [List.set_cons_succ]); (try simp only [List.set_cons_zero])
        refine wpAnyH_take (i := 16) (oi := ({ dst := some 41, op := Op.call { callee := Callee.value (Operand.func 26), args := #[Operand.tmp 40], argTypes := #[71] }, type := 76, pos := _, after := #[{ on := 15, ground := Ground.data }, { on := 11, ground := Ground.chain }, { on := 11, ground := Ground.guard }], guard := some (11, false) } : Oper)) (v := undef) rfl (by kernel_rfl) (by kernel_rfl) (by kernel_rfl) (fun _ _ _ h => h) (Or.inr ⟨by rfl, rfl⟩) (by assumption) ?_
        (try simp only [Act.put]); (try simp only [List.setIfInBounds_toArray]); (try simp only [List.set_cons_succ]); (try simp only [List.set_cons_zero])
        refine wpAnyH_take (i := 17) (oi := ({ dst := some 42, op := Op.call { callee := Callee.value (Operand.tmp 38), args := #[Operand.tmp 41], argTypes := #[76] }, type := 4, pos := _, after := #[{ on := 13, ground := Ground.data }, { on := 16, ground := Ground.data }, { on := 16, ground := Ground.chain }, { on := 11, ground := Ground.guard }], guard := some (11, false) } : Oper)) (v := undef) rfl (by kernel_rfl) (by kernel_rfl) (by kernel_rfl) (fun _ _ _ h => h) (Or.inr ⟨by rfl, rfl⟩) (by assumption) ?_
        (try simp only [Act.put]); (try simp only [List.setIfInBounds_toArray]); (try simp only [List.set_cons_succ]); (try simp only [List.set_cons_zero])
        refine wpAnyH_take (i := 18) (oi := ({ dst := some 43, op := Op.unOp UnOp.not 4 (Operand.tmp 42), type := 4, pos := _, after := #[{ on := 17, ground := Ground.data }, { on := 11, ground := Ground.guard }], guard := some (11, false) } : Oper)) (v := undef) rfl (by kernel_rfl) (by kernel_rfl) (by kernel_rfl) (fun _ _ _ h => h) (Or.inr ⟨by rfl, rfl⟩) (by assumption) ?_
        (try simp only [Act.put]); (try simp only [List.setIfInBounds_toArray]); (try simp only [List.set_cons_succ]); (try simp only [List.set_cons_zero])
        refine wpAnyH_take (i := 19) (oi := ({ dst := some 44, op := Op.pick (Operand.tmp 36) (Operand.const (Value.bool true)) (Operand.tmp 43), type := 4, pos := _, after := #[{ on := 11, ground := Ground.data }, { on := 18, ground := Ground.data }], guard := none } : Oper)) (v := ?_) rfl (by kernel_rfl) (by kernel_rfl) (by kernel_rfl) (fun _ _ _ h => h) (Or.inl ⟨by rfl, ?_⟩) (by assumption) ?_
        rotate_left
        · first | (intro W0 hSw; (try dsimp only at hSw); go_simp; done) | (intro W0 hSw; (try dsimp only at hSw); go_simp; with_reducible rfl)
        (try simp only [Act.put]); (try simp only [List.setIfInBounds_toArray]); (try simp only [List.set_cons_succ]); (try simp only [List.set_cons_zero])
        refine wpAnyH_done (by kernel_rfl) ?_ _
        clear hHeld
        obtain ⟨x1, x2, x3, x4, x5, x6⟩ := ret_end (unhide H5R) (unhide HBWW) (unhide HB) ((unhide HYY).trans ((unhide HB7).mono (unhide HYY).size))
        have HX := hide (And.intro x3 (And.intro x4 (And.intro x5 x6)))
        clear x3 x4 x5 x6
        gi_wp2
        first | exact ⟨unhide HR, (unhide HX).1, (unhide HX).2.2.2⟩ | exact ⟨unhide HR, (unhide HX).1, (unhide HX).2.1, x2, (unhide HX).2.2.2⟩ | exact .inr ⟨rfl, unhide HR, unhide HX⟩
      | true =>
        have HR : Hid (okX y = kidsR r (y.l.map roleM)) := hide (by rw [unhide HOKX, hown]; simp [hd])
        refine wpAnyH_take (i := 9) (oi := ({ dst := some 34, op := Op.unOp UnOp.not 4 (Operand.tmp 33), type := 4, pos := _, after := #[{ on := 8, ground := Ground.data }, { on := 3, ground := Ground.guard }], guard := some (3, false) } : Oper)) (v := ?_) rfl (by kernel_rfl) (by kernel_rfl) (by kernel_rfl) (fun _ _ _ h => h) (Or.inl ⟨by rfl, ?_⟩) (by assumption) ?_
        rotate_left
        · first | (intro W0 hSw; (try dsimp only at hSw); go_simp; done) | (intro W0 hSw; (try dsimp only at hSw); go_simp; with_reducible rfl)
        (try simp only [Act.put]); (try simp only [List.setIfInBounds_toArray]); (try simp only [List.set_cons_succ]); (try simp only [List.set_cons_zero])
        refine wpAnyH_take (i := 10) (oi := ({ dst := some 35, op := Op.pick (Operand.tmp 28) (Operand.const (Value.bool true)) (Operand.tmp 34), type := 4, pos := _, after := #[{ on := 3, ground := Ground.data }, { on := 9, ground := Ground.data }], guard := none } : Oper)) (v := ?_) rfl (by kernel_rfl) (by kernel_rfl) (by kernel_rfl) (fun _ _ _ h => h) (Or.inl ⟨by rfl, ?_⟩) (by assumption) ?_
        rotate_left
        · first | (intro W0 hSw; (try dsimp only at hSw); go_simp; done) | (intro W0 hSw; (try dsimp only at hSw); go_simp; with_reducible rfl)
        (try simp only [Act.put]); (try simp only [List.setIfInBounds_toArray]); (try simp only [List.set_cons_succ]); (try simp only [List.set_cons_zero])
        refine wpAnyH_take (i := 11) (oi := ({ dst := some 36, op := Op.move (Operand.tmp 35), type := 4, pos := _, after := #[{ on := 10, ground := Ground.data }, { on := 8, ground := Ground.chain }], guard := none } : Oper)) (v := ?_) rfl (by kernel_rfl) (by kernel_rfl) (by kernel_rfl) (fun _ _ _ h => h) (Or.inl ⟨by rfl, ?_⟩) (by assumption) ?_
        rotate_left
        · first | (intro W0 hSw; (try dsimp only at hSw); go_simp; done) | (intro W0 hSw; (try dsimp only at hSw); go_simp; with_reducible rfl)
        (try simp only [Act.put]); (try simp only [List.setIfInBounds_toArray]); (try simp only [List.set_cons_succ]); (try simp only [List.set_cons_zero])
        refine wpAnyH_take (i := 12) (oi := ({ dst := some 37, op := Op.fieldAddr 65 (Operand.tmp 7) 1, type := 0, pos := _, after := #[{ on := 11, ground := Ground.guard }], guard := some (11, false) } : Oper)) (v := ?_) rfl (by kernel_rfl) (by kernel_rfl) (by kernel_rfl) (fun _ _ _ h => h) (Or.inl ⟨by rfl, ?_⟩) (by assumption) ?_
        rotate_left
        · first | (intro W0 hSw; (try dsimp only at hSw); go_simp; done) | (intro W0 hSw; (try dsimp only at hSw); go_simp; with_reducible rfl)
        (try simp only [Act.put]); (try simp only [List.setIfInBounds_toArray]); (try simp only [List.set_cons_succ]); (try simp only [List.set_cons_zero])
        refine wpAnyH_take (i := 13) (oi := ({ dst := some 38, op := Op.load 63 (Operand.tmp 37), type := 63, pos := _, after := #[{ on := 12, ground := Ground.data }, { on := 11, ground := Ground.guard }], guard := some (11, false) } : Oper)) (v := ?_) rfl (by kernel_rfl) (by kernel_rfl) (by kernel_rfl) (fun _ _ _ h => h) (Or.inl ⟨by rfl, ?_⟩) (by assumption) ?_
        rotate_left
        · first | (intro W0 hSw; (try dsimp only at hSw); go_simp; done) | (intro W0 hSw; (try dsimp only at hSw); go_simp; with_reducible rfl)
        (try simp only [Act.put]); (try simp only [List.setIfInBounds_toArray]); (try simp only [List.set_cons_succ]); (try simp only [List.set_cons_zero])
        refine wpAnyH_take (i := 14) (oi := ({ dst := some 39, op := Op.fieldAddr 73 (Operand.tmp 6) 1, type := 0, pos := _, after := #[{ on := 11, ground := Ground.guard }], guard := some (11, false) } : Oper)) (v := ?_) rfl (by kernel_rfl) (by kernel_rfl) (by kernel_rfl) (fun _ _ _ h => h) (Or.inl ⟨by rfl, ?_⟩) (by assumption) ?_
        rotate_left
        · first | (intro W0 hSw; (try dsimp only at hSw); go_simp; done) | (intro W0 hSw; (try dsimp only at hSw); go_simp; with_reducible rfl)
        (try simp only [Act.put]); (try simp only [List.setIfInBounds_toArray]); (try simp only [List.set_cons_succ]); (try simp only [List.set_cons_zero])
        refine wpAnyH_take (i := 15) (oi := ({ dst := some 40, op := Op.load 71 (Operand.tmp 39), type := 71, pos := _, after := #[{ on := 14, ground := Ground.data }, { on := 11, ground := Ground.guard }], guard := some (11, false) } : Oper)) (v := ?_) rfl (by kernel_rfl) (by kernel_rfl) (by kernel_rfl) (fun _ _ _ h => h) (Or.inl ⟨by rfl, ?_⟩) (by assumption) ?_
        rotate_left
        · first | (intro W0 hSw; (try dsimp only at hSw); go_simp; done) | (intro W0 hSw; (try dsimp only at hSw); go_simp; with_reducible rfl)
        (try simp only [Act.put]); (try simp only [List.setIfInBounds_toArray]); (try simp only [List.set_cons_succ]); (try simp only [List.set_cons_zero])
        refine wpAnyH_ready (rs := [16]) (by kernel_rfl) (by simp) ?_
        refine AllReadyH.cons (o := ({ dst := some 41, op := Op.call { callee := Callee.value (Operand.func 26), args := #[Operand.tmp 40], argTypes := #[71] }, type := 76, pos := _, after := #[{ on := 15, ground := Ground.data }, { on := 11, ground := Ground.chain }, { on := 11, ground := Ground.guard }], guard := some (11, false) } : Oper)) rfl (fun K hK => ?_) AllReadyH.nil
        go_simp
        refine ((unhide HCB) _ (unhide HB7)).mono ?_
        rintro e w8 ⟨ra, rc, rfl, hro, hb8⟩
        have HB8 := hide ((unhide HB7).trans (hb8.mono (unhide HB7).size))
        have HRO8 := hide hro
        clear hb8 hro
        refine hK.out _ _ ?_ (fun hHeld => ?_)
        · exact (unhide HSS) _ (unhide HB8)
        clear hK K
        (try simp only [Act.put]); (try simp only [List.setIfInBounds_toArray]); (try simp only [List.set_cons_succ]); (try simp only [List.set_cons_zero])
        refine wpAnyH_ready (rs := [17]) (by kernel_rfl) (by simp) ?_
        refine AllReadyH.cons (o := ({ dst := some 42, op := Op.call { callee := Callee.value (Operand.tmp 38), args := #[Operand.tmp 41], argTypes := #[76] }, type := 4, pos := _, after := #[{ on := 13, ground := Ground.data }, { on := 16, ground := Ground.data }, { on := 16, ground := Ground.chain }, { on := 11, ground := Ground.guard }], guard := some (11, false) } : Oper)) rfl (fun K hK => ?_) AllReadyH.nil
        go_simp
        refine ((unhide HCC) _ _ _ (unhide HB8) (unhide HRO8)).mono ?_
        rintro e w9 ⟨rfl, hb9⟩
        have HB9 := hide ((unhide HB8).trans (hb9.mono (unhide HB8).size))
        clear hb9
        refine hK.out _ _ ?_ (fun hHeld => ?_)
        · exact (unhide HSS) _ (unhide HB9)
        clear hK K
        (try simp only [Act.put]); (try simp only [List.setIfInBounds_toArray]); (try simp only [List.set_cons_succ]); (try simp only [List.set_cons_zero])
        refine wpAnyH_take (i := 18) (oi := ({ dst := some 43, op := Op.unOp UnOp.not 4 (Operand.tmp 42), type := 4, pos := _, after := #[{ on := 17, ground := Ground.data }, { on := 11, ground := Ground.guard }], guard := some (11, false) } : Oper)) (v := ?_) rfl (by kernel_rfl) (by kernel_rfl) (by kernel_rfl) (fun _ _ _ h => h) (Or.inl ⟨by rfl, ?_⟩) (by assumption) ?_
        rotate_left
        · first | (intro W0 hSw; (try dsimp only at hSw); go_simp; done) | (intro W0 hSw; (try dsimp only at hSw); go_simp; with_reducible rfl)
        (try simp only [Act.put]); (try simp only [List.setIfInBounds_toArray]); (try simp only [List.set_cons_succ]); (try simp only [List.set_cons_zero])
        refine wpAnyH_take (i := 19) (oi := ({ dst := some 44, op := Op.pick (Operand.tmp 36) (Operand.const (Value.bool true)) (Operand.tmp 43), type := 4, pos := _, after := #[{ on := 11, ground := Ground.data }, { on := 18, ground := Ground.data }], guard := none } : Oper)) (v := ?_) rfl (by kernel_rfl) (by kernel_rfl) (by kernel_rfl) (fun _ _ _ h => h) (Or.inl ⟨by rfl, ?_⟩) (by assumption) ?_
        rotate_left
        · first | (intro W0 hSw; (try dsimp only at hSw); go_simp; done) | (intro W0 hSw; (try dsimp only at hSw); go_simp; with_reducible rfl)
        (try simp only [Act.put]); (try simp only [List.setIfInBounds_toArray]); (try simp only [List.set_cons_succ]); (try simp only [List.set_cons_zero])
        refine wpAnyH_done (by kernel_rfl) ?_ _
        clear hHeld
        cases hkd : kidsR r (y.l.map roleM) with
        | false =>
          rw [hkd] at HR
          obtain ⟨x1, x2, x3, x4, x5, x6⟩ := ret_end (unhide H5R) (unhide HBWW) (unhide HB) ((unhide HYY).trans ((unhide HB9).mono (unhide HYY).size))
          have HX := hide (And.intro x3 (And.intro x4 (And.intro x5 x6)))
          clear x3 x4 x5 x6
          gi_wp2
          first | exact ⟨unhide HR, (unhide HX).1, (unhide HX).2.2.2⟩ | exact ⟨unhide HR, (unhide HX).1, (unhide HX).2.1, x2, (unhide HX).2.2.2⟩ | exact .inr ⟨rfl, unhide HR, unhide HX⟩
        | true =>
          rw [hkd] at HR
          have HFIN := hide ((unhide HYY).trans ((unhide HB9).mono (unhide HYY).size))
          gi_wp2
          have hfin := unhide HFIN
          rw [hWs] at hfin
          first
          | exact ⟨unhide HR, hfin⟩
          | exact .inl ⟨rfl, unhide HR, unhide HFIN⟩
    · have hdz : (200 : Int) < (y.x.d : Int) := by omega
      have HR : Hid (okX y = false) := hide (by rw [unhide HOKX]; simp [hd])
      refine wpAnyH_take (i := 0) (oi := ({ dst := some 25, op := Op.fieldAddr 73 (Operand.tmp 6) 2, type := 0, pos := _, after := #[], guard := none } : Oper)) (v := ?_) rfl (by kernel_rfl) (by kernel_rfl) (by kernel_rfl) (fun _ _ _ h => h) (Or.inl ⟨by rfl, ?_⟩) (by assumption) ?_
      rotate_left
      · first | (intro W0 hSw; (try dsimp only at hSw); go_simp; done) | (intro W0 hSw; (try dsimp only at hSw); go_simp; with_reducible rfl)
      (try simp only [Act.put]); (try simp only [List.setIfInBounds_toArray]); (try simp only [List.set_cons_succ]); (try simp only [List.set_cons_zero])
      refine wpAnyH_take (i := 1) (oi := ({ dst := some 26, op := Op.load 3 (Operand.tmp 25), type := 3, pos := _, after := #[{ on := 0, ground := Ground.data }], guard := none } : Oper)) (v := ?_) rfl (by kernel_rfl) (by kernel_rfl) (by kernel_rfl) (fun _ _ _ h => h) (Or.inl ⟨by rfl, ?_⟩) (by assumption) ?_
      rotate_left
      · first | (intro W0 hSw; (try dsimp only at hSw); go_simp; done) | (intro W0 hSw; (try dsimp only at hSw); go_simp; with_reducible rfl)
      (try simp only [Act.put]); (try simp only [List.setIfInBounds_toArray]); (try simp only [List.set_cons_succ]); (try simp only [List.set_cons_zero])
      refine wpAnyH_take (i := 2) (oi := ({ dst := some 27, op := Op.binOp BinOp.gtr 3 (Operand.tmp 26) (Operand.const (Value.int IntKind.i64 200)) 3, type := 4, pos := _, after := #[{ on := 1, ground := Ground.data }], guard := none } : Oper)) (v := ?_) rfl (by kernel_rfl) (by kernel_rfl) (by kernel_rfl) (fun _ _ _ h => h) (Or.inl ⟨by rfl, ?_⟩) (by assumption) ?_
      rotate_left
      · first | (intro W0 hSw; (try dsimp only at hSw); go_simp; done) | (intro W0 hSw; (try dsimp only at hSw); go_simp; with_reducible rfl)
      (try simp only [Act.put]); (try simp only [List.setIfInBounds_toArray]); (try simp only [List.set_cons_succ]); (try simp only [List.set_cons_zero])
      refine wpAnyH_take (i := 3) (oi := ({ dst := some 28, op := Op.move (Operand.tmp 27), type := 4, pos := _, after := #[{ on := 2, ground := Ground.data }], guard := none } : Oper)) (v := ?_) rfl (by kernel_rfl) (by kernel_rfl) (by kernel_rfl) (fun _ _ _ h => h) (Or.inl ⟨by rfl, ?_⟩) (by assumption) ?_
      rotate_left
      · first | (intro W0 hSw; (try dsimp only at hSw); go_simp; done) | (intro W0 hSw; (try dsimp only at hSw); go_simp; with_reducible rfl)
      (try simp only [Act.put]); (try simp only [List.setIfInBounds_toArray]); (try simp only [List.set_cons_succ]); (try simp only [List.set_cons_zero])
      refine wpAnyH_take (i := 4) (oi := ({ dst := some 29, op := Op.fieldAddr 65 (Operand.tmp 7) 0, type := 0, pos := _, after := #[{ on := 3, ground := Ground.guard }], guard := some (3, false) } : Oper)) (v := undef) rfl (by kernel_rfl) (by kernel_rfl) (by kernel_rfl) (fun _ _ _ h => h) (Or.inr ⟨by rfl, rfl⟩) (by assumption) ?_
      (try simp only [Act.put]); (try simp only [List.setIfInBounds_toArray]); (try simp only [List.set_cons_succ]); (try simp only [List.set_cons_zero])
      refine wpAnyH_take (i := 5) (oi := ({ dst := some 30, op := Op.load 62 (Operand.tmp 29), type := 62, pos := _, after := #[{ on := 4, ground := Ground.data }, { on := 3, ground := Ground.guard }], guard := some (3, false) } : Oper)) (v := undef) rfl (by kernel_rfl) (by kernel_rfl) (by kernel_rfl) (fun _ _ _ h => h) (Or.inr ⟨by rfl, rfl⟩) (by assumption) ?_
      (try simp only [Act.put]); (try simp only [List.setIfInBounds_toArray]); (try simp only [List.set_cons_succ]); (try simp only [List.set_cons_zero])
      refine wpAnyH_take (i := 6) (oi := ({ dst := some 31, op := Op.fieldAddr 73 (Operand.tmp 6) 0, type := 0, pos := _, after := #[{ on := 3, ground := Ground.guard }], guard := some (3, false) } : Oper)) (v := undef) rfl (by kernel_rfl) (by kernel_rfl) (by kernel_rfl) (fun _ _ _ h => h) (Or.inr ⟨by rfl, rfl⟩) (by assumption) ?_
      (try simp only [Act.put]); (try simp only [List.setIfInBounds_toArray]); (try simp only [List.set_cons_succ]); (try simp only [List.set_cons_zero])
      refine wpAnyH_take (i := 7) (oi := ({ dst := some 32, op := Op.load 51 (Operand.tmp 31), type := 51, pos := _, after := #[{ on := 6, ground := Ground.data }, { on := 3, ground := Ground.guard }], guard := some (3, false) } : Oper)) (v := undef) rfl (by kernel_rfl) (by kernel_rfl) (by kernel_rfl) (fun _ _ _ h => h) (Or.inr ⟨by rfl, rfl⟩) (by assumption) ?_
      (try simp only [Act.put]); (try simp only [List.setIfInBounds_toArray]); (try simp only [List.set_cons_succ]); (try simp only [List.set_cons_zero])
      refine wpAnyH_take (i := 8) (oi := ({ dst := some 33, op := Op.call { callee := Callee.value (Operand.tmp 30), args := #[Operand.tmp 32], argTypes := #[51] }, type := 4, pos := _, after := #[{ on := 5, ground := Ground.data }, { on := 7, ground := Ground.data }, { on := 3, ground := Ground.chain }, { on := 3, ground := Ground.guard }], guard := some (3, false) } : Oper)) (v := undef) rfl (by kernel_rfl) (by kernel_rfl) (by kernel_rfl) (fun _ _ _ h => h) (Or.inr ⟨by rfl, rfl⟩) (by assumption) ?_
      (try simp only [Act.put]); (try simp only [List.setIfInBounds_toArray]); (try simp only [List.set_cons_succ]); (try simp only [List.set_cons_zero])
      refine wpAnyH_take (i := 9) (oi := ({ dst := some 34, op := Op.unOp UnOp.not 4 (Operand.tmp 33), type := 4, pos := _, after := #[{ on := 8, ground := Ground.data }, { on := 3, ground := Ground.guard }], guard := some (3, false) } : Oper)) (v := undef) rfl (by kernel_rfl) (by kernel_rfl) (by kernel_rfl) (fun _ _ _ h => h) (Or.inr ⟨by rfl, rfl⟩) (by assumption) ?_
      (try simp only [Act.put]); (try simp only [List.setIfInBounds_toArray]); (try simp only [List.set_cons_succ]); (try simp only [List.set_cons_zero])
      refine wpAnyH_take (i := 10) (oi := ({ dst := some 35, op := Op.pick (Operand.tmp 28) (Operand.const (Value.bool true)) (Operand.tmp 34), type := 4, pos := _, after := #[{ on := 3, ground := Ground.data }, { on := 9, ground := Ground.data }], guard := none } : Oper)) (v := ?_) rfl (by kernel_rfl) (by kernel_rfl) (by kernel_rfl) (fun _ _ _ h => h) (Or.inl ⟨by rfl, ?_⟩) (by assumption) ?_
      rotate_left
      · first | (intro W0 hSw; (try dsimp only at hSw); go_simp; done) | (intro W0 hSw; (try dsimp only at hSw); go_simp; with_reducible rfl)
      (try simp only [Act.put]); (try simp only [List.setIfInBounds_toArray]); (try simp only [List.set_cons_succ]); (try simp only [List.set_cons_zero])
      refine wpAnyH_take (i := 11) (oi := ({ dst := some 36, op := Op.move (Operand.tmp 35), type := 4, pos := _, after := #[{ on := 10, ground := Ground.data }, { on := 8, ground := Ground.chain }], guard := none } : Oper)) (v := ?_) rfl (by kernel_rfl) (by kernel_rfl) (by kernel_rfl) (fun _ _ _ h => h) (Or.inl ⟨by rfl, ?_⟩) (by assumption) ?_
      rotate_left
      · first | (intro W0 hSw; (try dsimp only at hSw); go_simp; done) | (intro W0 hSw; (try dsimp only at hSw); go_simp; with_reducible rfl)
      (try simp only [Act.put]); (try simp only [List.setIfInBounds_toArray]); (try simp only [List.set_cons_succ]); (try simp only [List.set_cons_zero])
      refine wpAnyH_take (i := 12) (oi := ({ dst := some 37, op := Op.fieldAddr 65 (Operand.tmp 7) 1, type := 0, pos := _, after := #[{ on := 11, ground := Ground.guard }], guard := some (11, false) } : Oper)) (v := undef) rfl (by kernel_rfl) (by kernel_rfl) (by kernel_rfl) (fun _ _ _ h => h) (Or.inr ⟨by rfl, rfl⟩) (by assumption) ?_
      (try simp only [Act.put]); (try simp only [List.setIfInBounds_toArray]); (try simp only [List.set_cons_succ]); (try simp only [List.set_cons_zero])
      refine wpAnyH_take (i := 13) (oi := ({ dst := some 38, op := Op.load 63 (Operand.tmp 37), type := 63, pos := _, after := #[{ on := 12, ground := Ground.data }, { on := 11, ground := Ground.guard }], guard := some (11, false) } : Oper)) (v := undef) rfl (by kernel_rfl) (by kernel_rfl) (by kernel_rfl) (fun _ _ _ h => h) (Or.inr ⟨by rfl, rfl⟩) (by assumption) ?_
      (try simp only [Act.put]); (try simp only [List.setIfInBounds_toArray]); (try simp only [List.set_cons_succ]); (try simp only [List.set_cons_zero])
      refine wpAnyH_take (i := 14) (oi := ({ dst := some 39, op := Op.fieldAddr 73 (Operand.tmp 6) 1, type := 0, pos := _, after := #[{ on := 11, ground := Ground.guard }], guard := some (11, false) } : Oper)) (v := undef) rfl (by kernel_rfl) (by kernel_rfl) (by kernel_rfl) (fun _ _ _ h => h) (Or.inr ⟨by rfl, rfl⟩) (by assumption) ?_
      (try simp only [Act.put]); (try simp only [List.setIfInBounds_toArray]); (try simp only [List.set_cons_succ]); (try simp only [List.set_cons_zero])
      refine wpAnyH_take (i := 15) (oi := ({ dst := some 40, op := Op.load 71 (Operand.tmp 39), type := 71, pos := _, after := #[{ on := 14, ground := Ground.data }, { on := 11, ground := Ground.guard }], guard := some (11, false) } : Oper)) (v := undef) rfl (by kernel_rfl) (by kernel_rfl) (by kernel_rfl) (fun _ _ _ h => h) (Or.inr ⟨by rfl, rfl⟩) (by assumption) ?_
      (try simp only [Act.put]); (try simp only [List.setIfInBounds_toArray]); (try simp only [List.set_cons_succ]); (try simp only [List.set_cons_zero])
      refine wpAnyH_take (i := 16) (oi := ({ dst := some 41, op := Op.call { callee := Callee.value (Operand.func 26), args := #[Operand.tmp 40], argTypes := #[71] }, type := 76, pos := _, after := #[{ on := 15, ground := Ground.data }, { on := 11, ground := Ground.chain }, { on := 11, ground := Ground.guard }], guard := some (11, false) } : Oper)) (v := undef) rfl (by kernel_rfl) (by kernel_rfl) (by kernel_rfl) (fun _ _ _ h => h) (Or.inr ⟨by rfl, rfl⟩) (by assumption) ?_
      (try simp only [Act.put]); (try simp only [List.setIfInBounds_toArray]); (try simp only [List.set_cons_succ]); (try simp only [List.set_cons_zero])
      refine wpAnyH_take (i := 17) (oi := ({ dst := some 42, op := Op.call { callee := Callee.value (Operand.tmp 38), args := #[Operand.tmp 41], argTypes := #[76] }, type := 4, pos := _, after := #[{ on := 13, ground := Ground.data }, { on := 16, ground := Ground.data }, { on := 16, ground := Ground.chain }, { on := 11, ground := Ground.guard }], guard := some (11, false) } : Oper)) (v := undef) rfl (by kernel_rfl) (by kernel_rfl) (by kernel_rfl) (fun _ _ _ h => h) (Or.inr ⟨by rfl, rfl⟩) (by assumption) ?_
      (try simp only [Act.put]); (try simp only [List.setIfInBounds_toArray]); (try simp only [List.set_cons_succ]); (try simp only [List.set_cons_zero])
      refine wpAnyH_take (i := 18) (oi := ({ dst := some 43, op := Op.unOp UnOp.not 4 (Operand.tmp 42), type := 4, pos := _, after := #[{ on := 17, ground := Ground.data }, { on := 11, ground := Ground.guard }], guard := some (11, false) } : Oper)) (v := undef) rfl (by kernel_rfl) (by kernel_rfl) (by kernel_rfl) (fun _ _ _ h => h) (Or.inr ⟨by rfl, rfl⟩) (by assumption) ?_
      (try simp only [Act.put]); (try simp only [List.setIfInBounds_toArray]); (try simp only [List.set_cons_succ]); (try simp only [List.set_cons_zero])
      refine wpAnyH_take (i := 19) (oi := ({ dst := some 44, op := Op.pick (Operand.tmp 36) (Operand.const (Value.bool true)) (Operand.tmp 43), type := 4, pos := _, after := #[{ on := 11, ground := Ground.data }, { on := 18, ground := Ground.data }], guard := none } : Oper)) (v := ?_) rfl (by kernel_rfl) (by kernel_rfl) (by kernel_rfl) (fun _ _ _ h => h) (Or.inl ⟨by rfl, ?_⟩) (by assumption) ?_
      rotate_left
      · first | (intro W0 hSw; (try dsimp only at hSw); go_simp; done) | (intro W0 hSw; (try dsimp only at hSw); go_simp; with_reducible rfl)
      (try simp only [Act.put]); (try simp only [List.setIfInBounds_toArray]); (try simp only [List.set_cons_succ]); (try simp only [List.set_cons_zero])
      refine wpAnyH_done (by kernel_rfl) ?_ _
      clear hHeld
      obtain ⟨x1, x2, x3, x4, x5, x6⟩ := ret_end (unhide H5R) (unhide HBWW) (unhide HB) ((unhide HYY).trans ((unhide HBD).mono (unhide HYY).size))
      have HX := hide (And.intro x3 (And.intro x4 (And.intro x5 x6)))
      clear x3 x4 x5 x6
      gi_wp2
      first | exact ⟨unhide HR, (unhide HX).1, (unhide HX).2.2.2⟩ | exact ⟨unhide HR, (unhide HX).1, (unhide HX).2.1, x2, (unhide HX).2.2.2⟩ | exact .inr ⟨rfl, unhide HR, unhide HX⟩
  case done =>
    rintro hall D W hD hB hK
    have hr5 := (hB.block _ hlt5).trans h5r
    have hcr := cell_row _ _ 0 _ _ _ hr5
    have hfr : W.frozen? ⟨w.heap.size, 0, none⟩ = false := frozen_of_heap hr5 0
    have hBW := hBw.trans (hB.mono hBw.size)
    clear hseq h5k
    gi_wp2
    have hK' := (KeepsOthers.setCell W ⟨w.heap.size, 0, none⟩ (.bool true)).same D _ hK rfl
    refine ⟨by simp, .inl ⟨_, _, rfl, run_takeDeferred hK', ?_⟩⟩
    have hc5 := cell_kept (World.cell?_setCell_same' W ⟨w.heap.size, 0, none⟩ (.bool true) (by rw [hcr]; rfl)) (grownBy_putObj' _ D (.deferred none)) (fun r e => by cases e; exact ⟨_, hK', rfl⟩)
    refine ⟨.bool true, ?_, by rw [hall], (hBW.setCell (p := ⟨w.heap.size, 0, none⟩) (Nat.le_refl _) _).trans (belowK_b (w := w) (Nat.le_refl _) _ D _ _ (by omega) hK' rfl rfl)⟩
    simp [results, Tryz.results7, go_sem, hc5]
  case stop =>
    rintro hall D W hD ⟨hcr, _, hBW⟩ hK
    clear hseq h5k
    gi_wp2
    refine ⟨by simp, .inl ⟨_, _, rfl, run_takeDeferred hK, ?_⟩⟩
    have hc5 := cell_kept hcr (grownBy_putObj' _ D (.deferred none)) (fun r e => by cases e; exact ⟨_, hK, rfl⟩)
    refine ⟨.bool false, ?_, by rw [hall], hBW.trans (belowK_b (w := w) (Nat.le_refl _) W D _ _ (by omega) hK rfl rfl)⟩
    simp [results, Tryz.results7, go_sem, hc5]
end Go.Proofs.YtmnmaenmoaehlaaGreatDoor
