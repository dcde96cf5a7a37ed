/-
  The document's foreign: an attribute with its namespace, a name a theorem.
-/
import Derived.Test.YtgbinemombgckaaDoorDb
import Derived.Test.YtgbinemombgckaaDoorAs
namespace Go.Proofs.YtgbinemombgckaaDoor
open Go.RowKit Go.Lib

theorem of_list {s : ByteArray} {l : List UInt8} (h : (s.toList == l) = true) : s = ⟨l.toArray⟩ := by
  have h' : s.toList = l := by simpa using h
  rw [toList_data] at h'
  subst h'
  rfl
theorem box_last (w : World) (x : AttrM) (v0 v1 v2 v3 : Value) : Box4 ((w.alloc (.cells #[.int .i64 x.space, .string x.pre, .string x.name, .string x.val] 29)).alloc (.cells #[v0, v1, v2, v3] 29)) (w.heap.size + 1) v0 v1 v2 v3 := by
  have := Box4.new (w.alloc (.cells #[.int .i64 x.space, .string x.pre, .string x.name, .string x.val] 29)) v0 v1 v2 v3
  simpa using this
theorem below_two (w : World) (o o' : Obj) : Below w.heap.size w ((w.alloc o).alloc o') := (below_new w o).alloc (by simp) o'

set_option maxHeartbeats 4000000 in
theorem rfor_0 (x : AttrM) (w : World) (e0 : (x.name.toList == [120, 108, 105, 110, 107, 58, 97, 99, 116, 117, 97, 116, 101]) = true) : Calls Tryd.prog 18 #[.agg #[.int .i64 x.space, .string x.pre, .string x.name, .string x.val]] w fun e w' => e = .returned (.agg #[.int .i64 3, .string ⟨#[120, 108, 105, 110, 107]⟩, .string ⟨#[97, 99, 116, 117, 97, 116, 101]⟩, .string x.val]) ∧ Below w.heap.size w w' := by
  have hn := of_list e0
  have hsz : (6 : Int) ≤ (x.name.size : Int) := by rw [hn]; decide +kernel
  have HE : Hid (x.name.extract 6 x.name.size = ⟨#[97, 99, 116, 117, 97, 116, 101]⟩) := hide (by rw [hn]; decide +kernel)
  clear hn
  go_enter Tryd.func18, Tryd.ntmps18
  go_wp2
  go_region
  all_goals go_wp2
  all_goals exact bodyPost_ret (attr_ret (p := 2) Tryd.results18 (box_last w x _ _ _ _).dr _ rfl) rfl ⟨by rw [unhide HE], (below_two w _ _).drew⟩

set_option maxHeartbeats 4000000 in
theorem rfor_1 (x : AttrM) (w : World) (e0 : (x.name.toList == [120, 108, 105, 110, 107, 58, 97, 99, 116, 117, 97, 116, 101]) = false) (e1 : (x.name.toList == [120, 108, 105, 110, 107, 58, 97, 114, 99, 114, 111, 108, 101]) = true) : Calls Tryd.prog 18 #[.agg #[.int .i64 x.space, .string x.pre, .string x.name, .string x.val]] w fun e w' => e = .returned (.agg #[.int .i64 3, .string ⟨#[120, 108, 105, 110, 107]⟩, .string ⟨#[97, 114, 99, 114, 111, 108, 101]⟩, .string x.val]) ∧ Below w.heap.size w w' := by
  have hn := of_list e1
  have hsz : (6 : Int) ≤ (x.name.size : Int) := by rw [hn]; decide +kernel
  have HE : Hid (x.name.extract 6 x.name.size = ⟨#[97, 114, 99, 114, 111, 108, 101]⟩) := hide (by rw [hn]; decide +kernel)
  clear hn
  go_enter Tryd.func18, Tryd.ntmps18
  go_wp2
  go_region
  all_goals go_wp2
  all_goals exact bodyPost_ret (attr_ret (p := 2) Tryd.results18 (box_last w x _ _ _ _).dr _ rfl) rfl ⟨by rw [unhide HE], (below_two w _ _).drew⟩

set_option maxHeartbeats 4000000 in
theorem rfor_2 (x : AttrM) (w : World) (e0 : (x.name.toList == [120, 108, 105, 110, 107, 58, 97, 99, 116, 117, 97, 116, 101]) = false) (e1 : (x.name.toList == [120, 108, 105, 110, 107, 58, 97, 114, 99, 114, 111, 108, 101]) = false) (e2 : (x.name.toList == [120, 108, 105, 110, 107, 58, 104, 114, 101, 102]) = true) : Calls Tryd.prog 18 #[.agg #[.int .i64 x.space, .string x.pre, .string x.name, .string x.val]] w fun e w' => e = .returned (.agg #[.int .i64 3, .string ⟨#[120, 108, 105, 110, 107]⟩, .string ⟨#[104, 114, 101, 102]⟩, .string x.val]) ∧ Below w.heap.size w w' := by
  have hn := of_list e2
  have hsz : (6 : Int) ≤ (x.name.size : Int) := by rw [hn]; decide +kernel
  have HE : Hid (x.name.extract 6 x.name.size = ⟨#[104, 114, 101, 102]⟩) := hide (by rw [hn]; decide +kernel)
  clear hn
  go_enter Tryd.func18, Tryd.ntmps18
  go_wp2
  go_region
  all_goals go_wp2
  all_goals exact bodyPost_ret (attr_ret (p := 2) Tryd.results18 (box_last w x _ _ _ _).dr _ rfl) rfl ⟨by rw [unhide HE], (below_two w _ _).drew⟩

set_option maxHeartbeats 4000000 in
theorem rfor_3 (x : AttrM) (w : World) (e0 : (x.name.toList == [120, 108, 105, 110, 107, 58, 97, 99, 116, 117, 97, 116, 101]) = false) (e1 : (x.name.toList == [120, 108, 105, 110, 107, 58, 97, 114, 99, 114, 111, 108, 101]) = false) (e2 : (x.name.toList == [120, 108, 105, 110, 107, 58, 104, 114, 101, 102]) = false) (e3 : (x.name.toList == [120, 108, 105, 110, 107, 58, 114, 111, 108, 101]) = true) : Calls Tryd.prog 18 #[.agg #[.int .i64 x.space, .string x.pre, .string x.name, .string x.val]] w fun e w' => e = .returned (.agg #[.int .i64 3, .string ⟨#[120, 108, 105, 110, 107]⟩, .string ⟨#[114, 111, 108, 101]⟩, .string x.val]) ∧ Below w.heap.size w w' := by
  have hn := of_list e3
  have hsz : (6 : Int) ≤ (x.name.size : Int) := by rw [hn]; decide +kernel
  have HE : Hid (x.name.extract 6 x.name.size = ⟨#[114, 111, 108, 101]⟩) := hide (by rw [hn]; decide +kernel)
  clear hn
  go_enter Tryd.func18, Tryd.ntmps18
  go_wp2
  go_region
  all_goals go_wp2
  all_goals exact bodyPost_ret (attr_ret (p := 2) Tryd.results18 (box_last w x _ _ _ _).dr _ rfl) rfl ⟨by rw [unhide HE], (below_two w _ _).drew⟩

set_option maxHeartbeats 4000000 in
theorem rfor_4 (x : AttrM) (w : World) (e0 : (x.name.toList == [120, 108, 105, 110, 107, 58, 97, 99, 116, 117, 97, 116, 101]) = false) (e1 : (x.name.toList == [120, 108, 105, 110, 107, 58, 97, 114, 99, 114, 111, 108, 101]) = false) (e2 : (x.name.toList == [120, 108, 105, 110, 107, 58, 104, 114, 101, 102]) = false) (e3 : (x.name.toList == [120, 108, 105, 110, 107, 58, 114, 111, 108, 101]) = false) (e4 : (x.name.toList == [120, 108, 105, 110, 107, 58, 115, 104, 111, 119]) = true) : Calls Tryd.prog 18 #[.agg #[.int .i64 x.space, .string x.pre, .string x.name, .string x.val]] w fun e w' => e = .returned (.agg #[.int .i64 3, .string ⟨#[120, 108, 105, 110, 107]⟩, .string ⟨#[115, 104, 111, 119]⟩, .string x.val]) ∧ Below w.heap.size w w' := by
  have hn := of_list e4
  have hsz : (6 : Int) ≤ (x.name.size : Int) := by rw [hn]; decide +kernel
  have HE : Hid (x.name.extract 6 x.name.size = ⟨#[115, 104, 111, 119]⟩) := hide (by rw [hn]; decide +kernel)
  clear hn
  go_enter Tryd.func18, Tryd.ntmps18
  go_wp2
  go_region
  all_goals go_wp2
  all_goals exact bodyPost_ret (attr_ret (p := 2) Tryd.results18 (box_last w x _ _ _ _).dr _ rfl) rfl ⟨by rw [unhide HE], (below_two w _ _).drew⟩

set_option maxHeartbeats 4000000 in
theorem rfor_5 (x : AttrM) (w : World) (e0 : (x.name.toList == [120, 108, 105, 110, 107, 58, 97, 99, 116, 117, 97, 116, 101]) = false) (e1 : (x.name.toList == [120, 108, 105, 110, 107, 58, 97, 114, 99, 114, 111, 108, 101]) = false) (e2 : (x.name.toList == [120, 108, 105, 110, 107, 58, 104, 114, 101, 102]) = false) (e3 : (x.name.toList == [120, 108, 105, 110, 107, 58, 114, 111, 108, 101]) = false) (e4 : (x.name.toList == [120, 108, 105, 110, 107, 58, 115, 104, 111, 119]) = false) (e5 : (x.name.toList == [120, 108, 105, 110, 107, 58, 116, 105, 116, 108, 101]) = true) : Calls Tryd.prog 18 #[.agg #[.int .i64 x.space, .string x.pre, .string x.name, .string x.val]] w fun e w' => e = .returned (.agg #[.int .i64 3, .string ⟨#[120, 108, 105, 110, 107]⟩, .string ⟨#[116, 105, 116, 108, 101]⟩, .string x.val]) ∧ Below w.heap.size w w' := by
  have hn := of_list e5
  have hsz : (6 : Int) ≤ (x.name.size : Int) := by rw [hn]; decide +kernel
  have HE : Hid (x.name.extract 6 x.name.size = ⟨#[116, 105, 116, 108, 101]⟩) := hide (by rw [hn]; decide +kernel)
  clear hn
  go_enter Tryd.func18, Tryd.ntmps18
  go_wp2
  go_region
  all_goals go_wp2
  all_goals exact bodyPost_ret (attr_ret (p := 2) Tryd.results18 (box_last w x _ _ _ _).dr _ rfl) rfl ⟨by rw [unhide HE], (below_two w _ _).drew⟩

set_option maxHeartbeats 4000000 in
theorem rfor_6 (x : AttrM) (w : World) (e0 : (x.name.toList == [120, 108, 105, 110, 107, 58, 97, 99, 116, 117, 97, 116, 101]) = false) (e1 : (x.name.toList == [120, 108, 105, 110, 107, 58, 97, 114, 99, 114, 111, 108, 101]) = false) (e2 : (x.name.toList == [120, 108, 105, 110, 107, 58, 104, 114, 101, 102]) = false) (e3 : (x.name.toList == [120, 108, 105, 110, 107, 58, 114, 111, 108, 101]) = false) (e4 : (x.name.toList == [120, 108, 105, 110, 107, 58, 115, 104, 111, 119]) = false) (e5 : (x.name.toList == [120, 108, 105, 110, 107, 58, 116, 105, 116, 108, 101]) = false) (e6 : (x.name.toList == [120, 108, 105, 110, 107, 58, 116, 121, 112, 101]) = true) : Calls Tryd.prog 18 #[.agg #[.int .i64 x.space, .string x.pre, .string x.name, .string x.val]] w fun e w' => e = .returned (.agg #[.int .i64 3, .string ⟨#[120, 108, 105, 110, 107]⟩, .string ⟨#[116, 121, 112, 101]⟩, .string x.val]) ∧ Below w.heap.size w w' := by
  have hn := of_list e6
  have hsz : (6 : Int) ≤ (x.name.size : Int) := by rw [hn]; decide +kernel
  have HE : Hid (x.name.extract 6 x.name.size = ⟨#[116, 121, 112, 101]⟩) := hide (by rw [hn]; decide +kernel)
  clear hn
  go_enter Tryd.func18, Tryd.ntmps18
  go_wp2
  go_region
  all_goals go_wp2
  all_goals exact bodyPost_ret (attr_ret (p := 2) Tryd.results18 (box_last w x _ _ _ _).dr _ rfl) rfl ⟨by rw [unhide HE], (below_two w _ _).drew⟩

set_option maxHeartbeats 4000000 in
theorem rfor_7 (x : AttrM) (w : World) (e0 : (x.name.toList == [120, 108, 105, 110, 107, 58, 97, 99, 116, 117, 97, 116, 101]) = false) (e1 : (x.name.toList == [120, 108, 105, 110, 107, 58, 97, 114, 99, 114, 111, 108, 101]) = false) (e2 : (x.name.toList == [120, 108, 105, 110, 107, 58, 104, 114, 101, 102]) = false) (e3 : (x.name.toList == [120, 108, 105, 110, 107, 58, 114, 111, 108, 101]) = false) (e4 : (x.name.toList == [120, 108, 105, 110, 107, 58, 115, 104, 111, 119]) = false) (e5 : (x.name.toList == [120, 108, 105, 110, 107, 58, 116, 105, 116, 108, 101]) = false) (e6 : (x.name.toList == [120, 108, 105, 110, 107, 58, 116, 121, 112, 101]) = false) (e7 : (x.name.toList == [120, 109, 108, 58, 108, 97, 110, 103]) = true) : Calls Tryd.prog 18 #[.agg #[.int .i64 x.space, .string x.pre, .string x.name, .string x.val]] w fun e w' => e = .returned (.agg #[.int .i64 4, .string ⟨#[120, 109, 108]⟩, .string ⟨#[108, 97, 110, 103]⟩, .string x.val]) ∧ Below w.heap.size w w' := by
  have hn := of_list e7
  have hsz : (4 : Int) ≤ (x.name.size : Int) := by rw [hn]; decide +kernel
  have HE : Hid (x.name.extract 4 x.name.size = ⟨#[108, 97, 110, 103]⟩) := hide (by rw [hn]; decide +kernel)
  clear hn
  go_enter Tryd.func18, Tryd.ntmps18
  go_wp2
  go_region
  all_goals go_wp2
  all_goals exact bodyPost_ret (attr_ret (p := 2) Tryd.results18 (box_last w x _ _ _ _).dr _ rfl) rfl ⟨by rw [unhide HE], (below_two w _ _).drew⟩

set_option maxHeartbeats 4000000 in
theorem rfor_8 (x : AttrM) (w : World) (e0 : (x.name.toList == [120, 108, 105, 110, 107, 58, 97, 99, 116, 117, 97, 116, 101]) = false) (e1 : (x.name.toList == [120, 108, 105, 110, 107, 58, 97, 114, 99, 114, 111, 108, 101]) = false) (e2 : (x.name.toList == [120, 108, 105, 110, 107, 58, 104, 114, 101, 102]) = false) (e3 : (x.name.toList == [120, 108, 105, 110, 107, 58, 114, 111, 108, 101]) = false) (e4 : (x.name.toList == [120, 108, 105, 110, 107, 58, 115, 104, 111, 119]) = false) (e5 : (x.name.toList == [120, 108, 105, 110, 107, 58, 116, 105, 116, 108, 101]) = false) (e6 : (x.name.toList == [120, 108, 105, 110, 107, 58, 116, 121, 112, 101]) = false) (e7 : (x.name.toList == [120, 109, 108, 58, 108, 97, 110, 103]) = false) (e8 : (x.name.toList == [120, 109, 108, 58, 115, 112, 97, 99, 101]) = true) : Calls Tryd.prog 18 #[.agg #[.int .i64 x.space, .string x.pre, .string x.name, .string x.val]] w fun e w' => e = .returned (.agg #[.int .i64 4, .string ⟨#[120, 109, 108]⟩, .string ⟨#[115, 112, 97, 99, 101]⟩, .string x.val]) ∧ Below w.heap.size w w' := by
  have hn := of_list e8
  have hsz : (4 : Int) ≤ (x.name.size : Int) := by rw [hn]; decide +kernel
  have HE : Hid (x.name.extract 4 x.name.size = ⟨#[115, 112, 97, 99, 101]⟩) := hide (by rw [hn]; decide +kernel)
  clear hn
  go_enter Tryd.func18, Tryd.ntmps18
  go_wp2
  go_region
  all_goals go_wp2
  all_goals exact bodyPost_ret (attr_ret (p := 2) Tryd.results18 (box_last w x _ _ _ _).dr _ rfl) rfl ⟨by rw [unhide HE], (below_two w _ _).drew⟩

set_option maxHeartbeats 4000000 in
theorem rfor_9 (x : AttrM) (w : World) (e0 : (x.name.toList == [120, 108, 105, 110, 107, 58, 97, 99, 116, 117, 97, 116, 101]) = false) (e1 : (x.name.toList == [120, 108, 105, 110, 107, 58, 97, 114, 99, 114, 111, 108, 101]) = false) (e2 : (x.name.toList == [120, 108, 105, 110, 107, 58, 104, 114, 101, 102]) = false) (e3 : (x.name.toList == [120, 108, 105, 110, 107, 58, 114, 111, 108, 101]) = false) (e4 : (x.name.toList == [120, 108, 105, 110, 107, 58, 115, 104, 111, 119]) = false) (e5 : (x.name.toList == [120, 108, 105, 110, 107, 58, 116, 105, 116, 108, 101]) = false) (e6 : (x.name.toList == [120, 108, 105, 110, 107, 58, 116, 121, 112, 101]) = false) (e7 : (x.name.toList == [120, 109, 108, 58, 108, 97, 110, 103]) = false) (e8 : (x.name.toList == [120, 109, 108, 58, 115, 112, 97, 99, 101]) = false) (e9 : (x.name.toList == [120, 109, 108, 110, 115]) = true) : Calls Tryd.prog 18 #[.agg #[.int .i64 x.space, .string x.pre, .string x.name, .string x.val]] w fun e w' => e = .returned (.agg #[.int .i64 5, .string ⟨#[]⟩, .string ⟨#[120, 109, 108, 110, 115]⟩, .string x.val]) ∧ Below w.heap.size w w' := by
  go_enter Tryd.func18, Tryd.ntmps18
  go_wp2
  exact bodyPost_ret (attr_ret (p := 2) Tryd.results18 (box_last w x _ _ _ _) _ rfl) rfl ⟨rfl, below_two w _ _⟩

set_option maxHeartbeats 4000000 in
theorem rfor_10 (x : AttrM) (w : World) (e0 : (x.name.toList == [120, 108, 105, 110, 107, 58, 97, 99, 116, 117, 97, 116, 101]) = false) (e1 : (x.name.toList == [120, 108, 105, 110, 107, 58, 97, 114, 99, 114, 111, 108, 101]) = false) (e2 : (x.name.toList == [120, 108, 105, 110, 107, 58, 104, 114, 101, 102]) = false) (e3 : (x.name.toList == [120, 108, 105, 110, 107, 58, 114, 111, 108, 101]) = false) (e4 : (x.name.toList == [120, 108, 105, 110, 107, 58, 115, 104, 111, 119]) = false) (e5 : (x.name.toList == [120, 108, 105, 110, 107, 58, 116, 105, 116, 108, 101]) = false) (e6 : (x.name.toList == [120, 108, 105, 110, 107, 58, 116, 121, 112, 101]) = false) (e7 : (x.name.toList == [120, 109, 108, 58, 108, 97, 110, 103]) = false) (e8 : (x.name.toList == [120, 109, 108, 58, 115, 112, 97, 99, 101]) = false) (e9 : (x.name.toList == [120, 109, 108, 110, 115]) = false) (e10 : (x.name.toList == [120, 109, 108, 110, 115, 58, 120, 108, 105, 110, 107]) = true) : Calls Tryd.prog 18 #[.agg #[.int .i64 x.space, .string x.pre, .string x.name, .string x.val]] w fun e w' => e = .returned (.agg #[.int .i64 5, .string ⟨#[120, 109, 108, 110, 115]⟩, .string ⟨#[120, 108, 105, 110, 107]⟩, .string x.val]) ∧ Below w.heap.size w w' := by
  go_enter Tryd.func18, Tryd.ntmps18
  go_wp2
  exact bodyPost_ret (attr_ret (p := 2) Tryd.results18 (box_last w x _ _ _ _) _ rfl) rfl ⟨rfl, below_two w _ _⟩

set_option maxHeartbeats 4000000 in
theorem rfor_11 (x : AttrM) (w : World) (e0 : (x.name.toList == [120, 108, 105, 110, 107, 58, 97, 99, 116, 117, 97, 116, 101]) = false) (e1 : (x.name.toList == [120, 108, 105, 110, 107, 58, 97, 114, 99, 114, 111, 108, 101]) = false) (e2 : (x.name.toList == [120, 108, 105, 110, 107, 58, 104, 114, 101, 102]) = false) (e3 : (x.name.toList == [120, 108, 105, 110, 107, 58, 114, 111, 108, 101]) = false) (e4 : (x.name.toList == [120, 108, 105, 110, 107, 58, 115, 104, 111, 119]) = false) (e5 : (x.name.toList == [120, 108, 105, 110, 107, 58, 116, 105, 116, 108, 101]) = false) (e6 : (x.name.toList == [120, 108, 105, 110, 107, 58, 116, 121, 112, 101]) = false) (e7 : (x.name.toList == [120, 109, 108, 58, 108, 97, 110, 103]) = false) (e8 : (x.name.toList == [120, 109, 108, 58, 115, 112, 97, 99, 101]) = false) (e9 : (x.name.toList == [120, 109, 108, 110, 115]) = false) (e10 : (x.name.toList == [120, 109, 108, 110, 115, 58, 120, 108, 105, 110, 107]) = false) : Calls Tryd.prog 18 #[.agg #[.int .i64 x.space, .string x.pre, .string x.name, .string x.val]] w fun e w' => e = .returned (.agg #[.int .i64 x.space, .string x.pre, .string x.name, .string x.val]) ∧ Below w.heap.size w w' := by
  go_enter Tryd.func18, Tryd.ntmps18
  go_wp2
  exact bodyPost_ret (attr_ret (p := 2) Tryd.results18 (box_last w x _ _ _ _) _ rfl) rfl ⟨rfl, below_two w _ _⟩

theorem isName0 (x : AttrM) (h0 : x.space = 0) (n : ByteArray) : isName x n = (x.name.toList == n.data.toList) := by simp [isName, h0, toList_data]
theorem rforeign_any (x : AttrM) (h0 : x.space = 0) (w : World) : Calls Tryd.prog 18 #[.agg #[.int .i64 x.space, .string x.pre, .string x.name, .string x.val]] w fun e w' => e = .returned (.agg #[.int .i64 (forF x).space, .string (forF x).pre, .string (forF x).name, .string (forF x).val]) ∧ Below w.heap.size w w' := by
  have F0 := isName0 x h0 ⟨#[120, 108, 105, 110, 107, 58, 97, 99, 116, 117, 97, 116, 101]⟩
  have F1 := isName0 x h0 ⟨#[120, 108, 105, 110, 107, 58, 97, 114, 99, 114, 111, 108, 101]⟩
  have F2 := isName0 x h0 ⟨#[120, 108, 105, 110, 107, 58, 104, 114, 101, 102]⟩
  have F3 := isName0 x h0 ⟨#[120, 108, 105, 110, 107, 58, 114, 111, 108, 101]⟩
  have F4 := isName0 x h0 ⟨#[120, 108, 105, 110, 107, 58, 115, 104, 111, 119]⟩
  have F5 := isName0 x h0 ⟨#[120, 108, 105, 110, 107, 58, 116, 105, 116, 108, 101]⟩
  have F6 := isName0 x h0 ⟨#[120, 108, 105, 110, 107, 58, 116, 121, 112, 101]⟩
  have F7 := isName0 x h0 ⟨#[120, 109, 108, 58, 108, 97, 110, 103]⟩
  have F8 := isName0 x h0 ⟨#[120, 109, 108, 58, 115, 112, 97, 99, 101]⟩
  have F9 := isName0 x h0 ⟨#[120, 109, 108, 110, 115]⟩
  have F10 := isName0 x h0 ⟨#[120, 109, 108, 110, 115, 58, 120, 108, 105, 110, 107]⟩
  cases e0 : (x.name.toList == [120, 108, 105, 110, 107, 58, 97, 99, 116, 117, 97, 116, 101]) with
  | true =>
    have hF : forF x = forOf x ⟨⟨#[120, 108, 105, 110, 107, 58, 97, 99, 116, 117, 97, 116, 101]⟩, 3, ⟨#[120, 108, 105, 110, 107]⟩, ⟨#[97, 99, 116, 117, 97, 116, 101]⟩⟩ := by
      simp only [forF, findR, rows, List.find?_cons, F0, e0]
    rw [hF]
    exact rfor_0 x w e0
  | false =>
    cases e1 : (x.name.toList == [120, 108, 105, 110, 107, 58, 97, 114, 99, 114, 111, 108, 101]) with
    | true =>
      have hF : forF x = forOf x ⟨⟨#[120, 108, 105, 110, 107, 58, 97, 114, 99, 114, 111, 108, 101]⟩, 3, ⟨#[120, 108, 105, 110, 107]⟩, ⟨#[97, 114, 99, 114, 111, 108, 101]⟩⟩ := by
        simp only [forF, findR, rows, List.find?_cons, F0, F1, e0, e1]
      rw [hF]
      exact rfor_1 x w e0 e1
    | false =>
      cases e2 : (x.name.toList == [120, 108, 105, 110, 107, 58, 104, 114, 101, 102]) with
      | true =>
        have hF : forF x = forOf x ⟨⟨#[120, 108, 105, 110, 107, 58, 104, 114, 101, 102]⟩, 3, ⟨#[120, 108, 105, 110, 107]⟩, ⟨#[104, 114, 101, 102]⟩⟩ := by
          simp only [forF, findR, rows, List.find?_cons, F0, F1, F2, e0, e1, e2]
        rw [hF]
        exact rfor_2 x w e0 e1 e2
      | false =>
        cases e3 : (x.name.toList == [120, 108, 105, 110, 107, 58, 114, 111, 108, 101]) with
        | true =>
          have hF : forF x = forOf x ⟨⟨#[120, 108, 105, 110, 107, 58, 114, 111, 108, 101]⟩, 3, ⟨#[120, 108, 105, 110, 107]⟩, ⟨#[114, 111, 108, 101]⟩⟩ := by
            simp only [forF, findR, rows, List.find?_cons, F0, F1, F2, F3, e0, e1, e2, e3]
          rw [hF]
          exact rfor_3 x w e0 e1 e2 e3
        | false =>
          cases e4 : (x.name.toList == [120, 108, 105, 110, 107, 58, 115, 104, 111, 119]) with
          | true =>
            have hF : forF x = forOf x ⟨⟨#[120, 108, 105, 110, 107, 58, 115, 104, 111, 119]⟩, 3, ⟨#[120, 108, 105, 110, 107]⟩, ⟨#[115, 104, 111, 119]⟩⟩ := by
              simp only [forF, findR, rows, List.find?_cons, F0, F1, F2, F3, F4, e0, e1, e2, e3, e4]
            rw [hF]
            exact rfor_4 x w e0 e1 e2 e3 e4
          | false =>
            cases e5 : (x.name.toList == [120, 108, 105, 110, 107, 58, 116, 105, 116, 108, 101]) with
            | true =>
              have hF : forF x = forOf x ⟨⟨#[120, 108, 105, 110, 107, 58, 116, 105, 116, 108, 101]⟩, 3, ⟨#[120, 108, 105, 110, 107]⟩, ⟨#[116, 105, 116, 108, 101]⟩⟩ := by
                simp only [forF, findR, rows, List.find?_cons, F0, F1, F2, F3, F4, F5, e0, e1, e2, e3, e4, e5]
              rw [hF]
              exact rfor_5 x w e0 e1 e2 e3 e4 e5
            | false =>
              cases e6 : (x.name.toList == [120, 108, 105, 110, 107, 58, 116, 121, 112, 101]) with
              | true =>
                have hF : forF x = forOf x ⟨⟨#[120, 108, 105, 110, 107, 58, 116, 121, 112, 101]⟩, 3, ⟨#[120, 108, 105, 110, 107]⟩, ⟨#[116, 121, 112, 101]⟩⟩ := by
                  simp only [forF, findR, rows, List.find?_cons, F0, F1, F2, F3, F4, F5, F6, e0, e1, e2, e3, e4, e5, e6]
                rw [hF]
                exact rfor_6 x w e0 e1 e2 e3 e4 e5 e6
              | false =>
                cases e7 : (x.name.toList == [120, 109, 108, 58, 108, 97, 110, 103]) with
                | true =>
                  have hF : forF x = forOf x ⟨⟨#[120, 109, 108, 58, 108, 97, 110, 103]⟩, 4, ⟨#[120, 109, 108]⟩, ⟨#[108, 97, 110, 103]⟩⟩ := by
                    simp only [forF, findR, rows, List.find?_cons, F0, F1, F2, F3, F4, F5, F6, F7, e0, e1, e2, e3, e4, e5, e6, e7]
                  rw [hF]
                  exact rfor_7 x w e0 e1 e2 e3 e4 e5 e6 e7
                | false =>
                  cases e8 : (x.name.toList == [120, 109, 108, 58, 115, 112, 97, 99, 101]) with
                  | true =>
                    have hF : forF x = forOf x ⟨⟨#[120, 109, 108, 58, 115, 112, 97, 99, 101]⟩, 4, ⟨#[120, 109, 108]⟩, ⟨#[115, 112, 97, 99, 101]⟩⟩ := by
                      simp only [forF, findR, rows, List.find?_cons, F0, F1, F2, F3, F4, F5, F6, F7, F8, e0, e1, e2, e3, e4, e5, e6, e7, e8]
                    rw [hF]
                    exact rfor_8 x w e0 e1 e2 e3 e4 e5 e6 e7 e8
                  | false =>
                    cases e9 : (x.name.toList == [120, 109, 108, 110, 115]) with
                    | true =>
                      have hF : forF x = forOf x ⟨⟨#[120, 109, 108, 110, 115]⟩, 5, ⟨#[]⟩, ⟨#[120, 109, 108, 110, 115]⟩⟩ := by
                        simp only [forF, findR, rows, List.find?_cons, F0, F1, F2, F3, F4, F5, F6, F7, F8, F9, e0, e1, e2, e3, e4, e5, e6, e7, e8, e9]
                      rw [hF]
                      exact rfor_9 x w e0 e1 e2 e3 e4 e5 e6 e7 e8 e9
                    | false =>
                      cases e10 : (x.name.toList == [120, 109, 108, 110, 115, 58, 120, 108, 105, 110, 107]) with
                      | true =>
                        have hF : forF x = forOf x ⟨⟨#[120, 109, 108, 110, 115, 58, 120, 108, 105, 110, 107]⟩, 5, ⟨#[120, 109, 108, 110, 115]⟩, ⟨#[120, 108, 105, 110, 107]⟩⟩ := by
                          simp only [forF, findR, rows, List.find?_cons, F0, F1, F2, F3, F4, F5, F6, F7, F8, F9, F10, e0, e1, e2, e3, e4, e5, e6, e7, e8, e9, e10]
                        rw [hF]
                        exact rfor_10 x w e0 e1 e2 e3 e4 e5 e6 e7 e8 e9 e10
                      | false =>
                        have hF : forF x = x := by
                          simp only [forF, findR, rows, List.find?_cons, List.find?_nil, F0, F1, F2, F3, F4, F5, F6, F7, F8, F9, F10, e0, e1, e2, e3, e4, e5, e6, e7, e8, e9, e10]
                        rw [hF]
                        exact rfor_11 x w e0 e1 e2 e3 e4 e5 e6 e7 e8 e9 e10
end Go.Proofs.YtgbinemombgckaaDoor
