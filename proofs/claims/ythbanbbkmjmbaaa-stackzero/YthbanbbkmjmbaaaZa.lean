/-
  A stack that nobody made: every call.
-/
import Derived.Test.YthbanbbkmjmbaaaProg
import Derived.WalkKit
import Derived.WalkSpells
import Derived.ArgAppend
import Derived.OwnWalk
import Derived.Deep.LoopGhost
namespace Go.Proofs.Ythbanbbkmjmbaaa
open Go.RowKit

theorem hide {p : Prop} (h : p) : Hid p := h
theorem unhide {p : Prop} (h : Hid p) : p := h
theorem below_new (w : World) (o : Obj) : Below w.heap.size w (w.alloc o) := (Below.refl _ w).alloc (Nat.le_refl _) _
theorem below_box {w w1 : World} {o : Obj} (hb : Below (w.alloc o).heap.size (w.alloc o) w1) : Below w.heap.size w w1 := (below_new w o).trans (hb.mono (by simp))
theorem alloc_kept (w : World) (o : Obj) (w1 : World) (hb : Below (w.alloc o).heap.size (w.alloc o) w1) : w1.heap[w.heap.size]? = some o := by
  have h0 : (w.alloc o).heap[w.heap.size]? = some o := heap_alloc_new w o
  exact (hb.block _ (Array.getElem?_eq_some_iff.1 h0).1).trans h0

/-- What look tells of a number that is no element's. -/
def known0 : Value := .agg #[.int .i64 0, .string ⟨#[]⟩, .bool false, .bool false, .bool false, .bool false, .bool false, .bool false]
def known0O : Obj := .cells #[.int .i64 0, .string ⟨#[]⟩, .bool false, .bool false, .bool false, .bool false, .bool false, .bool false] 91
theorem look_ret0 (W : World) (b : Nat) (h : W.heap[b]? = some (.cells #[.int .i64 0, .string ⟨#[]⟩, .bool false, .bool false, .bool false, .bool false, .bool false, .bool false] 91 (0, 0))) (tmps : Array Value) (x : Value) (h4 : tmps.getD 4 undef = .pointer (some ⟨b, 0, none⟩)) (h5 : tmps.getD 5 undef = x) :
    (results Try.f61 tmps).run Try.prog W = .ok (.tuple #[known0, x]) W := by
  rw [results_cell_tmp (p := 4) (u := 5) (ty := 91) Try.results61 tmps Try.prog W, h4, h5]
  have c : ∀ j : Nat, W.cell? ⟨b, j, none⟩ = (#[.int .i64 0, .string ⟨#[]⟩, .bool false, .bool false, .bool false, .bool false, .bool false, .bool false] : Array Value)[j]? := fun j => by simp [World.cell?, h]
  have c0 := c 0
  have c1 := c 1
  have c2 := c 2
  have c3 := c 3
  have c4 := c 4
  have c5 := c 5
  have c6 := c 6
  have c7 := c 7
  simp at c0 c1 c2 c3 c4 c5 c6 c7
  simp [go_sem, c0, c1, c2, c3, c4, c5, c6, c7, known0]

/-- No stack, or one that no call made. -/
def Dead (w : World) (v : Value) : Prop := v = .pointer none ∨ ∃ b, v = .pointer (some ⟨b, 0, none⟩) ∧ w.cell? ⟨b, 1, none⟩ = some (.pointer none)
theorem Dead.below {w w' : World} {v : Value} (h : Dead w v) (hb : Below w.heap.size w w') : Dead w' v := by
  rcases h with h | ⟨b, e, hc⟩
  · exact .inl h
  · exact .inr ⟨b, e, (hb.cell (p := ⟨b, 1, none⟩) (World.block_lt_of_cell? w _ hc)).trans hc⟩

section
variable {w : World} {v : Value}
theorem made_d (h : Dead w v) : Calls Try.prog 49 #[v] w fun e w' => e = .returned (.bool false) ∧ w = w' := by
  rcases h with rfl | ⟨b, rfl, hc⟩
  · go_enter Try.func49, Try.ntmps49
    go_wp2
    go_ret
    exact ⟨rfl, rfl⟩
  · go_enter Try.func49, Try.ntmps49
    go_wp2
    go_ret
    exact ⟨rfl, rfl⟩

theorem len_d (h : Dead w v)  : Calls Try.prog 21 #[v] w fun e w' => e = .returned (.int .i64 0) ∧ w = w' := by
  have H0 := hide (made_d h)
  clear h
  go_enter Try.func21, Try.ntmps21
  go_wp2_with (first | (go_at_call 49; refine (unhide H0).mono ?_; rintro e w1 ⟨rfl, rfl⟩))
  go_ret
  exact ⟨rfl, rfl⟩

theorem at_d (h : Dead w v) (i : Int) : Calls Try.prog 26 #[v, .int .i64 i] w fun e w' => e = .returned (.int .i64 (-1)) ∧ w = w' := by
  have H0 := hide (len_d h)
  clear h
  by_cases hi : i < 0
  · go_enter Try.func26, Try.ntmps26
    go_wp2
    go_ret
    exact ⟨rfl, rfl⟩
  · have hj : (0 : Int) ≤ i := by omega
    go_enter Try.func26, Try.ntmps26
    go_wp2_with (go_at_call 21; refine (unhide H0).mono ?_; rintro e w1 ⟨rfl, rfl⟩)
    go_ret
    exact ⟨rfl, rfl⟩

theorem top_d (h : Dead w v)  : Calls Try.prog 23 #[v] w fun e w' => e = .returned (.int .i64 (-1)) ∧ w = w' := by
  have H0 := hide (len_d h)
  have H1 := hide (at_d h (-1))
  clear h
  go_enter Try.func23, Try.ntmps23
  go_wp2_with (first | (go_at_call 21; refine (unhide H0).mono ?_; rintro e w1 ⟨rfl, rfl⟩) | (go_at_call 26; refine (unhide H1).mono ?_; rintro e w2 ⟨rfl, rfl⟩))
  go_ret
  exact ⟨rfl, rfl⟩

theorem find_d (h : Dead w v) (id : Int) : Calls Try.prog 12 #[v, .int .i64 id] w fun e w' => e = .returned (.int .i64 (-1)) ∧ w = w' := by
  have H0 := hide (made_d h)
  clear h
  go_enter Try.func12, Try.ntmps12
  go_wp2_with (first | (go_at_call 49; refine (unhide H0).mono ?_; rintro e w1 ⟨rfl, rfl⟩))
  go_ret
  exact ⟨rfl, rfl⟩

theorem mayenter_d (h : Dead w v) (id : Int) : Calls Try.prog 56 #[v, .int .i64 id] w fun e w' => e = .returned (.int .i64 7) ∧ w = w' := by
  have H0 := hide (made_d h)
  clear h
  go_enter Try.func56, Try.ntmps56
  go_wp2_with (first | (go_at_call 49; refine (unhide H0).mono ?_; rintro e w1 ⟨rfl, rfl⟩))
  go_ret
  exact ⟨rfl, rfl⟩

theorem push_d (h : Dead w v) (id : Int) : Calls Try.prog 18 #[v, .int .i64 id] w fun e w' => e = .returned (.int .i64 7) ∧ w = w' := by
  have H0 := hide (mayenter_d h id)
  clear h
  go_enter Try.func18, Try.ntmps18
  go_wp2_with (first | (go_at_call 56; refine (unhide H0).mono ?_; rintro e w1 ⟨rfl, rfl⟩))
  go_ret
  exact ⟨rfl, rfl⟩

theorem pop_d (h : Dead w v)  : Calls Try.prog 25 #[v] w fun e w' => e = .returned (.int .i64 (-1)) ∧ w = w' := by
  have H0 := hide (top_d h)
  clear h
  go_enter Try.func25, Try.ntmps25
  go_wp2_with (first | (go_at_call 23; refine (unhide H0).mono ?_; rintro e w1 ⟨rfl, rfl⟩))
  go_ret
  exact ⟨rfl, rfl⟩

theorem remove_d (h : Dead w v) (id : Int) : Calls Try.prog 27 #[v, .int .i64 id] w fun e w' => e = .returned (.int .i64 7) ∧ w = w' := by
  have H0 := hide (made_d h)
  clear h
  go_enter Try.func27, Try.ntmps27
  go_wp2_with (first | (go_at_call 49; refine (unhide H0).mono ?_; rintro e w1 ⟨rfl, rfl⟩))
  go_ret
  exact ⟨rfl, rfl⟩

theorem put_d (h : Dead w v) (i : Int) (id : Int) : Calls Try.prog 28 #[v, .int .i64 i, .int .i64 id] w fun e w' => e = .returned (.int .i64 7) ∧ w = w' := by
  have H0 := hide (mayenter_d h id)
  clear h
  go_enter Try.func28, Try.ntmps28
  go_wp2_with (first | (go_at_call 56; refine (unhide H0).mono ?_; rintro e w1 ⟨rfl, rfl⟩))
  go_ret
  exact ⟨rfl, rfl⟩

theorem swap_d (h : Dead w v) (old : Int) (id : Int) : Calls Try.prog 29 #[v, .int .i64 old, .int .i64 id] w fun e w' => e = .returned (.int .i64 7) ∧ w = w' := by
  have H0 := hide (mayenter_d h id)
  have H1 := hide (find_d h old)
  have H2 := hide (made_d h)
  clear h
  go_enter Try.func29, Try.ntmps29
  go_wp2_with (first | (go_at_call 56; refine (unhide H0).mono ?_; rintro e w1 ⟨rfl, rfl⟩) | (go_at_call 12; refine (unhide H1).mono ?_; rintro e w2 ⟨rfl, rfl⟩) | (go_at_call 49; refine (unhide H2).mono ?_; rintro e w3 ⟨rfl, rfl⟩))
  go_ret
  exact ⟨rfl, rfl⟩

theorem look_d (h : Dead w v) (id : Int) : Calls Try.prog 61 #[v, .int .i64 id] w fun e w' => e = .returned (.tuple #[known0, .bool false]) ∧ Below w.heap.size w w' := by
  have H0 := hide (made_d (h.below (below_new w known0O)))
  clear h
  unfold known0O at *
  go_enter Try.func61, Try.ntmps61
  go_wp2_with (go_at_call 49; refine (unhide H0).mono ?_; rintro e w1 ⟨rfl, rfl⟩)
  exact bodyPost_ret (v := .tuple #[known0, .bool false]) (look_ret0 _ w.heap.size (heap_alloc_new w _) _ _ rfl rfl) rfl ⟨rfl, below_new _ _⟩

theorem special_d (h : Dead w v) (id : Int) : Calls Try.prog 31 #[v, .int .i64 id] w fun e w' => e = .returned (.bool false) ∧ Below w.heap.size w w' := by
  have H0 := hide (look_d h id)
  clear h
  go_enter Try.func31, Try.ntmps31
  go_wp2_with (go_at_call 61; refine (unhide H0).mono ?_; rintro e w1 ⟨rfl, hb⟩; have HB := hide hb; clear hb; simp only [known0])
  go_ret
  exact ⟨rfl, (unhide HB).alloc (unhide HB).size _⟩

theorem reaches_d (h : Dead w v) (u : Value) : Calls Try.prog 58 #[v, .int .i64 0, u] w fun e w' => e = .returned (.bool false) ∧ w = w' := by
  have H0 := hide (len_d h)
  clear h
  go_enter Try.func58, Try.ntmps58
  go_wp2_with (go_at_call 21; refine (unhide H0).mono ?_; rintro e w1 ⟨rfl, rfl⟩)
  go_loopg [7, 8, 9, 10] 0 (fun g s7 _ _ _ wr => s7 = .int .i64 (-1) ∧ wr = w)
  case atStart => exact ⟨rfl, rfl⟩
  case round =>
    obtain ⟨rfl, rfl⟩ := hrel
    go_wp2
    go_ret
    exact ⟨rfl, rfl⟩

theorem scope_d (h : Dead w v) (name : ByteArray) : Calls Try.prog 19 #[v, .string name, .int .i64 0] w fun e w' => e = .returned (.bool false) ∧ Below w.heap.size w w' := by
  have H0 := hide (fun u => reaches_d (h.below (below_new w (.cells #[.string name] 9))) u)
  clear h
  go_enter Try.func19, Try.ntmps19
  go_wp2_with (go_at_call 58; refine ((unhide H0) _).mono ?_; rintro e w1 ⟨rfl, rfl⟩)
  go_ret
  exact ⟨rfl, below_new _ _⟩
theorem nodescope_d (h : Dead w v) (id : Int) : Calls Try.prog 30 #[v, .int .i64 id, .int .i64 0] w fun e w' => e = .returned (.bool false) ∧ Below w.heap.size w w' := by
  have H0 := hide (fun u => reaches_d (h.below (below_new w (.cells #[.int .i64 id] 3))) u)
  clear h
  go_enter Try.func30, Try.ntmps30
  go_wp2_with (go_at_call 58; refine ((unhide H0) _).mono ?_; rintro e w1 ⟨rfl, rfl⟩)
  go_ret
  exact ⟨rfl, below_new _ _⟩
theorem popto_d (h : Dead w v) (name : ByteArray) : Calls Try.prog 20 #[v, .string name] w fun e w' => e = .returned (.bool false) ∧ w = w' := by
  have H0 := hide (len_d h)
  clear h
  go_enter Try.func20, Try.ntmps20
  go_wp2_with (go_at_call 21; refine (unhide H0).mono ?_; rintro e w1 ⟨rfl, rfl⟩)
  go_loopg [5, 6, 7] 0 (fun g s5 _ _ wr => s5 = .int .i64 (-1) ∧ wr = w)
  case atStart => exact ⟨rfl, rfl⟩
  case round =>
    obtain ⟨rfl, rfl⟩ := hrel
    go_wp2
    go_ret
    exact ⟨rfl, rfl⟩
theorem leave_d (h : Dead w v) (u : Value) : Calls Try.prog 64 #[v, u] w fun e w' => e = .returned (.int .i64 0) ∧ w = w' := by
  have H0 := hide (len_d h)
  clear h
  go_enter Try.func64, Try.ntmps64
  go_wp2
  go_loopg [5, 6, 7] 0 (fun g s5 _ _ wr => s5 = .int .i64 0 ∧ wr = w)
  case atStart => exact ⟨rfl, rfl⟩
  case round =>
    obtain ⟨rfl, rfl⟩ := hrel
    go_wp2_with (go_at_call 21; refine (unhide H0).mono ?_; rintro e w1 ⟨rfl, rfl⟩)
    go_ret
    exact ⟨rfl, rfl⟩
theorem implied_d (h : Dead w v) (name : ByteArray) : Calls Try.prog 22 #[v, .string name] w fun e w' => e = .returned (.int .i64 0) ∧ Below w.heap.size w w' := by
  have H0 := hide (fun u => leave_d (h.below (below_new w (.cells #[.string name] 9))) u)
  clear h
  go_enter Try.func22, Try.ntmps22
  go_wp2_with (go_at_call 64; refine ((unhide H0) _).mono ?_; rintro e w1 ⟨rfl, rfl⟩)
  go_ret
  exact ⟨rfl, below_new _ _⟩
theorem thorough_d (h : Dead w v) : Calls Try.prog 24 #[v] w fun e w' => e = .returned (.int .i64 0) ∧ w = w' := by
  have H0 := hide (fun u => leave_d h u)
  clear h
  go_enter Try.func24, Try.ntmps24
  go_wp2_with (go_at_call 64; refine ((unhide H0) _).mono ?_; rintro e w1 ⟨rfl, rfl⟩)
  go_ret
  exact ⟨rfl, rfl⟩

theorem lennil_any (w : World) : Calls Try.prog 16 #[.pointer none] w fun e w' => e = .returned (.int .i64 0) ∧ w = w' := by
  have H0 : Hid (Calls Try.prog 53 #[.pointer none] w fun e w' => e = .returned (.bool false) ∧ w = w') := hide (by
    go_enter Try.func53, Try.ntmps53
    go_wp2
    go_ret
    exact ⟨rfl, rfl⟩)
  go_enter Try.func16, Try.ntmps16
  go_wp2_with (go_at_call 53; refine (unhide H0).mono ?_; rintro e w1 ⟨rfl, rfl⟩)
  go_ret
  exact ⟨rfl, rfl⟩
theorem newnil_any (w : World) : Calls Try.prog 9 #[.pointer none] w fun e w' => e = .returned (.tuple #[.pointer none, .int .i64 7]) ∧ w = w' := by
  have H0 := hide (lennil_any w)
  go_enter Try.func9, Try.ntmps9
  go_wp2_with (go_at_call 16; refine (unhide H0).mono ?_; rintro e w1 ⟨rfl, rfl⟩)
  go_ret2
  exact ⟨rfl, rfl⟩
end
end Go.Proofs.Ythbanbbkmjmbaaa
