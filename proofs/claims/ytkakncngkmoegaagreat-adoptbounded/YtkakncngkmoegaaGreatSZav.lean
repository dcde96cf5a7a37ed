/-
  A list that nobody made: every call.
-/
import Derived.Test.YtkakncngkmoegaaGreatSZab
namespace Go.Proofs.YtkakncngkmoegaaGreat
open Go.RowKit

theorem below_newAc (w : World) (o : Obj) : Below w.heap.size w (w.alloc o) := (Below.refl _ w).alloc (Nat.le_refl _) _
theorem below_boxAc {w w1 : World} {o : Obj} (hb : Below (w.alloc o).heap.size (w.alloc o) w1) : Below w.heap.size w w1 := (below_newAc w o).trans (hb.mono (by simp))
theorem below_two (w : World) (o o2 : Obj) : Below w.heap.size w ((w.alloc o).alloc o2) := ((Below.refl _ w).alloc (Nat.le_refl _) _).alloc (by simp) _
theorem below_trans {w w1 w2 : World} (h : Below w.heap.size w w1) (k : Below w1.heap.size w1 w2) : Below w.heap.size w w2 := h.trans (k.mono h.size)

/-- A result that lies in a block of its own: one cell; a struct; a struct and a plain one. -/
theorem ret_one {fn : Func} {p : Tmp} {ty : TypeId} (h : fn.results = #[.cell p ty]) (tmps : Array Value) (w : World) (g : Nat) (v : Value) (hp : tmps.getD p undef = .pointer (some ⟨g, 0, none⟩))
    (hl : (loadVar ty ⟨g, 0, none⟩).run Tryz.prog w = .ok v w) : (results fn tmps).run Tryz.prog w = .ok v w := by
  have hp' : tmps[p]?.getD undef = .pointer (some ⟨g, 0, none⟩) := by simpa using hp
  simp [results, h, hp', asAddr, hl]
theorem ret_two {fn : Func} {p u : Tmp} {ty : TypeId} (h : fn.results = #[.cell p ty, .tmp u]) (tmps : Array Value) (w : World) (g : Nat) (v x : Value)
    (hp : tmps.getD p undef = .pointer (some ⟨g, 0, none⟩)) (hx : tmps.getD u undef = x) (hl : (loadVar ty ⟨g, 0, none⟩).run Tryz.prog w = .ok v w) :
    (results fn tmps).run Tryz.prog w = .ok (.tuple #[v, x]) w := by
  rw [results_cell_tmp h, hp, hx]
  simp [asAddr, hl]
theorem load_int (w : World) (g : Nat) (x : Int) (h : w.cell? ⟨g, 0, none⟩ = some (.int .i64 x)) : (loadVar 3 ⟨g, 0, none⟩).run Tryz.prog w = .ok (.int .i64 x) w := by
  simp [go_sem, h]

/-- No list, or one that no call made. -/
def DeadL (w : World) (v : Value) : Prop := v = .pointer none ∨ ∃ b, v = .pointer (some ⟨b, 0, none⟩) ∧ w.cell? ⟨b, 1, none⟩ = some (.pointer none)
theorem DeadL.below {w w' : World} {v : Value} (h : DeadL w v) (hb : Below w.heap.size w w') : DeadL w' v := by
  rcases h with h | ⟨b, e, hc⟩
  · exact .inl h
  · exact .inr ⟨b, e, (hb.cell (p := ⟨b, 1, none⟩) (World.block_lt_of_cell? w _ hc)).trans hc⟩

section
variable {w : World} {v : Value}
theorem made_d (h : DeadL w v) : Calls Tryz.prog 53 #[v] w fun e w' => e = .returned (.bool false) ∧ w = w' := by
  rcases h with rfl | ⟨b, rfl, hc⟩
  · go_enter Tryz.func53, Tryz.ntmps53
    go_wp2
    go_ret
    exact ⟨rfl, rfl⟩
  · go_enter Tryz.func53, Tryz.ntmps53
    go_wp2
    go_ret
    exact ⟨rfl, rfl⟩

theorem len_d (h : DeadL w v) : Calls Tryz.prog 16 #[v] w fun e w' => e = .returned (.int .i64 0) ∧ w = w' := by
  have H0 := hide (made_d h)
  clear h
  go_enter Tryz.func16, Tryz.ntmps16
  go_wp2_with (go_at_call 53; refine (unhide H0).mono ?_; rintro e w1 ⟨rfl, rfl⟩)
  go_ret
  exact ⟨rfl, rfl⟩
theorem mark_d (h : DeadL w v) : Calls Tryz.prog 31 #[v] w fun e w' => e = .returned (.int .i64 7) ∧ w = w' := by
  have H0 := hide (made_d h)
  clear h
  go_enter Tryz.func31, Tryz.ntmps31
  go_wp2_with (go_at_call 53; refine (unhide H0).mono ?_; rintro e w1 ⟨rfl, rfl⟩)
  go_ret
  exact ⟨rfl, rfl⟩
theorem remove_d (h : DeadL w v) (id : Int) : Calls Tryz.prog 82 #[v, .int .i64 id] w fun e w' => e = .returned (.int .i64 7) ∧ w = w' := by
  have H0 := hide (made_d h)
  clear h
  go_enter Tryz.func82, Tryz.ntmps82
  go_wp2_with (go_at_call 53; refine (unhide H0).mono ?_; rintro e w1 ⟨rfl, rfl⟩)
  go_ret
  exact ⟨rfl, rfl⟩
theorem find_d (h : DeadL w v) (id : Int) : Calls Tryz.prog 84 #[v, .int .i64 id] w fun e w' => e = .returned (.int .i64 (-1)) ∧ Below w.heap.size w w' := by
  have H0 := hide (fun w1 hb => made_d (h.below (w' := w1) hb))
  clear h
  go_enter Tryz.func84, Tryz.ntmps84
  go_wp2_with (go_at_call 53; refine ((unhide H0) _ (below_two _ _ _)).mono ?_; rintro e w1 ⟨rfl, rfl⟩)
  refine bodyPost_ret (v := .int .i64 (-1)) (ret_one Tryz.results84 _ _ (w.heap.size + 1) _ rfl (load_int _ _ _ (by simp [go_sem]))) rfl ⟨rfl, ?_⟩
  exact below_two _ _ _
theorem last_d (h : DeadL w v) (s : ByteArray) : Calls Tryz.prog 88 #[v, .string s] w fun e w' => e = .returned (.int .i64 (-1)) ∧ Below w.heap.size w w' := by
  have H0 := hide (fun w1 hb => made_d (h.below (w' := w1) hb))
  clear h
  go_enter Tryz.func88, Tryz.ntmps88
  go_wp2_with (go_at_call 53; refine ((unhide H0) _ (below_two _ _ _)).mono ?_; rintro e w1 ⟨rfl, rfl⟩)
  refine bodyPost_ret (v := .int .i64 (-1)) (ret_one Tryz.results88 _ _ (w.heap.size + 1) _ rfl (load_int _ _ _ (by simp [go_sem]))) rfl ⟨rfl, ?_⟩
  exact below_two _ _ _
theorem at_d (h : DeadL w v) (i : Int) : Calls Tryz.prog 17 #[v, .int .i64 i] w fun e w' => e = .returned (.tuple #[.agg #[.int .i64 0, .int .i64 0, .string ⟨#[]⟩, .string ⟨#[]⟩, .string ⟨#[]⟩, .int .i64 0, .bool false, .int .i32 0, .bool false, .slice none 0 0], .int .i64 7]) ∧ Below w.heap.size w w' := by
  have H0 := hide (fun w1 hb => made_d (h.below (w' := w1) hb))
  clear h
  go_enter Tryz.func17, Tryz.ntmps17
  go_wp2_with (go_at_call 53; refine ((unhide H0) _ (by first | exact Below.refl _ _ | exact (Below.refl _ w).alloc (Nat.le_refl _) _)).mono ?_; rintro e w1 ⟨rfl, rfl⟩)
  exact bodyPost_ret (ret_two Tryz.results17 _ _ w.heap.size _ _ rfl rfl (run_loadVar_row _ _ _ _ _ _ _ (heap_alloc_new w _) Tryz.underlying54 rfl (by kernel_rfl))) rfl ⟨rfl, below_newAc _ _⟩
theorem mayenter_d (h : DeadL w v) (id : Int) : Calls Tryz.prog 65 #[v, .int .i64 id] w fun e w' => (∃ x y, e = .returned (.tuple #[.agg #[.int .i64 x, .string y], .int .i64 7])) ∧ Below w.heap.size w w' := by
  have H0 := hide (fun w1 hb => made_d (h.below (w' := w1) hb))
  clear h
  go_enter Tryz.func65, Tryz.ntmps65
  go_wp2_with (go_at_call 53; refine ((unhide H0) _ (by first | exact Below.refl _ _ | exact (Below.refl _ w).alloc (Nat.le_refl _) _)).mono ?_; rintro e w1 ⟨rfl, rfl⟩)
  exact bodyPost_ret (ret_two Tryz.results65 _ _ w.heap.size _ _ rfl rfl (run_loadVar_row _ _ _ _ _ _ _ (heap_alloc_new w _) Tryz.underlying123 rfl (by kernel_rfl))) rfl ⟨⟨_, _, rfl⟩, below_newAc _ _⟩
theorem push_d (h : DeadL w v) (id : Int) (tk : Int) (tn td ts : ByteArray) (th : Int) (tq : Bool) (tc : Int) (tf : Bool) (ta : Option Addr) (tl tp : Nat) : Calls Tryz.prog 21 #[v, .int .i64 id, .agg #[.int .i64 tk, .string tn, .string td, .string ts, .int .i64 th, .bool tq, .int .i32 tc, .bool tf, .slice ta tl tp]] w fun e w' => e = .returned (.int .i64 7) ∧ Below w.heap.size w w' := by
  have H0 := hide (fun w1 hb => mayenter_d (h.below (w' := w1) hb) id)
  clear h
  go_enter Tryz.func21, Tryz.ntmps21
  go_wp2_with (go_at_call 65; refine ((unhide H0) _ (by first | exact below_newAc _ _ | exact below_two _ _ _)).mono ?_; rintro e w1 ⟨⟨x, y, rfl⟩, hb⟩; have HB := hide (below_trans (by first | exact below_newAc _ _ | exact below_two _ _ _) hb); clear hb)
  go_ret
  exact ⟨rfl, (unhide HB).alloc (unhide HB).size _⟩
theorem put_d (h : DeadL w v) (i id : Int) (tk : Int) (tn td ts : ByteArray) (th : Int) (tq : Bool) (tc : Int) (tf : Bool) (ta : Option Addr) (tl tp : Nat) : Calls Tryz.prog 126 #[v, .int .i64 i, .int .i64 id, .agg #[.int .i64 tk, .string tn, .string td, .string ts, .int .i64 th, .bool tq, .int .i32 tc, .bool tf, .slice ta tl tp]] w fun e w' => e = .returned (.int .i64 7) ∧ Below w.heap.size w w' := by
  have H0 := hide (fun w1 hb => mayenter_d (h.below (w' := w1) hb) id)
  clear h
  go_enter Tryz.func126, Tryz.ntmps126
  go_wp2_with (go_at_call 65; refine ((unhide H0) _ (by first | exact below_newAc _ _ | exact below_two _ _ _)).mono ?_; rintro e w1 ⟨⟨x, y, rfl⟩, hb⟩; have HB := hide (below_trans (by first | exact below_newAc _ _ | exact below_two _ _ _) hb); clear hb)
  go_ret
  exact ⟨rfl, (unhide HB).alloc (unhide HB).size _⟩
theorem swap_d (h : DeadL w v) (old id : Int) : Calls Tryz.prog 190 #[v, .int .i64 old, .int .i64 id] w fun e w' => e = .returned (.int .i64 7) ∧ Below w.heap.size w w' := by
  have H0 := hide (fun w1 hb => mayenter_d (h.below (w' := w1) hb) id)
  have H1 := hide (fun w1 hb => find_d (h.below (w' := w1) hb) old)
  have H2 := hide (fun w1 hb => made_d (h.below (w' := w1) hb))
  clear h
  go_enter Tryz.func190, Tryz.ntmps190
  go_wp2_with (first | (go_at_call 65; refine ((unhide H0) _ (Below.refl _ _)).mono ?_; rintro e w1 ⟨⟨x, y, rfl⟩, hb⟩; have HB := hide (hb.alloc hb.size (.cells #[.int .i64 x, .string y] 123)); clear hb) | (go_at_call 84; refine ((unhide H1) _ (unhide HB)).mono ?_; rintro e w2 ⟨rfl, hb⟩; have HB2 := hide (below_trans (unhide HB) hb); clear hb) | (go_at_call 53; refine ((unhide H2) _ (unhide HB2)).mono ?_; rintro e w3 ⟨rfl, rfl⟩))
  go_ret
  exact ⟨rfl, unhide HB2⟩
theorem lennil_any (w : World) : Calls Tryz.prog 12 #[.pointer none] w fun e w' => e = .returned (.int .i64 0) ∧ w = w' := by
  have H0 : Hid (Calls Tryz.prog 47 #[.pointer none] w fun e w' => e = .returned (.bool false) ∧ w = w') := hide (by
    go_enter Tryz.func47, Tryz.ntmps47
    go_wp2
    go_ret
    exact ⟨rfl, rfl⟩)
  go_enter Tryz.func12, Tryz.ntmps12
  go_wp2_with (go_at_call 47; refine (unhide H0).mono ?_; rintro e w1 ⟨rfl, rfl⟩)
  go_ret
  exact ⟨rfl, rfl⟩
theorem newnil_any (w : World) : Calls Tryz.prog 24 #[.pointer none] w fun e w' => e = .returned (.tuple #[.pointer none, .int .i64 7]) ∧ w = w' := by
  have H0 := hide (lennil_any w)
  go_enter Tryz.func24, Tryz.ntmps24
  go_wp2_with (go_at_call 12; refine (unhide H0).mono ?_; rintro e w1 ⟨rfl, rfl⟩)
  go_ret2
  exact ⟨rfl, rfl⟩
end
end Go.Proofs.YtkakncngkmoegaaGreat
