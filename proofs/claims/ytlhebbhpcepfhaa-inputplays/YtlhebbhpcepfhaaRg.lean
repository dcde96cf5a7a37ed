/-
  A call of a script, on both streams: all but Feed and Write.
-/
import Derived.Test.YtlhebbhpcepfhaaRf
namespace Go.Proofs.Ytlhebbhpcepfhaa
open Go.RowKit

/-- A box of two cells. -/
def boxOb (base K : Nat) (v0 v1 : Value) : Ob base := ⟨fun w F => base ≤ K ∧ w.heap[K]? = some (.cells #[v0, v1] 30 (0, 0)) ∧ ∀ k, F k ↔ k = K, fun _ _ k h hk => by
    have := (h.2.2 k).1 hk
    subst this
    exact ⟨h.1, lt_of_block h.2.1⟩, fun w w' F G h hm hG => ⟨h.1, (hm.block K (lt_of_block h.2.1) (hG K ((h.2.2 K).2 rfl))).trans h.2.1, h.2.2⟩⟩

section
variable {w wx : World} {obs : List (Ob w.heap.size)}
theorem Env.ref (h : Env w wx obs) {i bW : Nat} {r : RefM} (hi : obs[i]? = some (refOb _ bW r)) : ∃ F, RefS wx w.heap.size bW r F ∧ ∀ w2 r2, UpdR F wx w2 w.heap.size bW r2 → Env w w2 (obs.set i (refOb _ bW r2)) := by
  obtain ⟨F, ho, _, hk⟩ := h.upd hi
  refine ⟨F, ho, fun w2 r2 hu => ?_⟩
  obtain ⟨F', h1, h2, h3⟩ := hu
  exact hk w2 (refOb _ bW r2) F' h1 h2 h3
theorem Env.box (h : Env w wx obs) {i K : Nat} {v0 v1 : Value} (hi : obs[i]? = some (boxOb _ K v0 v1)) : wx.cell? ⟨K, 0, none⟩ = some v0 ∧ wx.cell? ⟨K, 1, none⟩ = some v1 := by
  obtain ⟨F, ho, _⟩ := h.upd hi
  have hb := ho.2.1
  exact ⟨by simp [World.cell?, hb], by simp [World.cell?, hb]⟩
theorem Env.pos (h : Env w wx obs) {i bS : Nat} {m : StrM} (hi : obs[i]? = some (strOb _ bS m)) : 0 < m.parts.length ∧ m.parts.length ≤ 22 ∧ m.len ≤ 1048576 := by
  obtain ⟨F, h1, _⟩ := h.str hi
  exact h1.pos

/-- m can be. -/
def Fits (m : StrM) : Prop := 0 < m.parts.length ∧ m.parts.length ≤ 22 ∧ m.len ≤ 1048576
theorem env_rend (h : Env w wx obs) {i bW : Nat} {m : StrM} (hi : obs[i]? = some (refOb _ bW (refOf m))) :
    Calls Try.prog 28 #[.pointer (some ⟨bW, 0, none⟩)] wx fun e w' => e = .returned (.int .i64 (if m.ended then 5 else 0)) ∧ Env w w' (obs.set i (refOb _ bW (refOf (finM m)))) := by
  obtain ⟨F, h1, h2⟩ := h.ref hi
  exact (refEnd_s h1).mono fun _ _ ⟨a, b⟩ => ⟨a, h2 _ _ b⟩
theorem env_rdrop (h : Env w wx obs) {i bW : Nat} {m : StrM} (hi : obs[i]? = some (refOb _ bW (refOf m))) :
    Calls Try.prog 34 #[.pointer (some ⟨bW, 0, none⟩)] wx fun e w' => e = .returned (.int .i64 (if m.dropped then 5 else 0)) ∧ Env w w' (obs.set i (refOb _ bW (refOf (dropM m)))) := by
  obtain ⟨F, h1, h2⟩ := h.ref hi
  have := refDrop_s h1
  rw [sim_drop] at this
  exact this.mono fun _ _ ⟨a, b⟩ => ⟨a, h2 _ _ b⟩
theorem env_rmark (h : Env w wx obs) {i bW : Nat} {m : StrM} (hm : Fits m) (hi : obs[i]? = some (refOb _ bW (refOf m))) :
    Calls Try.prog 29 #[.pointer (some ⟨bW, 0, none⟩)] wx fun e w' => e = .returned (.int .i64 (markM m).1) ∧ Env w w' (obs.set i (refOb _ bW (refOf (markM m).2))) := by
  obtain ⟨F, h1, h2⟩ := h.ref hi
  have := refMark_s h1
  rw [sim_mark m hm.1] at this
  exact this.mono fun _ _ ⟨a, b⟩ => ⟨a, h2 _ _ b⟩
theorem env_runmark (h : Env w wx obs) {i bW : Nat} {m : StrM} (hm : Fits m) (hi : obs[i]? = some (refOb _ bW (refOf m))) :
    Calls Try.prog 30 #[.pointer (some ⟨bW, 0, none⟩)] wx fun e w' => e = .returned (.int .i64 (unmarkM m).1) ∧ Env w w' (obs.set i (refOb _ bW (refOf (unmarkM m).2))) := by
  obtain ⟨F, h1, h2⟩ := h.ref hi
  have := refUnmark_s h1 (by rw [ref_marks]; have := hm.2.1; omega)
  rw [sim_unmark m hm.1] at this
  exact this.mono fun _ _ ⟨a, b⟩ => ⟨a, h2 _ _ b⟩
theorem env_rnext (h : Env w wx obs) {i bW : Nat} {m : StrM} (hm : Fits m) (hi : obs[i]? = some (refOb _ bW (refOf m))) :
    Calls Try.prog 32 #[.pointer (some ⟨bW, 0, none⟩)] wx fun e w' => e = .returned (.tuple #[.int .i32 (peekM m).1, .bool (peekM m).2]) ∧ Env w w' (obs.set i (refOb _ bW (refOf (nextM m)))) := by
  obtain ⟨F, h1, h2⟩ := h.ref hi
  have := refNext_s h1 (by rw [ref_marks]; have := hm.2.1; omega) (fun x hx => by have := ref_bound m x hx; rw [ref_len] at this; have := hm.2.2; omega)
  rw [sim_next m hm.1, sim_peek m hm.1] at this
  exact this.mono fun _ _ ⟨a, b⟩ => ⟨a, h2 _ _ b⟩
theorem env_rpeek (h : Env w wx obs) {i bW : Nat} {m : StrM} (hm : Fits m) (hi : obs[i]? = some (refOb _ bW (refOf m))) :
    Calls Try.prog 33 #[.pointer (some ⟨bW, 0, none⟩)] wx fun e w' => e = .returned (.tuple #[.int .i32 (peekM m).1, .bool (peekM m).2]) ∧ Env w w' obs := by
  obtain ⟨F, h1, h2⟩ := h.ref hi
  have := refPeek_s h1 (by rw [ref_marks]; have := hm.2.1; omega)
  rw [sim_peek m hm.1] at this
  refine this.mono ?_
  rintro e w' ⟨rfl, n, rfl⟩
  exact ⟨rfl, h.more (below_dw _ _)⟩
theorem env_peek (h : Env w wx obs) {i bS : Nat} {m : StrM} (hi : obs[i]? = some (strOb _ bS m)) : Calls Try.prog 24 #[.pointer (some ⟨bS, 0, none⟩)] wx fun e w' => e = .returned (.tuple #[.int .i32 (peekM m).1, .bool (peekM m).2]) ∧ Env w w' obs := by
  obtain ⟨F, h1, _, h3⟩ := h.str hi
  refine (peek_s h1).mono ?_
  rintro e w' ⟨rfl, n, rfl⟩
  exact ⟨rfl, h.more (below_dw _ _)⟩
theorem env_drop (h : Env w wx obs) {i bS : Nat} {m : StrM} (hi : obs[i]? = some (strOb _ bS m)) : Calls Try.prog 25 #[.pointer (some ⟨bS, 0, none⟩)] wx fun e w' => e = .returned (.int .i64 (if m.dropped then 5 else 0)) ∧ Env w w' (obs.set i (strOb _ bS (dropM m))) := by
  obtain ⟨F, h1, _, h3⟩ := h.str hi
  exact (drop_s h1).mono fun _ _ ⟨a, b⟩ => ⟨a, h3 _ _ b⟩
theorem env_rfeed (h : Env w wx obs) {i bW : Nat} {m : StrM} (hm : Fits m) (hi : obs[i]? = some (refOb _ bW (refOf m))) (a : Option Addr) (l : List Int) (c : Nat) (hr : RunesIn w a l) (hl : l.length ≤ 35184372087808) :
    Calls Try.prog 27 #[.pointer (some ⟨bW, 0, none⟩), .slice a l.length c] wx fun e w' => e = .returned (.int .i64 (feedM m l).1) ∧ Env w w' (obs.set i (refOb _ bW (refOf (feedM m l).2))) := by
  obtain ⟨F, h1, h2⟩ := h.ref hi
  have := refFeed_s h1 (by rw [ref_len]; exact hm.2.2) a l c (hr.below h.bel) (by omega)
  rw [sim_feed m hm.1] at this
  exact this.mono fun _ _ ⟨a, b⟩ => ⟨a, h2 _ _ b⟩
theorem env_rwrite (h : Env w wx obs) {i bW : Nat} {m : StrM} (hm : Fits m) (hi : obs[i]? = some (refOb _ bW (refOf m))) (a : Option Addr) (l : List Int) (c : Nat) (hr : RunesIn w a l) :
    Calls Try.prog 31 #[.pointer (some ⟨bW, 0, none⟩), .slice a l.length c] wx fun e w' => e = .returned (.int .i64 (writeM m l).1) ∧ Env w w' (obs.set i (refOb _ bW (refOf (writeM m l).2))) := by
  obtain ⟨F, h1, h2⟩ := h.ref hi
  have hs := sim_write m hm.1 l
  have hk := ref_marks m
  have hL := ref_len m
  obtain ⟨p1, p2, p3⟩ := hm
  have key : Calls Try.prog 31 #[.pointer (some ⟨bW, 0, none⟩), .slice a l.length c] wx fun e w' => e = .returned (.int .i64 (writeR (refOf m) l).1) ∧ UpdR F wx w' w.heap.size bW (writeR (refOf m) l).2 := by
    unfold writeR
    by_cases hz : (refOf m).M.length = 0
    · rw [if_pos hz]; exact refWrite_none h1 hz _
    · rw [if_neg hz]
      by_cases hf : l.length + (refOf m).L.length ≤ 1048576
      · rw [if_pos hf]
        exact refWrite_fits h1 hz (by omega) (ref_bound m) a l c (hr.below h.bel) hf
      · rw [if_neg hf]
        exact refWrite_full h1 hz (by omega) a l.length c hf
  rw [hs] at key
  exact key.mono fun _ _ ⟨a, b⟩ => ⟨a, h2 _ _ b⟩
end

/-- What a call of the script makes of the stream. -/
def stepM (m : StrM) (o : Int) (l : List Int) : StrM :=
  if o = 0 then (feedM m l).2 else if o = 1 then finM m else if o = 2 then (markM m).2 else if o = 3 then (unmarkM m).2 else if o = 4 then (writeM m l).2 else if o = 5 then nextM m else if o = 6 then m else dropM m

section
variable {w wx : World} {bS bW : Nat} {m : StrM}
/-- The call in its box. -/
theorem boxed {K : Nat} (h : Env w wx [strOb _ bS m, refOb _ bW (refOf m)]) (v0 v1 : Value) (hK : K = wx.heap.size) : Env w (wx.alloc (.cells #[v0, v1] 30)) [strOb _ bS m, refOb _ bW (refOf m), boxOb _ K v0 v1] := by
  subst hK
  exact h.add (o := boxOb _ wx.heap.size v0 v1) (F := fun k => k = wx.heap.size) ((Below.refl _ _).alloc (Nat.le_refl _) _) ⟨h.bel.size, heap_alloc_new wx _, fun _ => Iff.rfl⟩ (fun k hk => by omega)

set_option maxHeartbeats 2000000 in
theorem play_1 (h : Env w wx [strOb _ bS m, refOb _ bW (refOf m)]) (u : Value) : Calls Try.prog 11 #[.pointer (some ⟨bS, 0, none⟩), .pointer (some ⟨bW, 0, none⟩), .agg #[.int .i64 1, u]] wx fun e w' => e = .returned (.bool true) ∧ Env w w' [strOb _ bS (finM m), refOb _ bW (refOf (finM m))] := by
  have HF : Hid (Fits m) := hide (h.pos (i := 0) (bS := bS) rfl)
  have H0 := hide (boxed h (.int .i64 1) u rfl)
  clear h
  go_enter Try.func11, Try.ntmps11
  go_wp2_with (first
    | (go_at_call 17; go_must (refine (env_end (unhide H0) (i := 0) (bS := bS) (m := m) rfl).mono ?_); rintro e w1 ⟨rfl, hv⟩; have H1 := hide hv; clear hv)
    | (go_at_call 28; go_must (refine (env_rend (unhide H1) (i := 1) (bW := bW) (m := m) rfl).mono ?_); rintro e w2 ⟨rfl, hv⟩; have H2 := hide hv; clear hv))
  all_goals (go_ret; exact ⟨rfl, (unhide H2).take 2⟩)

set_option maxHeartbeats 2000000 in
theorem play_2 (h : Env w wx [strOb _ bS m, refOb _ bW (refOf m)]) (u : Value) : Calls Try.prog 11 #[.pointer (some ⟨bS, 0, none⟩), .pointer (some ⟨bW, 0, none⟩), .agg #[.int .i64 2, u]] wx fun e w' => e = .returned (.bool true) ∧ Env w w' [strOb _ bS ((markM m).2), refOb _ bW (refOf ((markM m).2))] := by
  have HF : Hid (Fits m) := hide (h.pos (i := 0) (bS := bS) rfl)
  have H0 := hide (boxed h (.int .i64 2) u rfl)
  clear h
  go_enter Try.func11, Try.ntmps11
  go_wp2_with (first
    | (go_at_call 20; go_must (refine (env_mark (unhide H0) (i := 0) (bS := bS) (m := m) rfl).mono ?_); rintro e w1 ⟨rfl, hv⟩; have H1 := hide hv; clear hv)
    | (go_at_call 29; go_must (refine (env_rmark (unhide H1) (i := 1) (bW := bW) (m := m) (unhide HF) rfl).mono ?_); rintro e w2 ⟨rfl, hv⟩; have H2 := hide hv; clear hv))
  go_ret
  exact ⟨by simp, (unhide H2).take 2⟩

set_option maxHeartbeats 2000000 in
theorem play_3 (h : Env w wx [strOb _ bS m, refOb _ bW (refOf m)]) (u : Value) : Calls Try.prog 11 #[.pointer (some ⟨bS, 0, none⟩), .pointer (some ⟨bW, 0, none⟩), .agg #[.int .i64 3, u]] wx fun e w' => e = .returned (.bool true) ∧ Env w w' [strOb _ bS ((unmarkM m).2), refOb _ bW (refOf ((unmarkM m).2))] := by
  have HF : Hid (Fits m) := hide (h.pos (i := 0) (bS := bS) rfl)
  have H0 := hide (boxed h (.int .i64 3) u rfl)
  clear h
  go_enter Try.func11, Try.ntmps11
  go_wp2_with (first
    | (go_at_call 23; go_must (refine (env_unmark (unhide H0) (i := 0) (bS := bS) (m := m) rfl).mono ?_); rintro e w1 ⟨rfl, hv⟩; have H1 := hide hv; clear hv)
    | (go_at_call 30; go_must (refine (env_runmark (unhide H1) (i := 1) (bW := bW) (m := m) (unhide HF) rfl).mono ?_); rintro e w2 ⟨rfl, hv⟩; have H2 := hide hv; clear hv))
  go_ret
  exact ⟨by simp, (unhide H2).take 2⟩

set_option maxHeartbeats 2000000 in
theorem play_5 (h : Env w wx [strOb _ bS m, refOb _ bW (refOf m)]) (u : Value) : Calls Try.prog 11 #[.pointer (some ⟨bS, 0, none⟩), .pointer (some ⟨bW, 0, none⟩), .agg #[.int .i64 5, u]] wx fun e w' => e = .returned (.bool true) ∧ Env w w' [strOb _ bS (nextM m), refOb _ bW (refOf (nextM m))] := by
  have HF : Hid (Fits m) := hide (h.pos (i := 0) (bS := bS) rfl)
  have H0 := hide (boxed h (.int .i64 5) u rfl)
  clear h
  go_enter Try.func11, Try.ntmps11
  go_wp2_with (first
    | (go_at_call 22; go_must (refine (env_next (unhide H0) (i := 0) (bS := bS) (m := m) rfl).mono ?_); rintro e w1 ⟨rfl, hv⟩; have H1 := hide hv; clear hv)
    | (go_at_call 32; go_must (refine (env_rnext (unhide H1) (i := 1) (bW := bW) (m := m) (unhide HF) rfl).mono ?_); rintro e w2 ⟨rfl, hv⟩; have H2 := hide hv; clear hv))
  go_ret
  exact ⟨by simp, (unhide H2).take 2⟩

set_option maxHeartbeats 2000000 in
theorem play_6 (h : Env w wx [strOb _ bS m, refOb _ bW (refOf m)]) (u : Value) : Calls Try.prog 11 #[.pointer (some ⟨bS, 0, none⟩), .pointer (some ⟨bW, 0, none⟩), .agg #[.int .i64 6, u]] wx fun e w' => e = .returned (.bool true) ∧ Env w w' [strOb _ bS (m), refOb _ bW (refOf (m))] := by
  have HF : Hid (Fits m) := hide (h.pos (i := 0) (bS := bS) rfl)
  have H0 := hide (boxed h (.int .i64 6) u rfl)
  clear h
  go_enter Try.func11, Try.ntmps11
  go_wp2_with (first
    | (go_at_call 24; go_must (refine (env_peek (unhide H0) (i := 0) (bS := bS) (m := m) rfl).mono ?_); rintro e w1 ⟨rfl, hv⟩; have H1 := hide hv; clear hv)
    | (go_at_call 33; go_must (refine (env_rpeek (unhide H1) (i := 1) (bW := bW) (m := m) (unhide HF) rfl).mono ?_); rintro e w2 ⟨rfl, hv⟩; have H2 := hide hv; clear hv))
  go_ret
  exact ⟨by simp, (unhide H2).take 2⟩

set_option maxHeartbeats 2000000 in
theorem play_7 (h : Env w wx [strOb _ bS m, refOb _ bW (refOf m)]) (what : Int) (n0 : (what == 0) = false) (n1 : (what == 1) = false) (n2 : (what == 2) = false) (n3 : (what == 3) = false) (n4 : (what == 4) = false) (n5 : (what == 5) = false) (n6 : (what == 6) = false) (u : Value) : Calls Try.prog 11 #[.pointer (some ⟨bS, 0, none⟩), .pointer (some ⟨bW, 0, none⟩), .agg #[.int .i64 what, u]] wx fun e w' => e = .returned (.bool true) ∧ Env w w' [strOb _ bS (dropM m), refOb _ bW (refOf (dropM m))] := by
  have HF : Hid (Fits m) := hide (h.pos (i := 0) (bS := bS) rfl)
  have H0 := hide (boxed h (.int .i64 what) u rfl)
  clear h
  go_enter Try.func11, Try.ntmps11
  go_wp2_with (first
    | (go_at_call 25; go_must (refine (env_drop (unhide H0) (i := 0) (bS := bS) (m := m) rfl).mono ?_); rintro e w1 ⟨rfl, hv⟩; have H1 := hide hv; clear hv)
    | (go_at_call 34; go_must (refine (env_rdrop (unhide H1) (i := 1) (bW := bW) (m := m) rfl).mono ?_); rintro e w2 ⟨rfl, hv⟩; have H2 := hide hv; clear hv))
  all_goals (go_ret; exact ⟨rfl, (unhide H2).take 2⟩)
end
end Go.Proofs.Ytlhebbhpcepfhaa
