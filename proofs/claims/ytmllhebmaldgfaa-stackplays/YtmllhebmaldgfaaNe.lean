import Derived.Test.YtmllhebmaldgfaaNc
import Derived.Great.CaseRows
/-
  Package stack's tables of names: special elements.
-/
namespace Go.Proofs.Ytmllhebmaldgfaa
open Go.RowKit Go.Great

theorem setRow_new (w : World) (a b : Array Value) (t : TypeId) : (w.alloc (.cells a t)).setRow w.heap.size b = w.alloc (.cells b t) := by
  unfold World.setRow World.alloc
  simp only
  congr 1
  apply Array.ext_getElem?
  intro i
  rw [Array.getElem?_modify]
  by_cases h : w.heap.size = i
  · subst h
    simp
  · rw [if_neg h]
    rw [Array.getElem?_push, Array.getElem?_push, if_neg (fun e => h e.symm), if_neg (fun e => h e.symm)]

set_option maxHeartbeats 4000000 in
theorem isSpecial_any (c : Cal) (w : World) : Calls Try.prog 106 #[c.agg] w fun e w' => e = .returned (.bool (specialM c)) ∧ Below w.heap.size w w' := by
  have h1 : TabAt ((w.alloc (.cells #[.int .i64 c.space, .string c.name] 100)).alloc (.cells (sRow specT) 160)) (w.heap.size + 1) specT := by
    have h := tab_new (w.alloc (.cells #[.int .i64 c.space, .string c.name] 100)) specT 160
    rw [World.size_alloc] at h
    exact h
  have hb3 : Below w.heap.size w ((w.alloc (.cells #[.int .i64 c.space, .string c.name] 100)).alloc (.cells (sRow specT) 160)) := below2 _ _ _
  have hbx : ((w.alloc (.cells #[.int .i64 c.space, .string c.name] 100)).alloc (.cells (sRow specT) 160)).cell? ⟨w.heap.size, 0, none⟩ = some (.int .i64 c.space) ∧ ((w.alloc (.cells #[.int .i64 c.space, .string c.name] 100)).alloc (.cells (sRow specT) 160)).cell? ⟨w.heap.size, 1, none⟩ = some (.string c.name) := first_cells w _ _ _ _ (below_new _ _)
  have hsz : ((w.alloc (.cells #[.int .i64 c.space, .string c.name] 100)).alloc (.cells (sRow specT) 160)).heap.size = w.heap.size + 2 := by simp
  unfold specialM
  generalize hW : ((w.alloc (.cells #[.int .i64 c.space, .string c.name] 100)).alloc (.cells (sRow specT) 160)) = W at *
  have HA1 : Hid (∀ w1, Below W.heap.size W w1 → Calls Try.prog 115 #[c.agg, .int .i64 0, .slice (some ⟨w.heap.size + 1, 0, none⟩) 83 83] w1 fun e w' => e = .returned (.bool (amongM c 0 specT)) ∧ Below W.heap.size W w') := hide (fun w1 hb => by
    refine (isAmong_any c 0 specT (by decide) (w.heap.size + 1) w1 (h1.below hb)).mono ?_
    rintro e w' ⟨rfl, hb2⟩
    exact ⟨rfl, hb.trans (hb2.mono hb.size)⟩)
  have HA2 : Hid (∀ w1, Below W.heap.size W w1 → Calls Try.prog 126 #[c.agg] w1 fun e w' => e = .returned (.bool (foreignM c)) ∧ Below W.heap.size W w') := hide (fun w1 hb => by
    refine (isForeign_any c w1).mono ?_
    rintro e w' ⟨rfl, hb2⟩
    exact ⟨rfl, hb.trans (hb2.mono hb.size)⟩)
  have HBX : Hid (∀ w1, Below W.heap.size W w1 → w1.cell? ⟨w.heap.size, 0, none⟩ = some (.int .i64 c.space) ∧ w1.cell? ⟨w.heap.size, 1, none⟩ = some (.string c.name)) := hide (fun w1 hb => ⟨(hb.cell (p := ⟨w.heap.size, 0, none⟩) (show w.heap.size < W.heap.size by omega)).trans hbx.1, (hb.cell (p := ⟨w.heap.size, 1, none⟩) (show w.heap.size < W.heap.size by omega)).trans hbx.2⟩)
  have HWW := hide hW
  have HB3 := hide hb3
  generalize amongM c 0 specT = r1 at *
  generalize foreignM c = r2 at *
  obtain ⟨cs, cn⟩ := c
  simp only [Cal.agg] at *
  obtain ⟨hx0, hx1⟩ := hbx
  clear h1 hb3 hsz hW
  have hund : undef = Value.tuple #[] := rfl
  cases r1 with
  | true =>
    go_enter Try.func106, Try.ntmps106
    apply wp_seq_k; intro K0 hK0
    have HK0 := hide hK0
    clear hK0
    go_wp2
    refine (unhide HK0) _ _ ?_
    apply wp_seq_k; intro K1 hK1
    apply wp_region_lit
    have hsz : (w.alloc (.cells #[.int .i64 cs, .string cn] 100)).heap.size = w.heap.size + 1 := by simp
    have hnew := heap_alloc_new (w.alloc (.cells #[.int .i64 cs, .string cn] 100)) (.cells Try.zeroCells160 160)
    rw [hsz] at hnew
    have hrow := setRow_new (w.alloc (.cells #[.int .i64 cs, .string cn] 100)) Try.zeroCells160 (sRow specT) 160
    rw [hsz] at hrow
    refine wpList_buildTo rfl 160 _ rfl (some 4) rfl (sRow specT) (by kernel_rfl) ?_
    refine wpList_allocTo rfl (some 3) rfl (.pointer (some ⟨w.heap.size + 1, 0, none⟩)) (.cells Try.zeroCells160 160) ?_ ?_
    · unfold execOp
      simp [go_sem, hsz]
    refine wpList_store_rowTo rfl 160 _ _ rfl rfl (w.heap.size + 1) (sRow specT) rfl rfl 160 Try.zeroCells160 hnew (by kernel_rfl) (by kernel_rfl) (by kernel_rfl) ?_
    rw [hrow]
    apply wpList_nil
    refine hK1 _ _ ?_
    clear hsz hnew hrow
    apply wp_seq_k; intro K2 hK2
    refine (show Code.wp Try.prog _ _ _ ((w.alloc (.cells #[.int .i64 cs, .string cn] 100)).alloc (.cells (sRow specT) 160)) from ?_)
    rw [unhide HWW]
    first | go_region_with (go_at_call 115; refine ((unhide HA1) _ (by first | exact Below.refl _ _ | exact (Below.refl _ _).drew | exact below_dn (Below.refl _ _) _ | exact (Below.refl _ _).drew.drew)).mono ?_; rintro e w2 ⟨rfl, hb⟩; have HB := hide hb; obtain ⟨hy0, hy1⟩ := (unhide HBX) _ hb; clear hb) | fail
    all_goals go_wp2
    all_goals go_ret
    all_goals exact ⟨rfl, (unhide HB3).trans ((unhide HB).mono (unhide HB3).size)⟩
  | false =>
    go_enter Try.func106, Try.ntmps106
    apply wp_seq_k; intro K0 hK0
    have HK0 := hide hK0
    clear hK0
    go_wp2
    refine (unhide HK0) _ _ ?_
    apply wp_seq_k; intro K1 hK1
    apply wp_region_lit
    have hsz : (w.alloc (.cells #[.int .i64 cs, .string cn] 100)).heap.size = w.heap.size + 1 := by simp
    have hnew := heap_alloc_new (w.alloc (.cells #[.int .i64 cs, .string cn] 100)) (.cells Try.zeroCells160 160)
    rw [hsz] at hnew
    have hrow := setRow_new (w.alloc (.cells #[.int .i64 cs, .string cn] 100)) Try.zeroCells160 (sRow specT) 160
    rw [hsz] at hrow
    refine wpList_buildTo rfl 160 _ rfl (some 4) rfl (sRow specT) (by kernel_rfl) ?_
    refine wpList_allocTo rfl (some 3) rfl (.pointer (some ⟨w.heap.size + 1, 0, none⟩)) (.cells Try.zeroCells160 160) ?_ ?_
    · unfold execOp
      simp [go_sem, hsz]
    refine wpList_store_rowTo rfl 160 _ _ rfl rfl (w.heap.size + 1) (sRow specT) rfl rfl 160 Try.zeroCells160 hnew (by kernel_rfl) (by kernel_rfl) (by kernel_rfl) ?_
    rw [hrow]
    apply wpList_nil
    refine hK1 _ _ ?_
    clear hsz hnew hrow
    apply wp_seq_k; intro K2 hK2
    refine (show Code.wp Try.prog _ _ _ ((w.alloc (.cells #[.int .i64 cs, .string cn] 100)).alloc (.cells (sRow specT) 160)) from ?_)
    rw [unhide HWW]
    first | go_region_with (first | (go_at_call 126; refine ((unhide HA2) _ (by first | exact unhide HB | exact (unhide HB).drew | exact below_dn (unhide HB) _ | exact (unhide HB).drew.drew)).mono ?_; rintro e w3 ⟨rfl, hb⟩; have HB2 := hide hb; clear hb) | (go_at_call 115; refine ((unhide HA1) _ (by first | exact Below.refl _ _ | exact (Below.refl _ _).drew | exact below_dn (Below.refl _ _) _ | exact (Below.refl _ _).drew.drew)).mono ?_; rintro e w2 ⟨rfl, hb⟩; have HB := hide hb; obtain ⟨hy0, hy1⟩ := (unhide HBX) _ hb; clear hb)) | fail
    all_goals go_wp2
    all_goals go_ret
    all_goals exact ⟨rfl, (unhide HB3).trans ((unhide HB2).mono (unhide HB3).size)⟩
end Go.Proofs.Ytmllhebmaldgfaa
