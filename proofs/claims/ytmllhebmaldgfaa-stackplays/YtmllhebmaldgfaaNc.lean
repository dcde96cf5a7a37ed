import Derived.Test.YtmllhebmaldgfaaNb
/-
  Package stack's tables of names: MathML's and SVG's borders, the borders of the scope.
-/
namespace Go.Proofs.Ytmllhebmaldgfaa
open Go.RowKit

def foreignM (c : Cal) : Bool := amongM c 1 mathT || amongM c 2 svgT
def plainM (c : Cal) : Bool := amongM c 0 bordT || foreignM c
def specialM (c : Cal) : Bool := amongM c 0 specT || foreignM c


theorem below3 (w : World) (o1 o2 o3 : Obj) : Below w.heap.size w (((w.alloc o1).alloc o2).alloc o3) := (((Below.refl _ w).alloc (Nat.le_refl _) _).alloc (by simp) _).alloc (by simp; omega) _
theorem below2 (w : World) (o1 o2 : Obj) : Below w.heap.size w ((w.alloc o1).alloc o2) := ((Below.refl _ w).alloc (Nat.le_refl _) _).alloc (by simp) _
theorem first_cells (w : World) (a b : Value) (t : TypeId) (w1 : World) (hb : Below (w.alloc (.cells #[a, b] t)).heap.size (w.alloc (.cells #[a, b] t)) w1) : w1.cell? ⟨w.heap.size, 0, none⟩ = some a ∧ w1.cell? ⟨w.heap.size, 1, none⟩ = some b := by
  have h := (hb.block w.heap.size (by simp)).trans (heap_alloc_new w _)
  exact ⟨by simp [World.cell?, h], by simp [World.cell?, h]⟩

set_option maxHeartbeats 2000000 in
theorem isForeign_any (c : Cal) (w : World) : Calls Try.prog 126 #[c.agg] w fun e w' => e = .returned (.bool (foreignM c)) ∧ Below w.heap.size w w' := by
  have h1 : TabAt (((w.alloc (.cells #[.int .i64 c.space, .string c.name] 100)).alloc (.cells (sRow mathT) 163)).alloc (.cells (sRow svgT) 164)) (w.heap.size + 1) mathT := by
    have h := (tab_new (w.alloc (.cells #[.int .i64 c.space, .string c.name] 100)) mathT 163).below (below_new _ (.cells (sRow svgT) 164))
    rw [World.size_alloc] at h
    exact h
  have h2 : TabAt (((w.alloc (.cells #[.int .i64 c.space, .string c.name] 100)).alloc (.cells (sRow mathT) 163)).alloc (.cells (sRow svgT) 164)) (w.heap.size + 2) svgT := by
    have h := tab_new ((w.alloc (.cells #[.int .i64 c.space, .string c.name] 100)).alloc (.cells (sRow mathT) 163)) svgT 164
    rw [World.size_alloc, World.size_alloc] at h
    exact h
  have hb3 : Below w.heap.size w (((w.alloc (.cells #[.int .i64 c.space, .string c.name] 100)).alloc (.cells (sRow mathT) 163)).alloc (.cells (sRow svgT) 164)) := below3 _ _ _ _
  have hsz : (((w.alloc (.cells #[.int .i64 c.space, .string c.name] 100)).alloc (.cells (sRow mathT) 163)).alloc (.cells (sRow svgT) 164)).heap.size = w.heap.size + 3 := by simp
  have hbx : (((w.alloc (.cells #[.int .i64 c.space, .string c.name] 100)).alloc (.cells (sRow mathT) 163)).alloc (.cells (sRow svgT) 164)).cell? ⟨w.heap.size, 0, none⟩ = some (.int .i64 c.space) ∧ (((w.alloc (.cells #[.int .i64 c.space, .string c.name] 100)).alloc (.cells (sRow mathT) 163)).alloc (.cells (sRow svgT) 164)).cell? ⟨w.heap.size, 1, none⟩ = some (.string c.name) := first_cells w _ _ _ _ (below2 _ _ _)
  unfold foreignM
  generalize hW : (((w.alloc (.cells #[.int .i64 c.space, .string c.name] 100)).alloc (.cells (sRow mathT) 163)).alloc (.cells (sRow svgT) 164)) = W at *
  have HA1 : Hid (∀ w1, Below W.heap.size W w1 → Calls Try.prog 115 #[c.agg, .int .i64 1, .slice (some ⟨w.heap.size + 1, 0, none⟩) 6 6] w1 fun e w' => e = .returned (.bool (amongM c 1 mathT)) ∧ Below W.heap.size W w') := hide (fun w1 hb => by
    refine (isAmong_any c 1 mathT (by decide) (w.heap.size + 1) w1 (h1.below hb)).mono ?_
    rintro e w' ⟨rfl, hb2⟩
    exact ⟨rfl, hb.trans (hb2.mono hb.size)⟩)
  have HA2 : Hid (∀ w1, Below W.heap.size W w1 → Calls Try.prog 115 #[c.agg, .int .i64 2, .slice (some ⟨w.heap.size + 1 + 1, 0, none⟩) 3 3] w1 fun e w' => e = .returned (.bool (amongM c 2 svgT)) ∧ Below W.heap.size W w') := hide (fun w1 hb => by
    refine (isAmong_any c 2 svgT (by decide) (w.heap.size + 2) w1 (h2.below hb)).mono ?_
    rintro e w' ⟨rfl, hb2⟩
    exact ⟨rfl, hb.trans (hb2.mono hb.size)⟩)
  have HBX : Hid (∀ w1, Below W.heap.size W w1 → w1.cell? ⟨w.heap.size, 0, none⟩ = some (.int .i64 c.space) ∧ w1.cell? ⟨w.heap.size, 1, none⟩ = some (.string c.name)) := hide (fun w1 hb => ⟨(hb.cell (p := ⟨w.heap.size, 0, none⟩) (show w.heap.size < W.heap.size by omega)).trans hbx.1, (hb.cell (p := ⟨w.heap.size, 1, none⟩) (show w.heap.size < W.heap.size by omega)).trans hbx.2⟩)
  have HWW := hide hW
  have HB3 := hide hb3
  generalize amongM c 1 mathT = r1 at *
  generalize amongM c 2 svgT = r2 at *
  obtain ⟨cs, cn⟩ := c
  simp only [Cal.agg] at *
  obtain ⟨hx0, hx1⟩ := hbx
  clear h1 h2 hb3 hsz hW
  have hund : undef = Value.tuple #[] := rfl
  cases r1 with
  | true =>
    go_enter Try.func126, Try.ntmps126
    go_wp2_with fail
    refine (show Code.wp Try.prog _ _ _ (((w.alloc (.cells #[.int .i64 cs, .string cn] 100)).alloc (.cells (sRow mathT) 163)).alloc (.cells (sRow svgT) 164)) from ?_)
    rw [unhide HWW]
    first | go_region_with (go_at_call 115; refine ((unhide HA1) _ (by first | exact Below.refl _ _ | exact (Below.refl _ _).drew | exact below_dn (Below.refl _ _) _ | exact (Below.refl _ _).drew.drew)).mono ?_; rintro e w2 ⟨rfl, hb⟩; have HB := hide hb; obtain ⟨hy0, hy1⟩ := (unhide HBX) _ hb; clear hb) | fail
    all_goals go_wp2
    all_goals go_ret
    all_goals exact ⟨rfl, (unhide HB3).trans ((unhide HB).mono (unhide HB3).size)⟩
  | false =>
    go_enter Try.func126, Try.ntmps126
    go_wp2_with fail
    refine (show Code.wp Try.prog _ _ _ (((w.alloc (.cells #[.int .i64 cs, .string cn] 100)).alloc (.cells (sRow mathT) 163)).alloc (.cells (sRow svgT) 164)) from ?_)
    rw [unhide HWW]
    first | go_region_with (first | (have _x := unhide HB; clear _x; go_at_call 115; refine ((unhide HA2) _ (by first | exact unhide HB | exact (unhide HB).drew | exact below_dn (unhide HB) _ | exact (unhide HB).drew.drew)).mono ?_; rintro e w3 ⟨rfl, hb⟩; have HB2 := hide hb; clear hb) | (go_at_call 115; refine ((unhide HA1) _ (by first | exact Below.refl _ _ | exact (Below.refl _ _).drew | exact below_dn (Below.refl _ _) _ | exact (Below.refl _ _).drew.drew)).mono ?_; rintro e w2 ⟨rfl, hb⟩; have HB := hide hb; obtain ⟨hy0, hy1⟩ := (unhide HBX) _ hb; clear hb)) | fail
    all_goals go_wp2
    all_goals go_ret
    all_goals exact ⟨rfl, (unhide HB3).trans ((unhide HB2).mono (unhide HB3).size)⟩
end Go.Proofs.Ytmllhebmaldgfaa
