/-
  The first node that is in a node.
-/
import Derived.Test.YtfcagiacjpcpeaaVf
namespace Go.Proofs.Ytfcagiacjpcpeaa
open Go.RowKit Go.Lib

theorem Wr.cells {bA : Nat} {sc : Bool} {B bw : Nat} {l : List UInt8} {w : World} (h : Wr bA sc B bw l w) : w.cell? ⟨bw, 0, none⟩ = some (.pointer (some ⟨bA, 0, none⟩)) ∧ w.cell? ⟨bw, 1, none⟩ = some (.bool sc) := by
  rcases h with h | h
  · obtain ⟨v, hk, _⟩ := h.ex; exact ⟨cell_row _ _ 0 _ _ _ hk, cell_row _ _ 1 _ _ _ hk⟩
  · obtain ⟨v, hk, _⟩ := h.ex; exact ⟨cell_row _ _ 0 _ _ _ hk, cell_row _ _ 1 _ _ _ hk⟩

set_option maxHeartbeats 1000000 in
theorem first_plain (n : NodeM) (a : Option Addr) (cap : Nat) (bw : Nat) (w : World) (h : n.inner = -1) : Calls Try.prog 57 #[.pointer (some ⟨bw, 0, none⟩), .agg #[.int .i64 n.kind, .int .i64 n.space, .string n.name, .slice a n.attrs.length cap, .string n.data, .string n.system, .int .i64 n.parent, .int .i64 n.first, .int .i64 n.last, .int .i64 n.prev, .int .i64 n.next, .int .i64 n.inner]] w fun e w' => e = .returned (.int .i64 n.first) ∧ Below w.heap.size w w' := by
  have HB := hidE (below_new w (nodeB n a cap))
  unfold nodeB at HB
  rw [h] at HB ⊢
  clear h
  go_enter Try.func57, Try.ntmps57
  go_wp2
  go_ret
  exact ⟨rfl, unhidE HB⟩

theorem below_set {B : Nat} {a w : World} (h : Below B a w) {k : Nat} (hk : B ≤ k) (i : Nat) (v : Value) : Below B a (w.setCell ⟨k, i, none⟩ v) := h.setCell (p := ⟨k, i, none⟩) hk v
theorem below_dr2 {B : Nat} {a w' : World} (h : Below B a w') : Below B a w'.drew := ⟨h.os, h.tape, h.output, h.size, h.block⟩
set_option maxHeartbeats 4000000 in
theorem first_inner {W0 w : World} {bA : Nat} {sc : Bool} {B bw : Nat} {t : List UInt8} {ns : List NodeM} (hN : NodeC W0 bA ns) (hb : Below W0.heap.size W0 w) (hw : Wr bA sc B bw t w) (n : NodeM) (a : Option Addr) (cap : Nat) (c : Nat) (m : NodeM) (h : n.inner = (c : Int)) (hm : ns[c]? = some m) : Calls Try.prog 57 #[.pointer (some ⟨bw, 0, none⟩), .agg #[.int .i64 n.kind, .int .i64 n.space, .string n.name, .slice a n.attrs.length cap, .string n.data, .string n.system, .int .i64 n.parent, .int .i64 n.first, .int .i64 n.last, .int .i64 n.prev, .int .i64 n.next, .int .i64 n.inner]] w fun e w' => e = .returned (.int .i64 m.first) ∧ Below w.heap.size w w' := by
  have HB := hidE (below_new w (nodeB n a cap))
  have HC : Hid (∀ o, (w.alloc o).cell? ⟨bw, 0, none⟩ = some (.pointer (some ⟨bA, 0, none⟩))) := hidE (fun o => (hw.alloc o).cells.1)
  have HN := hidE (fun W (h : Below w.heap.size w W) => hN W (hb.trans (h.mono hb.size)) c m hm)
  have hne : ((c : Int) != -1) = true := by rw [bne_iff_ne]; omega
  unfold nodeB at HB
  rw [h] at HB ⊢
  have hca := (unhidE HC) (.cells #[.int .i64 n.kind, .int .i64 n.space, .string n.name, .slice a n.attrs.length cap, .string n.data, .string n.system, .int .i64 n.parent, .int .i64 n.first, .int .i64 n.last, .int .i64 n.prev, .int .i64 n.next, .int .i64 (c : Int)] 60)
  clear h hm hN hw
  go_enter Try.func57, Try.ntmps57
  go_wp2
  first
  | go_region_with (go_at_call 34; refine ((unhidE HN) _ (below_dr2 (unhidE HB))).mono ?_; rintro e w1 ⟨ao, cp, rfl, _, hb1⟩; have hk1 := (hb1.block w.heap.size (by simp)).trans (heap_alloc_new w (.cells #[.int .i64 n.kind, .int .i64 n.space, .string n.name, .slice a n.attrs.length cap, .string n.data, .string n.system, .int .i64 n.parent, .int .i64 n.first, .int .i64 n.last, .int .i64 n.prev, .int .i64 n.next, .int .i64 (c : Int)] 60)); have d0 := cell_row _ _ 0 _ _ _ hk1; have d1 := cell_row _ _ 1 _ _ _ hk1; have d2 := cell_row _ _ 2 _ _ _ hk1; have d3 := cell_row _ _ 3 _ _ _ hk1; have d4 := cell_row _ _ 4 _ _ _ hk1; have d5 := cell_row _ _ 5 _ _ _ hk1; have d6 := cell_row _ _ 6 _ _ _ hk1; have d7 := cell_row _ _ 7 _ _ _ hk1; have d8 := cell_row _ _ 8 _ _ _ hk1; have d9 := cell_row _ _ 9 _ _ _ hk1; have d10 := cell_row _ _ 10 _ _ _ hk1; have d11 := cell_row _ _ 11 _ _ _ hk1; have hfz := fun j => frozen_of_heap hk1 j; have HB1 := hidE ((unhidE HB).trans (below_dr (hb1) |>.mono (unhidE HB).size)); clear hb1 hk1)
  | fail
  all_goals go_wp2
  all_goals go_ret
  all_goals exact ⟨rfl, below_set (below_set (below_set (below_set (below_set (below_set (below_set (below_set (below_set (below_set (below_set (below_set (unhidE HB1) (Nat.le_refl _) _ _) (Nat.le_refl _) _ _) (Nat.le_refl _) _ _) (Nat.le_refl _) _ _) (Nat.le_refl _) _ _) (Nat.le_refl _) _ _) (Nat.le_refl _) _ _) (Nat.le_refl _) _ _) (Nat.le_refl _) _ _) (Nat.le_refl _) _ _) (Nat.le_refl _) _ _) (Nat.le_refl _) _ _⟩
end Go.Proofs.Ytfcagiacjpcpeaa
