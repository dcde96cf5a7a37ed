/-
  An attribute as text: attribute.
-/
import Derived.Test.YtfcagiacjpcpeaaVb
import Derived.Deep.RegionHeld3
namespace Go.Proofs.Ytfcagiacjpcpeaa
open Go.RowKit Go.Lib

theorem below_dr1 {B n : Nat} {a w' : World} (h : Below B (a.drewN n) w') : Below B a w' := ⟨h.os, h.tape, h.output, h.size, h.block⟩

set_option maxHeartbeats 4000000 in
theorem attribute_any {bA : Nat} {sc : Bool} {B bw : Nat} {l : List UInt8} {w : World} (x : AttrM) (h : Wr bA sc B bw l w) (hlen : l.length + 6 * x.val.size + x.name.size + 100 ≤ 140737488355328) (hB : B ≤ w.heap.size) :
    Calls Try.prog 77 #[.pointer (some ⟨bw, 0, none⟩), .agg #[.int .i64 x.space, .string x.pre, .string x.name, .string x.val]] w fun e w' => e = .returned (.tuple #[]) ∧ Wr bA sc B bw (l ++ attrL x) w' ∧ Nx B bw w w' := by
  have HW := hidE h
  have HLEN := hidE hlen
  clear h hlen
  go_enter_defers Try.func77, Try.ntmps77
  go_wp2
  have hltw := (unhidE HW).lt
  have HP := hidE (fun w1 => attr_put (w1 := w1) x (unhidE HW) (unhidE HLEN) hB)
  have HS : Hid (∀ W' : World, W'.heap[w.heap.size]? = some (.cells #[.int .i64 x.space, .string x.pre, .string x.name, .string x.val] 96 (0, 0)) → (W'.cell? ⟨w.heap.size, 0, none⟩ = some (.int .i64 x.space) ∧ W'.cell? ⟨w.heap.size, 1, none⟩ = some (.string x.pre) ∧ W'.cell? ⟨w.heap.size, 2, none⟩ = some (.string x.name) ∧ W'.cell? ⟨w.heap.size, 3, none⟩ = some (.string x.val))) := hidE (fun W' h => ⟨cell_row _ _ 0 _ _ _ h, cell_row _ _ 1 _ _ _ h, cell_row _ _ 2 _ _ _ h, cell_row _ _ 3 _ _ _ h⟩)
  have HK0 : Hid ((w.alloc (.cells #[.int .i64 x.space, .string x.pre, .string x.name, .string x.val] 96)).heap[w.heap.size]? = some (.cells #[.int .i64 x.space, .string x.pre, .string x.name, .string x.val] 96 (0, 0))) := hidE (heap_alloc_new w _)
  go_region_held3 (fun W' => W'.cell? ⟨w.heap.size, 0, none⟩ = some (.int .i64 x.space) ∧ W'.cell? ⟨w.heap.size, 1, none⟩ = some (.string x.pre) ∧ W'.cell? ⟨w.heap.size, 2, none⟩ = some (.string x.name) ∧ W'.cell? ⟨w.heap.size, 3, none⟩ = some (.string x.val)) (first | exact (unhidE HS) _ (unhidE HK3) | exact (unhidE HS) _ (unhidE HK1a _) | exact (unhidE HS) _ (unhidE HK1) | exact (unhidE HS) _ (unhidE HK0)) (first
    | (go_at_call 80; refine (ahead_any x _).mono ?_; rintro e w1 ⟨rfl, hb1⟩; have HB1 : Hid (Below (w.alloc (.cells #[.int .i64 x.space, .string x.pre, .string x.name, .string x.val] 96)).heap.size (w.alloc (.cells #[.int .i64 x.space, .string x.pre, .string x.name, .string x.val] 96)) w1) := hidE (below_dr hb1); have hk1 := ((unhidE HB1).block _ (by simp)).trans (unhidE HK0); have HK1 := hidE hk1; have HK1a := hidE (fun o => (alloc_old w1 o _ (lt_of_block hk1)).trans hk1); clear hb1 hk1)
    | (go_at_call 69; refine ((unhidE HP) w1 (unhidE HB1)).mono ?_; rintro e w3 ⟨rfl, hw3, hn3, hk3⟩; have HW3 := hidE hw3; have HN3 := hidE hn3; have HK3 := hidE hk3; clear hw3 hn3 hk3))
  have hl3 := attr_cat x
  have hk3l := lt_of_block (unhidE HK3)
  have hw3l := (unhidE HW3).lt
  have HE : Hid (∀ n, Calls Try.prog 40 #[.pointer (some ⟨bw, 2, none⟩), .string x.val, .bool true] ((w3.alloc (.cells #[.string ⟨#[34]⟩] 9)).drewN n) _) := hidE (fun n => escape_any (bokW bA sc) x.val true (((unhidE HW3).alloc _).drewN n) (by rw [List.length_append]; have := unhidE HLEN; omega) (Nat.le_trans hB (((unhidE HN3).alloc hB _).drewN n).size))
  have HK4 : Hid (∀ o, (w3.alloc o).heap[w.heap.size]? = some (.cells #[.int .i64 x.space, .string x.pre, .string x.name, .string x.val] 96 (0, 0))) := hidE (fun o => (alloc_old w3 o _ hk3l).trans (unhidE HK3))
  clear hl3
  go_wp2
  go_region_held3 (fun W' => W'.cell? ⟨w.heap.size, 0, none⟩ = some (.int .i64 x.space) ∧ W'.cell? ⟨w.heap.size, 1, none⟩ = some (.string x.pre) ∧ W'.cell? ⟨w.heap.size, 2, none⟩ = some (.string x.name) ∧ W'.cell? ⟨w.heap.size, 3, none⟩ = some (.string x.val)) (first | exact (unhidE HS) _ (unhidE HK5) | exact (unhidE HS) _ (unhidE HK4 _)) (first
    | (go_at_call 40; refine ((unhidE HE) 1).mono ?_; rintro e w5 ⟨rfl, hB5, hb5, hk5⟩; have HB5 := hidE hB5; have HN5 : Hid (Nx B bw (w3.alloc (.cells #[.string ⟨#[34]⟩] 9)) w5) := hidE ⟨below_dr1 hb5, hk5⟩; have HK5 := hidE ((unhidE HN5).block (unhidE HK4 _) (by omega) (by decide)); clear hB5 hb5 hk5))
  have hw5 : Wr bA sc B bw (l ++ catL [⟨#[32]⟩, aheadB x, x.name, ⟨#[61, 34]⟩] ++ escL true x.val.data.toList) w5 := .inr (unhidE HB5)
  have hn5 := unhidE HN5
  have hl3 := attr_cat x
  have hle := esc_len true _ x.val.data.toList (Nat.le_refl _)
  rw [len_data] at hle
  have hblk : w5.heap[w3.heap.size]? = some (.cells #[.string ⟨#[34]⟩] 9 (0, 0)) := hn5.block (heap_alloc_new w3 _) (by omega) (by decide)
  refine leaves_cons (f := 69) (args := #[.pointer (some ⟨bw, 0, none⟩), .slice (some ⟨w3.heap.size, 0, none⟩) 1 1]) (by simp) (by simp [go_sem]) ?_
  have hn6 : Nx B bw w w5 := ((unhidE HN3).alloc hB _).trans hn5
  refine (put_deferred [⟨#[34]⟩] hw5 hblk (by omega) (by simp) (by
    have h1 : (catL [⟨#[34]⟩]).length = 1 := rfl
    rw [h1, List.length_append, List.length_append]; have := unhidE HLEN; omega) (Nat.le_trans hB hn6.size) .returning).mono ?_
  rintro e u' w2 ⟨rfl, rfl, hw7, hn7⟩
  refine ⟨_, results_none rfl _ _ _, rfl, ?_, hn6.trans hn7⟩
  have e1 : l ++ attrL x = l ++ catL [⟨#[32]⟩, aheadB x, x.name, ⟨#[61, 34]⟩] ++ escL true x.val.data.toList ++ catL [⟨#[34]⟩] := by
    unfold attrL
    have h1 : catL [⟨#[34]⟩] = [34] := rfl
    rw [h1]
    simp only [List.append_assoc]
  rw [e1]
  exact hw7
end Go.Proofs.Ytfcagiacjpcpeaa
