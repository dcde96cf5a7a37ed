/-
  An attribute as text: attribute. A start tag as text. What is in a node, as text, plainly; how long it can become. What package write asks of a node: whether it is one of HTML, whether it is void; the first node in it.
-/
import Derived.Test.YtmnmaenmoaehlaaGreatDoorSZar
import Derived.Deep.RegionHeld3
import Derived.Test.YtmnmaenmoaehlaaGreatDoorSZao
namespace Go.Proofs.YtmnmaenmoaehlaaGreatDoor
open Go.RowKit Go.Lib

theorem below_dr1 {B n : Nat} {a w' : World} (h : Below B (a.drewN n) w') : Below B a w' := ⟨h.os, h.tape, h.output, h.size, h.block⟩

set_option maxHeartbeats 4000000 in
theorem attribute_any {bA : Nat} {sc : Bool} {B bw : Nat} {l : List UInt8} {w : World} (x : AttrM) (h : Wr bA sc B bw l w) (hlen : l.length + 6 * x.val.size + x.name.size + 100 ≤ 140737488355328) (hB : B ≤ w.heap.size) :
    Calls Tryz.prog 120 #[.pointer (some ⟨bw, 0, none⟩), .agg #[.int .i64 x.space, .string x.pre, .string x.name, .string x.val]] w fun e w' => e = .returned (.tuple #[]) ∧ Wr bA sc B bw (l ++ attrL x) w' ∧ Nx B bw w w' := by
  have HW := hidE h
  have HLEN := hidE hlen
  clear h hlen
  go_enter_defers Tryz.func120, Tryz.ntmps120
  go_wp2
  have hltw := (unhidE HW).lt
  have HP := hidE (fun w1 => attr_put (w1 := w1) x (unhidE HW) (unhidE HLEN) hB)
  have HS : Hid (∀ W' : World, W'.heap[w.heap.size]? = some (.cells #[.int .i64 x.space, .string x.pre, .string x.name, .string x.val] 93 (0, 0)) → (W'.cell? ⟨w.heap.size, 0, none⟩ = some (.int .i64 x.space) ∧ W'.cell? ⟨w.heap.size, 1, none⟩ = some (.string x.pre) ∧ W'.cell? ⟨w.heap.size, 2, none⟩ = some (.string x.name) ∧ W'.cell? ⟨w.heap.size, 3, none⟩ = some (.string x.val))) := hidE (fun W' h => ⟨cell_row _ _ 0 _ _ _ h, cell_row _ _ 1 _ _ _ h, cell_row _ _ 2 _ _ _ h, cell_row _ _ 3 _ _ _ h⟩)
  have HK0 : Hid ((w.alloc (.cells #[.int .i64 x.space, .string x.pre, .string x.name, .string x.val] 93)).heap[w.heap.size]? = some (.cells #[.int .i64 x.space, .string x.pre, .string x.name, .string x.val] 93 (0, 0))) := hidE (heap_alloc_new w _)
  go_region_held3 (fun W' => W'.cell? ⟨w.heap.size, 0, none⟩ = some (.int .i64 x.space) ∧ W'.cell? ⟨w.heap.size, 1, none⟩ = some (.string x.pre) ∧ W'.cell? ⟨w.heap.size, 2, none⟩ = some (.string x.name) ∧ W'.cell? ⟨w.heap.size, 3, none⟩ = some (.string x.val)) (first | exact (unhidE HS) _ (unhidE HK3) | exact (unhidE HS) _ (unhidE HK1a _) | exact (unhidE HS) _ (unhidE HK1) | exact (unhidE HS) _ (unhidE HK0)) (first
    | (go_at_call 134; refine (ahead_any x _).mono ?_; rintro e w1 ⟨rfl, hb1⟩; have HB1 : Hid (Below (w.alloc (.cells #[.int .i64 x.space, .string x.pre, .string x.name, .string x.val] 93)).heap.size (w.alloc (.cells #[.int .i64 x.space, .string x.pre, .string x.name, .string x.val] 93)) w1) := hidE (below_dr hb1); have hk1 := ((unhidE HB1).block _ (by simp)).trans (unhidE HK0); have HK1 := hidE hk1; have HK1a := hidE (fun o => (alloc_old w1 o _ (lt_of_block hk1)).trans hk1); clear hb1 hk1)
    | (go_at_call 93; refine ((unhidE HP) w1 (unhidE HB1)).mono ?_; rintro e w3 ⟨rfl, hw3, hn3, hk3⟩; have HW3 := hidE hw3; have HN3 := hidE hn3; have HK3 := hidE hk3; clear hw3 hn3 hk3))
  have hl3 := attr_cat x
  have hk3l := lt_of_block (unhidE HK3)
  have hw3l := (unhidE HW3).lt
  have HE : Hid (∀ n, Calls Tryz.prog 94 #[.pointer (some ⟨bw, 2, none⟩), .string x.val, .bool true] ((w3.alloc (.cells #[.string ⟨#[34]⟩] 9)).drewN n) _) := hidE (fun n => escape_any (bokW bA sc) x.val true (((unhidE HW3).alloc _).drewN n) (by rw [List.length_append]; have := unhidE HLEN; omega) (Nat.le_trans hB (((unhidE HN3).alloc hB _).drewN n).size))
  have HK4 : Hid (∀ o, (w3.alloc o).heap[w.heap.size]? = some (.cells #[.int .i64 x.space, .string x.pre, .string x.name, .string x.val] 93 (0, 0))) := hidE (fun o => (alloc_old w3 o _ hk3l).trans (unhidE HK3))
  clear hl3
  go_wp2
  go_region_held3 (fun W' => W'.cell? ⟨w.heap.size, 0, none⟩ = some (.int .i64 x.space) ∧ W'.cell? ⟨w.heap.size, 1, none⟩ = some (.string x.pre) ∧ W'.cell? ⟨w.heap.size, 2, none⟩ = some (.string x.name) ∧ W'.cell? ⟨w.heap.size, 3, none⟩ = some (.string x.val)) (first | exact (unhidE HS) _ (unhidE HK5) | exact (unhidE HS) _ (unhidE HK4 _)) (first
    | (go_at_call 94; refine ((unhidE HE) 1).mono ?_; rintro e w5 ⟨rfl, hB5, hb5, hk5⟩; have HB5 := hidE hB5; have HN5 : Hid (Nx B bw (w3.alloc (.cells #[.string ⟨#[34]⟩] 9)) w5) := hidE ⟨below_dr1 hb5, hk5⟩; have HK5 := hidE ((unhidE HN5).block (unhidE HK4 _) (by omega) (by decide)); clear hB5 hb5 hk5))
  have hw5 : Wr bA sc B bw (l ++ catL [⟨#[32]⟩, aheadB x, x.name, ⟨#[61, 34]⟩] ++ escL true x.val.data.toList) w5 := .inr (unhidE HB5)
  have hn5 := unhidE HN5
  have hl3 := attr_cat x
  have hle := esc_len true _ x.val.data.toList (Nat.le_refl _)
  rw [len_data] at hle
  have hblk : w5.heap[w3.heap.size]? = some (.cells #[.string ⟨#[34]⟩] 9 (0, 0)) := hn5.block (heap_alloc_new w3 _) (by omega) (by decide)
  refine leaves_cons (f := 93) (args := #[.pointer (some ⟨bw, 0, none⟩), .slice (some ⟨w3.heap.size, 0, none⟩) 1 1]) (by simp) (by simp [go_sem]) ?_
  have hn6 : Nx B bw w w5 := ((unhidE HN3).alloc hB _).trans hn5
  refine (put_deferred [⟨#[34]⟩] hw5 hblk (by omega) (by simp) (by
    have h1 : (catL [⟨#[34]⟩]).length = 1 := rfl
    rw [h1, List.length_append, List.length_append]; have := unhidE HLEN; omega) (Nat.le_trans hB hn6.size) .returning).mono ?_
  rintro e u' w2 ⟨rfl, rfl, hw7, hn7⟩
  refine ⟨_, results_none rfl _ _ _, rfl, ?_, hn6.trans hn7⟩
  have e1 : l ++ attrL x = l ++ catL [⟨#[32]⟩, aheadB x, x.name, ⟨#[61, 34]⟩] ++ escL true x.val.data.toList ++ catL [⟨#[34]⟩] := by
    unfold attrL
    have h1 : catL [⟨#[34]⟩] = [34] := rfl
    rw [h1]
    simp only [List.append_assoc]
  rw [e1]
  exact hw7
end Go.Proofs.YtmnmaenmoaehlaaGreatDoor

namespace Go.Proofs.YtmnmaenmoaehlaaGreatDoor
open Go.RowKit Go.Lib

/-- Attributes in a block of their own. -/
def AtR (w : World) (a : Option Addr) (l : List AttrM) : Prop :=
  l ≠ [] → ∃ g cur fz, a = some ⟨g, 0, none⟩ ∧ w.heap[g]? = some (.cells cur 93 fz) ∧ ∀ (j : Nat) v, (attrRow l)[j]? = some v → cur[j]? = some v
theorem Wr.block {bA : Nat} {sc : Bool} {B bw : Nat} {l : List UInt8} {w : World} (h : Wr bA sc B bw l w) : ∃ c fz, w.heap[bw]? = some (.cells c 105 fz) := by
  rcases h with h | h
  · obtain ⟨v, hk, _⟩ := h.ex; exact ⟨_, _, hk⟩
  · obtain ⟨v, hk, _⟩ := h.ex; exact ⟨_, _, hk⟩
theorem AtR.nx {bA : Nat} {sc : Bool} {B bw : Nat} {t : List UInt8} {w w' : World} {a : Option Addr} {l : List AttrM} (h : AtR w a l) (hw : Wr bA sc B bw t w) (hn : Nx B bw w w') : AtR w' a l := by
  intro hl
  obtain ⟨g, cur, fz, e, hk, hc⟩ := h hl
  obtain ⟨c, fz', hb⟩ := hw.block
  refine ⟨g, cur, fz, e, hn.block hk (fun e => ?_) (by decide), hc⟩
  rw [e, hb] at hk
  injection hk with hk
  injection hk with _ hk _
  revert hk
  decide
theorem AtR.at {w : World} {a : Option Addr} {l : List AttrM} (h : AtR w a l) {j : Nat} {x : AttrM} (hx : l[j]? = some x) : ∃ g, a = some ⟨g, 0, none⟩ ∧ w.cell? ⟨g, j * 4, none⟩ = some (.int .i64 x.space) ∧ w.cell? ⟨g, j * 4 + 1, none⟩ = some (.string x.pre) ∧ w.cell? ⟨g, j * 4 + 2, none⟩ = some (.string x.name) ∧ w.cell? ⟨g, j * 4 + 3, none⟩ = some (.string x.val) := by
  obtain ⟨g, cur, fz, e, hk, hc⟩ := h (by rintro rfl; simp at hx)
  refine ⟨g, e, ?_, ?_, ?_, ?_⟩
  all_goals
    rw [cell_row _ g _ _ _ _ hk]
    refine hc _ _ ?_
  · have := flat_get AttrM.cells 4 (fun _ => rfl) l j 0 (by omega); rw [hx] at this; simpa [attrRow, AttrM.cells] using this
  · have := flat_get AttrM.cells 4 (fun _ => rfl) l j 1 (by omega); rw [hx] at this; simpa [attrRow, AttrM.cells] using this
  · have := flat_get AttrM.cells 4 (fun _ => rfl) l j 2 (by omega); rw [hx] at this; simpa [attrRow, AttrM.cells] using this
  · have := flat_get AttrM.cells 4 (fun _ => rfl) l j 3 (by omega); rw [hx] at this; simpa [attrRow, AttrM.cells] using this

def attrsL (l : List AttrM) : List UInt8 := l.flatMap attrL
def tagL (nm : ByteArray) (l : List AttrM) : List UInt8 := [60] ++ nm.data.toList ++ attrsL l ++ [62]
/-- How long a tag may become. -/
def attrsN (l : List AttrM) : Nat := l.foldr (fun x n => 6 * x.val.size + x.name.size + 100 + n) 0
theorem attrL_len (x : AttrM) : (attrL x).length ≤ 6 * x.val.size + x.name.size + 100 := by
  unfold attrL
  have h1 := attr_cat x
  have h2 := esc_len true _ x.val.data.toList (Nat.le_refl _)
  rw [len_data] at h2
  simp only [List.length_append, List.length_cons, List.length_nil]
  omega
theorem attrsL_len (l : List AttrM) : (attrsL l).length ≤ attrsN l := by
  induction l with
  | nil => simp [attrsL, attrsN]
  | cons x l ih =>
    have := attrL_len x
    unfold attrsL attrsN at *
    simp only [List.flatMap_cons, List.length_append, List.foldr_cons]
    omega
theorem attrsN_at (l : List AttrM) (j : Nat) (x : AttrM) (h : l[j]? = some x) : (attrsL (l.take j)).length + (6 * x.val.size + x.name.size + 100) ≤ attrsN l := by
  induction l generalizing j with
  | nil => simp at h
  | cons y l ih =>
    cases j with
    | zero =>
      have e : y = x := by simpa using h
      subst e
      simp [attrsL, attrsN]
    | succ j =>
      have h1 := ih j (by simpa using h)
      have h2 := attrL_len y
      unfold attrsL attrsN at *
      simp only [List.take_succ_cons, List.flatMap_cons, List.length_append, List.foldr_cons]
      omega

theorem attrsL_take (l : List AttrM) (j : Nat) (x : AttrM) (h : l[j]? = some x) : attrsL (l.take (j + 1)) = attrsL (l.take j) ++ attrL x := by
  unfold attrsL
  rw [List.take_add_one, h]
  simp

/-- A node as it is handed to a call: its twelve values. -/
def nodeA (k sp : Int) (nm : ByteArray) (av : Value) (da sy : ByteArray) (p f la pr nx inn : Int) : Array Value := #[.int .i64 k, .int .i64 sp, .string nm, av, .string da, .string sy, .int .i64 p, .int .i64 f, .int .i64 la, .int .i64 pr, .int .i64 nx, .int .i64 inn]

set_option maxHeartbeats 4000000 in
theorem startTag_any {bA : Nat} {sc : Bool} {B bw : Nat} {t : List UInt8} {w : World} (k sp : Int) (nm : ByteArray) (a : Option Addr) (cap : Nat) (l : List AttrM) (da sy : ByteArray) (p f la pr nx inn : Int) (h : Wr bA sc B bw t w) (ha : AtR w a l) (hl : l.length ≤ 100000) (hlen : t.length + nm.size + attrsN l + 100 ≤ 140737488355328) (hB : B ≤ w.heap.size) :
    Calls Tryz.prog 110 #[.pointer (some ⟨bw, 0, none⟩), .agg #[.int .i64 k, .int .i64 sp, .string nm, .slice a l.length cap, .string da, .string sy, .int .i64 p, .int .i64 f, .int .i64 la, .int .i64 pr, .int .i64 nx, .int .i64 inn]] w fun e w' => e = .returned (.tuple #[]) ∧ Wr bA sc B bw (t ++ tagL nm l) w' ∧ Nx B bw w w' := by
  have HW := hidE h
  have HLEN := hidE hlen
  have HA := hidE ha
  have hlz : (l.length : Int) ≤ 100000 := by omega
  clear h hlen ha
  go_enter_defers Tryz.func110, Tryz.ntmps110
  have hltw := (unhidE HW).lt
  have hn0 : Nx B bw w (w.alloc (.cells #[.int .i64 k, .int .i64 sp, .string nm, .slice a l.length cap, .string da, .string sy, .int .i64 p, .int .i64 f, .int .i64 la, .int .i64 pr, .int .i64 nx, .int .i64 inn] 51)) := (Nx.refl B bw w).alloc hB _
  have hn1 := hn0.alloc hB (.cells #[.string ⟨#[60]⟩, .string nm] 9)
  have hcat : (catL [⟨#[60]⟩, nm]).length = 1 + nm.size := by
    have e : catL [⟨#[60]⟩, nm] = [60] ++ nm.data.toList := by simp [catL]
    rw [e, List.length_append, len_data]; rfl
  have hp := put_any [⟨#[60]⟩, nm] (((unhidE HW).alloc (.cells #[.int .i64 k, .int .i64 sp, .string nm, .slice a l.length cap, .string da, .string sy, .int .i64 p, .int .i64 f, .int .i64 la, .int .i64 pr, .int .i64 nx, .int .i64 inn] 51)).alloc (.cells #[.string ⟨#[60]⟩, .string nm] 9)) (g := w.heap.size + 1) (by have := heap_alloc_new (w.alloc (.cells #[.int .i64 k, .int .i64 sp, .string nm, .slice a l.length cap, .string da, .string sy, .int .i64 p, .int .i64 f, .int .i64 la, .int .i64 pr, .int .i64 nx, .int .i64 inn] 51)) (.cells #[.string ⟨#[60]⟩, .string nm] 9); simpa [sRow] using this) (by omega) (by simp) (by rw [hcat]; have := unhidE HLEN; omega) (Nat.le_trans hB hn1.size)
  have HP := hidE hp
  have HN1 := hidE hn1
  have HK1 : Hid (((w.alloc (.cells #[.int .i64 k, .int .i64 sp, .string nm, .slice a l.length cap, .string da, .string sy, .int .i64 p, .int .i64 f, .int .i64 la, .int .i64 pr, .int .i64 nx, .int .i64 inn] 51)).alloc (.cells #[.string ⟨#[60]⟩, .string nm] 9)).heap[w.heap.size]? = some (.cells #[.int .i64 k, .int .i64 sp, .string nm, .slice a l.length cap, .string da, .string sy, .int .i64 p, .int .i64 f, .int .i64 la, .int .i64 pr, .int .i64 nx, .int .i64 inn] 51 (0, 0))) := hidE ((alloc_old _ _ _ (by simp)).trans (heap_alloc_new w _))
  clear hp hn0 hn1
  go_wp2_with (go_at_call 93; refine (unhidE HP).mono ?_; rintro e w3 ⟨rfl, hw3, hn3⟩; have hk3 := hn3.block (unhidE HK1) (by omega) (by decide); have HW3 := hidE hw3; have HN3 := hidE ((unhidE HN1).trans hn3); have HK3 := hidE hk3; have c3 := cell_row _ _ 3 _ _ _ hk3; have hl3 := lt_of_block hk3; have c3' := fun o => cell_row _ _ 3 _ _ _ ((alloc_old w3 o _ hl3).trans hk3); clear hw3 hn3 hk3)
  have hn4 := (unhidE HN3).alloc hB (.cells #[.string ⟨#[62]⟩] 9)
  have hw4 := (unhidE HW3).alloc (.cells #[.string ⟨#[62]⟩] 9)
  have ha4 := (unhidE HA).nx (unhidE HW) hn4
  have hG4 : (w3.alloc (.cells #[.string ⟨#[62]⟩] 9)).heap[w3.heap.size]? = some (.cells #[.string ⟨#[62]⟩] 9 (0, 0)) := heap_alloc_new w3 _
  have hw3l := (unhidE HW3).lt
  generalize w3.alloc (.cells #[.string ⟨#[62]⟩] 9) = w4 at hn4 hw4 ha4 hG4
  have HN4 := hidE hn4
  have HW4 := hidE hw4
  have HA4 := hidE ha4
  have HG4 := hidE hG4
  have hB4 := Nat.le_trans hB hn4.size
  clear hn4 hw4 ha4 hG4 c3 c3'
  go_loopg [5, 16] l.length (fun g _ s16 wx => ∃ j : Nat, s16 = .int .i64 j ∧ j + g = l.length ∧ Wr bA sc B bw (t ++ catL [⟨#[60]⟩, nm] ++ attrsL (l.take j)) wx ∧ Nx B bw w4 wx)
  case atStart => exact ⟨0, rfl, by omega, by simpa [attrsL] using unhidE HW4, Nx.refl _ _ _⟩
  case round =>
    obtain ⟨j, rfl, hjg, hw, hn⟩ := hrel
    by_cases hj : j < l.length
    · have hjz : (j : Int) < (l.length : Int) := by omega
      obtain ⟨x, hx⟩ : ∃ x, l[j]? = some x := ⟨_, List.getElem?_eq_getElem hj⟩
      obtain ⟨g, rfl, c0, c1, c2, c3⟩ := ((unhidE HA4).nx (unhidE HW4) hn).at hx
      have htk := attrsL_take l j x hx
      have hat := attrsN_at l j x hx
      have HT := hidE (attribute_any x (hw.alloc (.cells #[.int .i64 x.space, .string x.pre, .string x.name, .string x.val] 93)) (by rw [List.length_append, List.length_append, hcat]; have := unhidE HLEN; omega) (Nat.le_trans hB4 (hn.alloc hB4 _).size))
      have HN := hidE (hn.alloc hB4 (.cells #[.int .i64 x.space, .string x.pre, .string x.name, .string x.val] 93))
      have HTK := hidE htk
      clear hw hn hx htk hat
      go_wp2_with (go_at_call 120; refine (unhidE HT).mono ?_; rintro e w5 ⟨rfl, hw5, hn5⟩; have HW5 := hidE hw5; have HN5 := hidE ((unhidE HN).trans hn5); clear hw5 hn5)
      go_roundg (gk - 1)
      case measure => omega
      case rel => exact ⟨j + 1, by go_num, by omega, by rw [unhidE HTK, ← List.append_assoc]; exact unhidE HW5, unhidE HN5⟩
    · have hjz : ¬ (j : Int) < (l.length : Int) := by omega
      obtain rfl : j = l.length := by omega
      rw [List.take_length] at hw
      have hal := attrsL_len l
      have HW5 := hidE hw
      have HN5 := hidE hn
      clear hw hn
      go_wp2
      refine leaves_cons (f := 93) (args := #[.pointer (some ⟨bw, 0, none⟩), .slice (some ⟨w3.heap.size, 0, none⟩) 1 1]) (by simp) (by simp [go_sem]) ?_
      have hn6 : Nx B bw w wr := (unhidE HN4).trans (unhidE HN5)
      refine (put_deferred [⟨#[62]⟩] (unhidE HW5) ((unhidE HN5).block (unhidE HG4) (by omega) (by decide)) (by omega) (by simp) (by
        have h1 : (catL [⟨#[62]⟩]).length = 1 := rfl
        rw [h1, List.length_append, List.length_append, hcat]; have := unhidE HLEN; omega) (Nat.le_trans hB hn6.size) .returning).mono ?_
      rintro e u' w2 ⟨rfl, rfl, hw7, hn7⟩
      refine ⟨_, results_none rfl _ _ _, rfl, ?_, hn6.trans hn7⟩
      have e1 : t ++ tagL nm l = t ++ catL [⟨#[60]⟩, nm] ++ attrsL l ++ catL [⟨#[62]⟩] := by
        unfold tagL
        have h1 : catL [⟨#[62]⟩] = [62] := rfl
        have h2 : catL [⟨#[60]⟩, nm] = [60] ++ nm.data.toList := by simp [catL]
        rw [h1, h2]
        simp only [List.append_assoc]
      rw [e1]
      exact hw7
end Go.Proofs.YtmnmaenmoaehlaaGreatDoor

namespace Go.Proofs.YtmnmaenmoaehlaaGreatDoor
open Go.RowKit Go.Lib

def htmlM (k sp : Int) : Bool := k == 1 && sp == 0
def voidO (o : OneM) : Bool := htmlM o.kind o.space && hasN voids o.name
def plainO (o : OneM) (sc : Bool) : Bool := htmlM o.kind o.space && plainM o.name sc
def kidsOf (os : List OneM) (o : OneM) : List Nat := if o.inner = -1 then o.kids else match os[o.inner.toNat]? with | some c => c.kids | none => []
def comO : ByteArray := ⟨#[60, 33, 45, 45]⟩
def comS : ByteArray := ⟨#[45, 45, 62]⟩
def docO : ByteArray := ⟨#[60, 33, 68, 79, 67, 84, 89, 80, 69, 32]⟩
def gtB : ByteArray := ⟨#[62]⟩
def endB : ByteArray := ⟨#[60, 47]⟩
def elemT (inn : List UInt8) (o : OneM) : List UInt8 := tagL o.name o.attrs ++ (if voidO o then [] else inn ++ catL [endB, o.name, gtB])
def nodeT (inn : List UInt8) (o : OneM) (pl : Bool) : List UInt8 :=
  if o.kind = 1 then elemT inn o
  else if o.kind = 2 then (if pl then o.data.data.toList else escL false o.data.data.toList)
  else if o.kind = 3 then catL [comO, o.data, comS]
  else if o.kind = 4 then catL [docO, o.name, gtB] else []
def inL (os : List OneM) (sc : Bool) : Nat → Nat → List UInt8
  | 0, _ => []
  | n + 1, i => match os[i]? with
    | none => []
    | some o => if voidO o then [] else (kidsOf os o).flatMap fun k => match os[k]? with
      | none => []
      | some c => nodeT (inL os sc n k) c (plainO o sc)
/-- What a node alone may cost. -/
def costO (o : OneM) : Nat := 2 * o.name.size + attrsN o.attrs + 6 * o.data.size + 300
def costN (os : List OneM) : Nat → Nat → Nat
  | 0, _ => 0
  | n + 1, i => match os[i]? with
    | none => 0
    | some o => ((kidsOf os o).map fun k => match os[k]? with
      | none => 0
      | some c => costO c + costN os n k).sum
def kidT (os : List OneM) (sc : Bool) (n : Nat) (pl : Bool) (k : Nat) : List UInt8 := match os[k]? with
  | none => []
  | some c => nodeT (inL os sc n k) c pl
def kidN (os : List OneM) (n : Nat) (k : Nat) : Nat := match os[k]? with
  | none => 0
  | some c => costO c + costN os n k
theorem inL_at {os : List OneM} {i : Nat} {o : OneM} (h : os[i]? = some o) (sc : Bool) (n : Nat) : inL os sc (n + 1) i = if voidO o then [] else (kidsOf os o).flatMap (kidT os sc n (plainO o sc)) := by
  rw [inL, h]; rfl
theorem costN_at {os : List OneM} {i : Nat} {o : OneM} (h : os[i]? = some o) (n : Nat) : costN os (n + 1) i = ((kidsOf os o).map (kidN os n)).sum := by
  rw [costN, h]; rfl
theorem kidT_at {os : List OneM} {k : Nat} {c : OneM} (h : os[k]? = some c) (sc : Bool) (n : Nat) (pl : Bool) : kidT os sc n pl k = nodeT (inL os sc n k) c pl := by unfold kidT; rw [h]
theorem kidN_at {os : List OneM} {k : Nat} {c : OneM} (h : os[k]? = some c) (n : Nat) : kidN os n k = costO c + costN os n k := by unfold kidN; rw [h]
theorem tagL_len (nm : ByteArray) (l : List AttrM) : (tagL nm l).length ≤ nm.size + attrsN l + 2 := by
  unfold tagL
  have := attrsL_len l
  simp only [List.length_append, len_data, List.length_cons, List.length_nil]
  omega
theorem cat3_len (a b c : ByteArray) : (catL [a, b, c]).length = a.size + b.size + c.size := by
  have e : catL [a, b, c] = a.data.toList ++ (b.data.toList ++ c.data.toList) := by simp [catL]
  rw [e, List.length_append, List.length_append, len_data, len_data, len_data]; omega
theorem nodeT_len (inn : List UInt8) (o : OneM) (pl : Bool) : (nodeT inn o pl).length ≤ costO o + inn.length := by
  unfold nodeT elemT costO
  have h1 := tagL_len o.name o.attrs
  have h2 := esc_len false _ o.data.data.toList (Nat.le_refl _)
  rw [len_data] at h2
  have h3 := cat3_len endB o.name gtB
  have h4 := cat3_len comO o.data comS
  have h5 := cat3_len docO o.name gtB
  have k1 : endB.size = 2 := rfl
  have k2 : gtB.size = 1 := rfl
  have k3 : comO.size = 4 := rfl
  have k4 : comS.size = 3 := rfl
  have k5 : docO.size = 10 := rfl
  have h6 := len_data o.data
  split
  · rw [List.length_append]
    split
    · simp; omega
    · rw [List.length_append]; omega
  · split
    · split <;> omega
    · split
      · omega
      · split
        · omega
        · simp
theorem flat_sum {f : Nat → List UInt8} {g : Nat → Nat} (h : ∀ k, (f k).length ≤ g k) (l : List Nat) : (l.flatMap f).length ≤ (l.map g).sum := by
  induction l with
  | nil => simp
  | cons k l ih => simp only [List.flatMap_cons, List.length_append, List.map_cons, List.sum_cons]; have := h k; omega
theorem inL_len (os : List OneM) (sc : Bool) : ∀ (n i : Nat), (inL os sc n i).length ≤ costN os n i := by
  intro n
  induction n with
  | zero => intro i; simp [inL]
  | succ n ih =>
    intro i
    cases ho : os[i]? with
    | none => rw [inL, ho]; simp
    | some o =>
      rw [inL_at ho, costN_at ho]
      split
      · simp
      · refine flat_sum (fun k => ?_) _
        unfold kidT kidN
        cases hc : os[k]? with
        | none => simp
        | some c =>
          have h1 := nodeT_len (inL os sc n k) c (plainO o sc)
          have h2 := ih k
          show (nodeT (inL os sc n k) c (plainO o sc)).length ≤ costO c + costN os n k
          omega
theorem kidT_len (os : List OneM) (sc : Bool) (n : Nat) (pl : Bool) (k : Nat) : (kidT os sc n pl k).length ≤ kidN os n k := by
  unfold kidT kidN
  cases hc : os[k]? with
  | none => simp
  | some c =>
    have h1 := nodeT_len (inL os sc n k) c pl
    have h2 := inL_len os sc n k
    show (nodeT (inL os sc n k) c pl).length ≤ costO c + costN os n k
    omega
end Go.Proofs.YtmnmaenmoaehlaaGreatDoor

namespace Go.Proofs.YtmnmaenmoaehlaaGreatDoor
open Go.RowKit Go.Lib

def nodeB (n : NodeM) (a : Option Addr) (cap : Nat) : Obj := .cells #[.int .i64 n.kind, .int .i64 n.space, .string n.name, .slice a n.attrs.length cap, .string n.data, .string n.system, .int .i64 n.parent, .int .i64 n.first, .int .i64 n.last, .int .i64 n.prev, .int .i64 n.next, .int .i64 n.inner] 51
theorem isHTML_any (n : NodeM) (a : Option Addr) (cap : Nat) (w : World) : Calls Tryz.prog 69 #[.agg #[.int .i64 n.kind, .int .i64 n.space, .string n.name, .slice a n.attrs.length cap, .string n.data, .string n.system, .int .i64 n.parent, .int .i64 n.first, .int .i64 n.last, .int .i64 n.prev, .int .i64 n.next, .int .i64 n.inner]] w fun e w' => e = .returned (.bool (htmlM n.kind n.space)) ∧ Below w.heap.size w w' := by
  have HB := hidE (below_new w (nodeB n a cap))
  unfold nodeB at HB
  unfold htmlM
  cases h1 : (n.kind == 1) with
  | true =>
    go_enter Tryz.func69, Tryz.ntmps69
    go_wp2
    go_ret
    exact ⟨rfl, unhidE HB⟩
  | false =>
    go_enter Tryz.func69, Tryz.ntmps69
    go_wp2
    go_ret
    exact ⟨rfl, unhidE HB⟩

set_option maxHeartbeats 1000000 in
theorem isVoid_any (n : NodeM) (a : Option Addr) (cap : Nat) (w : World) : Calls Tryz.prog 68 #[.agg #[.int .i64 n.kind, .int .i64 n.space, .string n.name, .slice a n.attrs.length cap, .string n.data, .string n.system, .int .i64 n.parent, .int .i64 n.first, .int .i64 n.last, .int .i64 n.prev, .int .i64 n.next, .int .i64 n.inner]] w fun e w' => e = .returned (.bool (htmlM n.kind n.space && hasN voids n.name)) ∧ Below w.heap.size w w' := by
  have HB := hidE (below_new w (nodeB n a cap))
  have HH := hidE (fun W => isHTML_any n a cap W)
  have HV := hidE (fun W => void_any n.name W)
  have HK : Hid (∀ W, Below (w.alloc (nodeB n a cap)).heap.size (w.alloc (nodeB n a cap)) W → W.cell? ⟨w.heap.size, 2, none⟩ = some (.string n.name)) := hidE (fun W hb => cell_row _ _ 2 _ _ _ ((hb.block _ (by simp)).trans (heap_alloc_new w _)))
  unfold nodeB at HB HK
  generalize hasN voids n.name = r at HV
  cases h1 : htmlM n.kind n.space with
  | true =>
    rw [h1] at HH
    clear h1
    go_enter Tryz.func68, Tryz.ntmps68
    go_wp2_with (first
      | (go_at_call 69; refine (unhidE HH _).mono ?_; rintro e w1 ⟨rfl, hb1⟩; have c2 := (unhidE HK) _ hb1; have HB1 := hidE ((unhidE HB).trans (hb1.mono (unhidE HB).size)); clear hb1)
      | (go_at_call 90; refine (unhidE HV _).mono ?_; rintro e w2 ⟨rfl, hb2⟩; have HB2 := hidE ((unhidE HB1).trans (hb2.mono (unhidE HB1).size)); clear hb2))
    go_ret
    exact ⟨rfl, unhidE HB2⟩
  | false =>
    rw [h1] at HH
    clear h1
    go_enter Tryz.func68, Tryz.ntmps68
    go_wp2_with (first
      | (go_at_call 69; refine (unhidE HH _).mono ?_; rintro e w1 ⟨rfl, hb1⟩; have HB1 := hidE ((unhidE HB).trans (hb1.mono (unhidE HB).size)); clear hb1))
    go_ret
    exact ⟨rfl, unhidE HB1⟩

/-- An arena that stays as it is while it is written: what it answers of its nodes, in every world that grew out of W0. -/
def NodeC (W0 : World) (bA : Nat) (ns : List NodeM) : Prop :=
  ∀ W, Below W0.heap.size W0 W → ∀ (c : Nat) n, ns[c]? = some n → Calls Tryz.prog 20 #[.pointer (some ⟨bA, 0, none⟩), .int .i64 c] W fun e W' => ∃ ao cp, e = .returned (.tuple #[.agg #[.int .i64 n.kind, .int .i64 n.space, .string n.name, .slice ao n.attrs.length cp, .string n.data, .string n.system, .int .i64 n.parent, .int .i64 n.first, .int .i64 n.last, .int .i64 n.prev, .int .i64 n.next, .int .i64 n.inner], .int .i64 0]) ∧ AtR W' ao n.attrs ∧ Below W.heap.size W W'
theorem NodeC.of {W0 : World} {base bA : Nat} {ns : List NodeM} {F : Nat → Prop} (h : ArS W0 base bA ns F) : NodeC W0 bA ns := by
  intro W hb c n hn
  have hW : ArS W base bA ns F := h.mod (Mod.of_below hb) (fun _ _ e => e)
  refine (node_in hW c n hn).mono ?_
  rintro e W' ⟨ao, cp, rfl, hown, hb', _⟩
  refine ⟨ao, cp, rfl, fun hne => ?_, hb'⟩
  rcases hown.2 with ⟨_, h0⟩ | ⟨g, cap, cur, hv, _, hg, hnc, _, hcs, htk⟩
  · exact absurd (List.eq_nil_of_length_eq_zero h0) hne
  · injection hv with hv1 hv2 hv3
    refine ⟨g, cur, (0, 0), hv1, hg, fun j v hj => ?_⟩
    rw [← htk] at hj
    have hj2 := (List.getElem?_eq_some_iff.1 hj).1
    rw [List.length_take] at hj2
    rw [List.getElem?_take_of_lt (by omega)] at hj
    simpa using hj
end Go.Proofs.YtmnmaenmoaehlaaGreatDoor
