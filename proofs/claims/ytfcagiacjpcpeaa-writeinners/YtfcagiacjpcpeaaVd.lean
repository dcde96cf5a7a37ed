/-
  A start tag as text.
-/
import Derived.Test.YtfcagiacjpcpeaaVc
namespace Go.Proofs.Ytfcagiacjpcpeaa
open Go.RowKit Go.Lib

/-- Attributes in a block of their own. -/
def AtR (w : World) (a : Option Addr) (l : List AttrM) : Prop :=
  l ≠ [] → ∃ g cur fz, a = some ⟨g, 0, none⟩ ∧ w.heap[g]? = some (.cells cur 96 fz) ∧ ∀ (j : Nat) v, (attrRow l)[j]? = some v → cur[j]? = some v
theorem Wr.block {bA : Nat} {sc : Bool} {B bw : Nat} {l : List UInt8} {w : World} (h : Wr bA sc B bw l w) : ∃ c fz, w.heap[bw]? = some (.cells c 67 fz) := by
  rcases h with h | h
  · obtain ⟨v, hk, _⟩ := h.ex; exact ⟨_, _, hk⟩
  · obtain ⟨v, hk, _⟩ := h.ex; exact ⟨_, _, hk⟩
theorem AtR.nx {bA : Nat} {sc : Bool} {B bw : Nat} {t : List UInt8} {w w' : World} {a : Option Addr} {l : List AttrM} (h : AtR w a l) (hw : Wr bA sc B bw t w) (hn : Nx B bw w w') : AtR w' a l := by
  intro hl
  obtain ⟨g, cur, fz, e, hk, hc⟩ := h hl
  obtain ⟨c, fz', hb⟩ := hw.block
  refine ⟨g, cur, fz, e, hn.block hk (fun e => ?_) (by decide), hc⟩
  rw [e, hb] at hk
  injection hk with hk
  injection hk with _ hk _
  revert hk
  decide
theorem AtR.at {w : World} {a : Option Addr} {l : List AttrM} (h : AtR w a l) {j : Nat} {x : AttrM} (hx : l[j]? = some x) : ∃ g, a = some ⟨g, 0, none⟩ ∧ w.cell? ⟨g, j * 4, none⟩ = some (.int .i64 x.space) ∧ w.cell? ⟨g, j * 4 + 1, none⟩ = some (.string x.pre) ∧ w.cell? ⟨g, j * 4 + 2, none⟩ = some (.string x.name) ∧ w.cell? ⟨g, j * 4 + 3, none⟩ = some (.string x.val) := by
  obtain ⟨g, cur, fz, e, hk, hc⟩ := h (by rintro rfl; simp at hx)
  refine ⟨g, e, ?_, ?_, ?_, ?_⟩
  all_goals
    rw [cell_row _ g _ _ _ _ hk]
    refine hc _ _ ?_
  · have := flat_get AttrM.cells 4 (fun _ => rfl) l j 0 (by omega); rw [hx] at this; simpa [attrRow, AttrM.cells] using this
  · have := flat_get AttrM.cells 4 (fun _ => rfl) l j 1 (by omega); rw [hx] at this; simpa [attrRow, AttrM.cells] using this
  · have := flat_get AttrM.cells 4 (fun _ => rfl) l j 2 (by omega); rw [hx] at this; simpa [attrRow, AttrM.cells] using this
  · have := flat_get AttrM.cells 4 (fun _ => rfl) l j 3 (by omega); rw [hx] at this; simpa [attrRow, AttrM.cells] using this

def attrsL (l : List AttrM) : List UInt8 := l.flatMap attrL
def tagL (nm : ByteArray) (l : List AttrM) : List UInt8 := [60] ++ nm.data.toList ++ attrsL l ++ [62]
/-- How long a tag may become. -/
def attrsN (l : List AttrM) : Nat := l.foldr (fun x n => 6 * x.val.size + x.name.size + 100 + n) 0
theorem attrL_len (x : AttrM) : (attrL x).length ≤ 6 * x.val.size + x.name.size + 100 := by
  unfold attrL
  have h1 := attr_cat x
  have h2 := esc_len true _ x.val.data.toList (Nat.le_refl _)
  rw [len_data] at h2
  simp only [List.length_append, List.length_cons, List.length_nil]
  omega
theorem attrsL_len (l : List AttrM) : (attrsL l).length ≤ attrsN l := by
  induction l with
  | nil => simp [attrsL, attrsN]
  | cons x l ih =>
    have := attrL_len x
    unfold attrsL attrsN at *
    simp only [List.flatMap_cons, List.length_append, List.foldr_cons]
    omega
theorem attrsN_at (l : List AttrM) (j : Nat) (x : AttrM) (h : l[j]? = some x) : (attrsL (l.take j)).length + (6 * x.val.size + x.name.size + 100) ≤ attrsN l := by
  induction l generalizing j with
  | nil => simp at h
  | cons y l ih =>
    cases j with
    | zero =>
      have e : y = x := by simpa using h
      subst e
      simp [attrsL, attrsN]
    | succ j =>
      have h1 := ih j (by simpa using h)
      have h2 := attrL_len y
      unfold attrsL attrsN at *
      simp only [List.take_succ_cons, List.flatMap_cons, List.length_append, List.foldr_cons]
      omega

theorem attrsL_take (l : List AttrM) (j : Nat) (x : AttrM) (h : l[j]? = some x) : attrsL (l.take (j + 1)) = attrsL (l.take j) ++ attrL x := by
  unfold attrsL
  rw [List.take_add_one, h]
  simp

/-- A node as it is handed to a call: its twelve values. -/
def nodeA (k sp : Int) (nm : ByteArray) (av : Value) (da sy : ByteArray) (p f la pr nx inn : Int) : Array Value := #[.int .i64 k, .int .i64 sp, .string nm, av, .string da, .string sy, .int .i64 p, .int .i64 f, .int .i64 la, .int .i64 pr, .int .i64 nx, .int .i64 inn]

set_option maxHeartbeats 4000000 in
theorem startTag_any {bA : Nat} {sc : Bool} {B bw : Nat} {t : List UInt8} {w : World} (k sp : Int) (nm : ByteArray) (a : Option Addr) (cap : Nat) (l : List AttrM) (da sy : ByteArray) (p f la pr nx inn : Int) (h : Wr bA sc B bw t w) (ha : AtR w a l) (hl : l.length ≤ 100000) (hlen : t.length + nm.size + attrsN l + 100 ≤ 140737488355328) (hB : B ≤ w.heap.size) :
    Calls Try.prog 74 #[.pointer (some ⟨bw, 0, none⟩), .agg #[.int .i64 k, .int .i64 sp, .string nm, .slice a l.length cap, .string da, .string sy, .int .i64 p, .int .i64 f, .int .i64 la, .int .i64 pr, .int .i64 nx, .int .i64 inn]] w fun e w' => e = .returned (.tuple #[]) ∧ Wr bA sc B bw (t ++ tagL nm l) w' ∧ Nx B bw w w' := by
  have HW := hidE h
  have HLEN := hidE hlen
  have HA := hidE ha
  have hlz : (l.length : Int) ≤ 100000 := by omega
  clear h hlen ha
  go_enter_defers Try.func74, Try.ntmps74
  have hltw := (unhidE HW).lt
  have hn0 : Nx B bw w (w.alloc (.cells #[.int .i64 k, .int .i64 sp, .string nm, .slice a l.length cap, .string da, .string sy, .int .i64 p, .int .i64 f, .int .i64 la, .int .i64 pr, .int .i64 nx, .int .i64 inn] 60)) := (Nx.refl B bw w).alloc hB _
  have hn1 := hn0.alloc hB (.cells #[.string ⟨#[60]⟩, .string nm] 9)
  have hcat : (catL [⟨#[60]⟩, nm]).length = 1 + nm.size := by
    have e : catL [⟨#[60]⟩, nm] = [60] ++ nm.data.toList := by simp [catL]
    rw [e, List.length_append, len_data]; rfl
  have hp := put_any [⟨#[60]⟩, nm] (((unhidE HW).alloc (.cells #[.int .i64 k, .int .i64 sp, .string nm, .slice a l.length cap, .string da, .string sy, .int .i64 p, .int .i64 f, .int .i64 la, .int .i64 pr, .int .i64 nx, .int .i64 inn] 60)).alloc (.cells #[.string ⟨#[60]⟩, .string nm] 9)) (g := w.heap.size + 1) (by have := heap_alloc_new (w.alloc (.cells #[.int .i64 k, .int .i64 sp, .string nm, .slice a l.length cap, .string da, .string sy, .int .i64 p, .int .i64 f, .int .i64 la, .int .i64 pr, .int .i64 nx, .int .i64 inn] 60)) (.cells #[.string ⟨#[60]⟩, .string nm] 9); simpa [sRow] using this) (by omega) (by simp) (by rw [hcat]; have := unhidE HLEN; omega) (Nat.le_trans hB hn1.size)
  have HP := hidE hp
  have HN1 := hidE hn1
  have HK1 : Hid (((w.alloc (.cells #[.int .i64 k, .int .i64 sp, .string nm, .slice a l.length cap, .string da, .string sy, .int .i64 p, .int .i64 f, .int .i64 la, .int .i64 pr, .int .i64 nx, .int .i64 inn] 60)).alloc (.cells #[.string ⟨#[60]⟩, .string nm] 9)).heap[w.heap.size]? = some (.cells #[.int .i64 k, .int .i64 sp, .string nm, .slice a l.length cap, .string da, .string sy, .int .i64 p, .int .i64 f, .int .i64 la, .int .i64 pr, .int .i64 nx, .int .i64 inn] 60 (0, 0))) := hidE ((alloc_old _ _ _ (by simp)).trans (heap_alloc_new w _))
  clear hp hn0 hn1
  go_wp2_with (go_at_call 69; refine (unhidE HP).mono ?_; rintro e w3 ⟨rfl, hw3, hn3⟩; have hk3 := hn3.block (unhidE HK1) (by omega) (by decide); have HW3 := hidE hw3; have HN3 := hidE ((unhidE HN1).trans hn3); have HK3 := hidE hk3; have c3 := cell_row _ _ 3 _ _ _ hk3; have hl3 := lt_of_block hk3; have c3' := fun o => cell_row _ _ 3 _ _ _ ((alloc_old w3 o _ hl3).trans hk3); clear hw3 hn3 hk3)
  have hn4 := (unhidE HN3).alloc hB (.cells #[.string ⟨#[62]⟩] 9)
  have hw4 := (unhidE HW3).alloc (.cells #[.string ⟨#[62]⟩] 9)
  have ha4 := (unhidE HA).nx (unhidE HW) hn4
  have hG4 : (w3.alloc (.cells #[.string ⟨#[62]⟩] 9)).heap[w3.heap.size]? = some (.cells #[.string ⟨#[62]⟩] 9 (0, 0)) := heap_alloc_new w3 _
  have hw3l := (unhidE HW3).lt
  generalize w3.alloc (.cells #[.string ⟨#[62]⟩] 9) = w4 at hn4 hw4 ha4 hG4
  have HN4 := hidE hn4
  have HW4 := hidE hw4
  have HA4 := hidE ha4
  have HG4 := hidE hG4
  have hB4 := Nat.le_trans hB hn4.size
  clear hn4 hw4 ha4 hG4 c3 c3'
  go_loopg [5, 16] l.length (fun g _ s16 wx => ∃ j : Nat, s16 = .int .i64 j ∧ j + g = l.length ∧ Wr bA sc B bw (t ++ catL [⟨#[60]⟩, nm] ++ attrsL (l.take j)) wx ∧ Nx B bw w4 wx)
  case atStart => exact ⟨0, rfl, by omega, by simpa [attrsL] using unhidE HW4, Nx.refl _ _ _⟩
  case round =>
    obtain ⟨j, rfl, hjg, hw, hn⟩ := hrel
    by_cases hj : j < l.length
    · have hjz : (j : Int) < (l.length : Int) := by omega
      obtain ⟨x, hx⟩ : ∃ x, l[j]? = some x := ⟨_, List.getElem?_eq_getElem hj⟩
      obtain ⟨g, rfl, c0, c1, c2, c3⟩ := ((unhidE HA4).nx (unhidE HW4) hn).at hx
      have htk := attrsL_take l j x hx
      have hat := attrsN_at l j x hx
      have HT := hidE (attribute_any x (hw.alloc (.cells #[.int .i64 x.space, .string x.pre, .string x.name, .string x.val] 96)) (by rw [List.length_append, List.length_append, hcat]; have := unhidE HLEN; omega) (Nat.le_trans hB4 (hn.alloc hB4 _).size))
      have HN := hidE (hn.alloc hB4 (.cells #[.int .i64 x.space, .string x.pre, .string x.name, .string x.val] 96))
      have HTK := hidE htk
      clear hw hn hx htk hat
      go_wp2_with (go_at_call 77; refine (unhidE HT).mono ?_; rintro e w5 ⟨rfl, hw5, hn5⟩; have HW5 := hidE hw5; have HN5 := hidE ((unhidE HN).trans hn5); clear hw5 hn5)
      go_roundg (gk - 1)
      case measure => omega
      case rel => exact ⟨j + 1, by go_num, by omega, by rw [unhidE HTK, ← List.append_assoc]; exact unhidE HW5, unhidE HN5⟩
    · have hjz : ¬ (j : Int) < (l.length : Int) := by omega
      obtain rfl : j = l.length := by omega
      rw [List.take_length] at hw
      have hal := attrsL_len l
      have HW5 := hidE hw
      have HN5 := hidE hn
      clear hw hn
      go_wp2
      refine leaves_cons (f := 69) (args := #[.pointer (some ⟨bw, 0, none⟩), .slice (some ⟨w3.heap.size, 0, none⟩) 1 1]) (by simp) (by simp [go_sem]) ?_
      have hn6 : Nx B bw w wr := (unhidE HN4).trans (unhidE HN5)
      refine (put_deferred [⟨#[62]⟩] (unhidE HW5) ((unhidE HN5).block (unhidE HG4) (by omega) (by decide)) (by omega) (by simp) (by
        have h1 : (catL [⟨#[62]⟩]).length = 1 := rfl
        rw [h1, List.length_append, List.length_append, hcat]; have := unhidE HLEN; omega) (Nat.le_trans hB hn6.size) .returning).mono ?_
      rintro e u' w2 ⟨rfl, rfl, hw7, hn7⟩
      refine ⟨_, results_none rfl _ _ _, rfl, ?_, hn6.trans hn7⟩
      have e1 : t ++ tagL nm l = t ++ catL [⟨#[60]⟩, nm] ++ attrsL l ++ catL [⟨#[62]⟩] := by
        unfold tagL
        have h1 : catL [⟨#[62]⟩] = [62] := rfl
        have h2 : catL [⟨#[60]⟩, nm] = [60] ++ nm.data.toList := by simp [catL]
        rw [h1, h2]
        simp only [List.append_assoc]
      rw [e1]
      exact hw7
end Go.Proofs.Ytfcagiacjpcpeaa
