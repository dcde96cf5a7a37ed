/-
  Package write's tables of names, Void and Plain, the program's and the document's; that the program answers at all.
-/
import Derived.Test.YtfcagiacjpcpeaaEa
import Derived.WalkKit
import Derived.WalkSpells
import Derived.WalkLawsBesides
import Derived.WalkMore
import Derived.Laws.RangeAny
import Derived.Deep.LoopGhost
import Derived.Deep.QuietTactic
import Derived.BigQuiet
import Derived.Lib.OthersKept
namespace Go.Proofs.Ytfcagiacjpcpeaa
open Go.RowKit Go.Lib

theorem hidE {p : Prop} (h : p) : Hid p := h
theorem unhidE {p : Prop} (h : Hid p) : p := h
theorem cell_row (w : World) (b k : Nat) (c : Array Value) (e : TypeId) (fz : Nat × Nat) (h : w.heap[b]? = some (.cells c e fz)) : w.cell? ⟨b, k, none⟩ = c[k]? := by
  unfold World.cell?
  simp [h]
theorem toList_data (s : ByteArray) : s.toList = s.data.toList := by rw [ByteArray.toList_eq]

/-- A table in a block of its own. -/
structure TabAt (w : World) (b : Nat) (l : List ByteArray) : Prop where
  cells : ∀ (j : Nat) s, l[j]? = some s → w.cell? ⟨b, j, none⟩ = some (.string s)
  lt : b < w.heap.size
def hasN (l : List ByteArray) (n : ByteArray) : Bool := l.any fun x => n.toList == x.toList

set_option maxHeartbeats 1000000 in
theorem sindex_any (l : List ByteArray) (hl : l.length ≤ 1000) (n : ByteArray) (b : Nat) (w : World) (ht : TabAt w b l) :
    Calls Try.prog 60 #[.slice (some ⟨b, 0, none⟩) l.length l.length, .string n] w fun e w' => (∃ r : Int, e = .returned (.int .i64 r) ∧ decide (0 ≤ r) = hasN l n) ∧ w' = w := by
  unfold hasN
  have HT := hidE ht
  have hlz : (l.length : Int) ≤ 1000 := by omega
  clear ht hl
  go_enter Try.func60, Try.ntmps60
  go_wp2
  go_loopg [5, 8] l.length (fun g _ s8 wr => ∃ j : Nat, j + g = l.length ∧ s8 = .int .i64 j ∧ wr = w ∧ (∀ i s, i < j → l[i]? = some s → (n.toList == s.toList) = false))
  case atStart => exact ⟨0, by omega, rfl, rfl, fun i s hi => absurd hi (Nat.not_lt_zero _)⟩
  case round =>
    obtain ⟨j, hjg, rfl, rfl, hno⟩ := hrel
    have HN := hidE hno
    clear hno
    by_cases hj : j < l.length
    · have hjz : (j : Int) < (l.length : Int) := by omega
      obtain ⟨y, hy⟩ : ∃ y, l[j]? = some y := ⟨_, List.getElem?_eq_getElem hj⟩
      have hcell := (unhidE HT).cells j y hy
      have HY := hidE hy
      clear hy
      cases hq : (n.toList == y.toList) with
      | true =>
        have HQ := hidE hq
        go_wp2
        go_ret
        refine ⟨⟨_, rfl, ?_⟩, rfl⟩
        rw [List.any_eq_true.2 ⟨y, List.mem_of_getElem? (unhidE HY), unhidE HQ⟩]
        exact decide_eq_true (by omega)
      | false =>
        have HQ := hidE hq
        go_wp2
        go_roundg (gk - 1)
        case measure => omega
        case rel =>
          refine ⟨j + 1, by omega, by go_num, rfl, fun i s hi hs => ?_⟩
          by_cases e : i = j
          · subst e; rw [unhidE HY] at hs; cases hs; exact unhidE HQ
          · exact (unhidE HN) i s (by omega) hs
    · have hjz : ¬ (j : Int) < (l.length : Int) := by omega
      obtain rfl : j = l.length := by omega
      go_wp2
      go_ret
      refine ⟨⟨_, rfl, ?_⟩, rfl⟩
      have : (l.any fun x => n.toList == x.toList) = false := by
        rw [List.any_eq_false]
        intro s hs
        obtain ⟨i, hi⟩ := List.getElem?_of_mem hs
        rw [(unhidE HN) i s (List.getElem?_eq_some_iff.1 hi).1 hi]
        exact Bool.false_ne_true
      rw [this]
      rfl

theorem contains_any (l : List ByteArray) (hl : l.length ≤ 1000) (n : ByteArray) (b : Nat) (w : World) (ht : TabAt w b l) :
    Calls Try.prog 39 #[.slice (some ⟨b, 0, none⟩) l.length l.length, .string n] w fun e w' => e = .returned (.bool (hasN l n)) ∧ w' = w := by
  have HI := hidE (sindex_any l hl n b w ht)
  clear hl ht
  generalize hasN l n = r at HI
  go_enter Try.func39, Try.ntmps39
  go_wp2_with (go_at_call 60; refine (unhidE HI).mono ?_; rintro e w' ⟨⟨i, rfl, hi⟩, rfl⟩)
  go_ret
  exact ⟨by rw [← hi]; rfl, rfl⟩

def voids : List ByteArray := [⟨#[97, 114, 101, 97]⟩, ⟨#[98, 97, 115, 101]⟩, ⟨#[98, 97, 115, 101, 102, 111, 110, 116]⟩, ⟨#[98, 103, 115, 111, 117, 110, 100]⟩, ⟨#[98, 114]⟩, ⟨#[99, 111, 108]⟩, ⟨#[101, 109, 98, 101, 100]⟩, ⟨#[102, 114, 97, 109, 101]⟩, ⟨#[104, 114]⟩, ⟨#[105, 109, 103]⟩, ⟨#[105, 110, 112, 117, 116]⟩, ⟨#[107, 101, 121, 103, 101, 110]⟩, ⟨#[108, 105, 110, 107]⟩, ⟨#[109, 101, 116, 97]⟩, ⟨#[112, 97, 114, 97, 109]⟩, ⟨#[115, 111, 117, 114, 99, 101]⟩, ⟨#[116, 114, 97, 99, 107]⟩, ⟨#[119, 98, 114]⟩]
def plains : List ByteArray := [⟨#[115, 116, 121, 108, 101]⟩, ⟨#[115, 99, 114, 105, 112, 116]⟩, ⟨#[120, 109, 112]⟩, ⟨#[105, 102, 114, 97, 109, 101]⟩, ⟨#[110, 111, 101, 109, 98, 101, 100]⟩, ⟨#[110, 111, 102, 114, 97, 109, 101, 115]⟩, ⟨#[112, 108, 97, 105, 110, 116, 101, 120, 116]⟩]
def noscript : ByteArray := ⟨#[110, 111, 115, 99, 114, 105, 112, 116]⟩

def sRow (l : List ByteArray) : Array Value := (l.map Value.string).toArray
theorem tab_new (w : World) (l : List ByteArray) (t : TypeId) : TabAt (w.alloc (.cells (sRow l) t)) w.heap.size l := by
  refine ⟨fun j s hs => ?_, by simp⟩
  rw [cell_row _ w.heap.size j _ _ _ (heap_alloc_new w _)]
  simp [sRow, hs]
theorem below_new (w : World) (o : Obj) : Below w.heap.size w (w.alloc o) := (Below.refl _ w).alloc (Nat.le_refl _) _

set_option maxHeartbeats 1000000 in
set_option maxRecDepth 100000 in
theorem void_any (n : ByteArray) (w : World) : Calls Try.prog 13 #[.string n] w fun e w' => e = .returned (.bool (hasN voids n)) ∧ Below w.heap.size w w' := by
  have HC : Hid (Calls Try.prog 39 #[.slice (some ⟨w.heap.size, 0, none⟩) 18 18, .string n] (w.alloc (.cells (sRow voids) 71)) fun e w' => e = .returned (.bool (hasN voids n)) ∧ w' = (w.alloc (.cells (sRow voids) 71))) := hidE (contains_any voids (by decide) n w.heap.size _ (tab_new w voids _))
  have HB := hidE (below_new w (.cells (sRow voids) 71))
  generalize hasN voids n = r at HC
  go_enter Try.func13, Try.ntmps13
  go_wp2_with (go_at_call 39; refine (unhidE HC).mono ?_; rintro e w' ⟨rfl, rfl⟩)
  go_ret
  exact ⟨rfl, unhidE HB⟩

def plainM (n : ByteArray) (sc : Bool) : Bool := hasN plains n || (sc && (n.toList == noscript.toList))
set_option maxHeartbeats 1000000 in
set_option maxRecDepth 100000 in
theorem plain_any (n : ByteArray) (sc : Bool) (w : World) : Calls Try.prog 15 #[.string n, .bool sc] w fun e w' => e = .returned (.bool (plainM n sc)) ∧ Below w.heap.size w w' := by
  have HC : Hid (Calls Try.prog 39 #[.slice (some ⟨w.heap.size, 0, none⟩) 7 7, .string n] (w.alloc (.cells (sRow plains) 73)) fun e w' => e = .returned (.bool (hasN plains n)) ∧ w' = (w.alloc (.cells (sRow plains) 73))) := hidE (contains_any plains (by decide) n w.heap.size _ (tab_new w plains _))
  have HB := hidE (below_new w (.cells (sRow plains) 73))
  have hns : noscript.toList = [110, 111, 115, 99, 114, 105, 112, 116] := by decide +kernel
  unfold plainM
  rw [hns]
  clear hns
  generalize hasN plains n = r at HC
  cases r with
  | true =>
    go_enter Try.func15, Try.ntmps15
    go_wp2_with (go_at_call 39; refine (unhidE HC).mono ?_; rintro e w' ⟨rfl, rfl⟩)
    all_goals go_ret
    exact ⟨rfl, unhidE HB⟩
  | false =>
    cases sc with
    | false =>
      go_enter Try.func15, Try.ntmps15
      go_wp2_with (go_at_call 39; refine (unhidE HC).mono ?_; rintro e w' ⟨rfl, rfl⟩)
      all_goals go_ret
      exact ⟨rfl, unhidE HB⟩
    | true =>
      go_enter Try.func15, Try.ntmps15
      go_wp2_with (go_at_call 39; refine (unhidE HC).mono ?_; rintro e w' ⟨rfl, rfl⟩)
      all_goals go_ret
      exact ⟨rfl, unhidE HB⟩

theorem L_has (l : List ByteArray) (n : ByteArray) : hasN l n = (l.map (·.data.toList)).any fun x => n.toList == x := by
  unfold hasN
  rw [List.any_map]
  congr 1
  funext x
  simp [toList_data]
theorem voids_L : voids.map (·.data.toList) = [[97, 114, 101, 97], [98, 97, 115, 101], [98, 97, 115, 101, 102, 111, 110, 116], [98, 103, 115, 111, 117, 110, 100], [98, 114], [99, 111, 108], [101, 109, 98, 101, 100], [102, 114, 97, 109, 101], [104, 114], [105, 109, 103], [105, 110, 112, 117, 116], [107, 101, 121, 103, 101, 110], [108, 105, 110, 107], [109, 101, 116, 97], [112, 97, 114, 97, 109], [115, 111, 117, 114, 99, 101], [116, 114, 97, 99, 107], [119, 98, 114]] := rfl
theorem plains_L : plains.map (·.data.toList) = [[115, 116, 121, 108, 101], [115, 99, 114, 105, 112, 116], [120, 109, 112], [105, 102, 114, 97, 109, 101], [110, 111, 101, 109, 98, 101, 100], [110, 111, 102, 114, 97, 109, 101, 115], [112, 108, 97, 105, 110, 116, 101, 120, 116]] := rfl

set_option maxHeartbeats 4000000 in
set_option maxRecDepth 100000 in
theorem rvoid_any (n : ByteArray) (w : World) : Calls Try.prog 14 #[.string n] w fun e w' => e = .returned (.bool (hasN voids n)) ∧ w' = w := by
  have HT : Hid (hasN voids n = ([[97, 114, 101, 97], [98, 97, 115, 101], [98, 97, 115, 101, 102, 111, 110, 116], [98, 103, 115, 111, 117, 110, 100], [98, 114], [99, 111, 108], [101, 109, 98, 101, 100], [102, 114, 97, 109, 101], [104, 114], [105, 109, 103], [105, 110, 112, 117, 116], [107, 101, 121, 103, 101, 110], [108, 105, 110, 107], [109, 101, 116, 97], [112, 97, 114, 97, 109], [115, 111, 117, 114, 99, 101], [116, 114, 97, 99, 107], [119, 98, 114]] : List (List UInt8)).any fun x => n.toList == x) := hidE (by rw [L_has, voids_L])
  go_enter Try.func14, Try.ntmps14
  go_wp2
  all_goals go_ret
  all_goals (refine ⟨?_, rfl⟩; rw [unhidE HT]; first | (simp [*]; done) | (simp_all; done))

set_option maxHeartbeats 4000000 in
set_option maxRecDepth 100000 in
theorem rplain_any (n : ByteArray) (sc : Bool) (w : World) : Calls Try.prog 16 #[.string n, .bool sc] w fun e w' => e = .returned (.bool (plainM n sc)) ∧ w' = w := by
  have hns : noscript.toList = [110, 111, 115, 99, 114, 105, 112, 116] := by decide +kernel
  have HT : Hid (plainM n sc = ((([[115, 116, 121, 108, 101], [115, 99, 114, 105, 112, 116], [120, 109, 112], [105, 102, 114, 97, 109, 101], [110, 111, 101, 109, 98, 101, 100], [110, 111, 102, 114, 97, 109, 101, 115], [112, 108, 97, 105, 110, 116, 101, 120, 116]] : List (List UInt8)).any fun x => n.toList == x) || (sc && (n.toList == [110, 111, 115, 99, 114, 105, 112, 116])))) := hidE (by unfold plainM; rw [L_has, plains_L, hns])
  clear hns
  cases sc
  all_goals go_enter Try.func16, Try.ntmps16
  all_goals go_wp2
  all_goals go_ret
  all_goals (refine ⟨?_, rfl⟩; rw [unhidE HT]; first | (simp [*]; done) | (simp_all; done))

theorem has_br : hasN voids ⟨#[98, 114]⟩ = true := by decide +kernel
theorem has_p : hasN voids ⟨#[112]⟩ = false := by decide +kernel
set_option maxHeartbeats 1000000 in
theorem awake_any (w : World) : Calls Try.prog 12 #[] w fun e w' => e = .returned (.bool true) ∧ Below w.heap.size w w' := by
  have H1 : Hid (∀ W, Calls Try.prog 13 #[.string ⟨#[98, 114]⟩] W fun e w' => e = .returned (.bool true) ∧ Below W.heap.size W w') := hidE (fun W => by have := void_any ⟨#[98, 114]⟩ W; rw [has_br] at this; exact this)
  have H2 : Hid (∀ W, Calls Try.prog 13 #[.string ⟨#[112]⟩] W fun e w' => e = .returned (.bool false) ∧ Below W.heap.size W w') := hidE (fun W => by have := void_any ⟨#[112]⟩ W; rw [has_p] at this; exact this)
  go_enter Try.func12, Try.ntmps12
  go_wp2_with (first
    | (go_at_call 13; have _x := unhidE HB1; refine (unhidE H2 _).mono ?_; rintro e w2 ⟨rfl, hb2⟩; have HB2 := hidE ((unhidE HB1).trans (hb2.mono (unhidE HB1).size)); clear hb2)
    | (go_at_call 13; refine (unhidE H1 _).mono ?_; rintro e w1 ⟨rfl, hb1⟩; have HB1 := hidE hb1; clear hb1))
  go_ret
  exact ⟨rfl, unhidE HB2⟩

set_option maxHeartbeats 2000000 in
theorem kinds_walk (n : ByteArray) (sc : Bool) (w : World) : Calls Try.prog 4 #[.string n, .bool sc] w fun e w' => e = .returned (.bool true) ∧ Below w.heap.size w w' := by
  have H1 := hidE (fun W => void_any n W)
  have H2 := hidE (fun W => rvoid_any n W)
  have H3 := hidE (fun W => plain_any n sc W)
  have H4 := hidE (fun W => rplain_any n sc W)
  generalize hasN voids n = r1 at H1 H2
  generalize plainM n sc = r2 at H3 H4
  go_enter Try.func4, Try.ntmps4
  go_wp2_with (first
    | (go_at_call 13; refine (unhidE H1 _).mono ?_; rintro e w1 ⟨rfl, hb1⟩; have HB1 := hidE hb1; clear hb1)
    | (go_at_call 14; refine (unhidE H2 _).mono ?_; rintro e w2 ⟨rfl, rfl⟩)
    | (go_at_call 15; refine (unhidE H3 _).mono ?_; rintro e w3 ⟨rfl, hb3⟩; have HB3 := hidE ((unhidE HB1).trans (hb3.mono (unhidE HB1).size)); clear hb3)
    | (go_at_call 16; refine (unhidE H4 _).mono ?_; rintro e w4 ⟨rfl, rfl⟩)
    | (go_at_call 12; refine (awake_any _).mono ?_; rintro e w5 ⟨rfl, hb5⟩; have HB5 := hidE ((unhidE HB3).trans (hb5.mono (unhidE HB3).size)); clear hb5))
  go_ret
  exact ⟨rfl, unhidE HB5⟩
end Go.Proofs.Ytfcagiacjpcpeaa
