/-
  What an element of a stack is called. 
-/
import Derived.Test.YtkakncngkmoegaaGreatSZab
import Derived.Deep.LoopGhost
import Derived.Deep.RegionWith
namespace Go.Proofs.YtkakncngkmoegaaGreat
open Go.RowKit

structure Cal where
  space : Int
  name : ByteArray
def Cal.agg (c : Cal) : Value := .agg #[.int .i64 c.space, .string c.name]
def cal0 : Cal := ⟨0, ⟨#[]⟩⟩
end Go.Proofs.YtkakncngkmoegaaGreat

namespace Go.Proofs.YtkakncngkmoegaaGreat
open Go.RowKit

theorem cell_row (w : World) (b k : Nat) (c : Array Value) (e : TypeId) (fz : Nat × Nat) (h : w.heap[b]? = some (.cells c e fz)) : w.cell? ⟨b, k, none⟩ = c[k]? := by
  unfold World.cell?
  simp [h]
theorem below_new (w : World) (o : Obj) : Below w.heap.size w (w.alloc o) := (Below.refl _ w).alloc (Nat.le_refl _) _
/-- A table in a block of its own. -/
structure TabAt (w : World) (b : Nat) (l : List ByteArray) : Prop where
  cells : ∀ (j : Nat) s, l[j]? = some s → w.cell? ⟨b, j, none⟩ = some (.string s)
  lt : b < w.heap.size
def sRow (l : List ByteArray) : Array Value := (l.map Value.string).toArray
theorem tab_block {w : World} {b : Nat} {l : List ByteArray} {t : TypeId} {fz : Nat × Nat} (h : w.heap[b]? = some (.cells (sRow l) t fz)) : TabAt w b l := by
  refine ⟨fun j s hs => ?_, lt_of_block h⟩
  rw [cell_row _ b j _ _ _ h]
  simp [sRow, hs]
theorem tab_new (w : World) (l : List ByteArray) (t : TypeId) : TabAt (w.alloc (.cells (sRow l) t)) w.heap.size l := tab_block (heap_alloc_new w _)
theorem TabAt.below {w w' : World} {b : Nat} {l : List ByteArray} (h : TabAt w b l) (hb : Below w.heap.size w w') : TabAt w' b l :=
  ⟨fun j s hs => (hb.cell (p := ⟨b, j, none⟩) h.lt).trans (h.cells j s hs), Nat.lt_of_lt_of_le h.lt hb.size⟩

def hasT (l : List ByteArray) (n : ByteArray) : Bool := l.any fun x => n.toList == x.toList

set_option maxHeartbeats 1000000 in
theorem sindex_any (l : List ByteArray) (hl : l.length ≤ 1000) (n : ByteArray) (b : Nat) (w : World) (ht : TabAt w b l) :
    Calls Tryz.prog 229 #[.slice (some ⟨b, 0, none⟩) l.length l.length, .string n] w fun e w' => (∃ r : Int, e = .returned (.int .i64 r) ∧ decide (0 ≤ r) = hasT l n) ∧ w' = w := by
  unfold hasT
  have HT := hide ht
  have hlz : (l.length : Int) ≤ 1000 := by omega
  clear ht hl
  go_enter Tryz.func229, Tryz.ntmps229
  go_wp2
  go_loopg [5, 8] l.length (fun g _ s8 wr => ∃ j : Nat, j + g = l.length ∧ s8 = .int .i64 j ∧ wr = w ∧ (∀ i s, i < j → l[i]? = some s → (n.toList == s.toList) = false))
  case atStart => exact ⟨0, by omega, rfl, rfl, fun i s hi => absurd hi (Nat.not_lt_zero _)⟩
  case round =>
    obtain ⟨j, hjg, rfl, rfl, hno⟩ := hrel
    have HN := hide hno
    clear hno
    by_cases hj : j < l.length
    · have hjz : (j : Int) < (l.length : Int) := by omega
      obtain ⟨y, hy⟩ : ∃ y, l[j]? = some y := ⟨_, List.getElem?_eq_getElem hj⟩
      have hcell := (unhide HT).cells j y hy
      have HY := hide hy
      clear hy
      cases hq : (n.toList == y.toList) with
      | true =>
        have HQ := hide hq
        go_wp2
        go_ret
        refine ⟨⟨_, rfl, ?_⟩, rfl⟩
        rw [List.any_eq_true.2 ⟨y, List.mem_of_getElem? (unhide HY), unhide HQ⟩]
        exact decide_eq_true (by omega)
      | false =>
        have HQ := hide hq
        go_wp2
        go_roundg (gk - 1)
        case measure => omega
        case rel =>
          refine ⟨j + 1, by omega, by go_num, rfl, fun i s hi hs => ?_⟩
          by_cases e : i = j
          · subst e; rw [unhide HY] at hs; cases hs; exact unhide HQ
          · exact (unhide HN) i s (by omega) hs
    · have hjz : ¬ (j : Int) < (l.length : Int) := by omega
      obtain rfl : j = l.length := by omega
      go_wp2
      go_ret
      refine ⟨⟨_, rfl, ?_⟩, rfl⟩
      have : (l.any fun x => n.toList == x.toList) = false := by
        rw [List.any_eq_false]
        intro s hs
        obtain ⟨i, hi⟩ := List.getElem?_of_mem hs
        rw [(unhide HN) i s (List.getElem?_eq_some_iff.1 hi).1 hi]
        exact Bool.false_ne_true
      rw [this]
      rfl

theorem contains_any (l : List ByteArray) (hl : l.length ≤ 1000) (n : ByteArray) (b : Nat) (w : World) (ht : TabAt w b l) :
    Calls Tryz.prog 216 #[.slice (some ⟨b, 0, none⟩) l.length l.length, .string n] w fun e w' => e = .returned (.bool (hasT l n)) ∧ w' = w := by
  have HI := hide (sindex_any l hl n b w ht)
  clear hl ht
  generalize hasT l n = r at HI
  go_enter Tryz.func216, Tryz.ntmps216
  go_wp2_with (go_at_call 229; refine (unhide HI).mono ?_; rintro e w' ⟨⟨i, rfl, hi⟩, rfl⟩)
  go_ret
  exact ⟨by rw [← hi]; rfl, rfl⟩


def amongM (c : Cal) (sp : Int) (l : List ByteArray) : Bool := c.space == sp && hasT l c.name

theorem isAmong_any (c : Cal) (sp : Int) (l : List ByteArray) (hl : l.length ≤ 1000) (b : Nat) (w : World) (ht : TabAt w b l) :
    Calls Tryz.prog 186 #[c.agg, .int .i64 sp, .slice (some ⟨b, 0, none⟩) l.length l.length] w fun e w' => e = .returned (.bool (amongM c sp l)) ∧ Below w.heap.size w w' := by
  obtain ⟨cs, cn⟩ := c
  have HC := hide (contains_any l hl cn b _ (ht.below (below_new w (.cells #[.int .i64 cs, .string cn] 185))))
  unfold amongM Cal.agg
  simp only
  generalize hasT l cn = r at *
  clear hl ht
  cases h1 : (cs == sp) with
  | true =>
    go_enter Tryz.func186, Tryz.ntmps186
    go_wp2_with (go_at_call 216; refine (unhide HC).mono ?_; rintro e w' ⟨rfl, rfl⟩)
    go_ret
    exact ⟨rfl, below_new _ _⟩
  | false =>
    go_enter Tryz.func186, Tryz.ntmps186
    go_wp2
    go_ret
    exact ⟨rfl, below_new _ _⟩

def namedM (c : Cal) (n : ByteArray) : Bool := amongM c 0 [n]
theorem isNamed_any (c : Cal) (n : ByteArray) (w : World) :
    Calls Tryz.prog 222 #[c.agg, .string n] w fun e w' => e = .returned (.bool (namedM c n)) ∧ Below w.heap.size w w' := by
  obtain ⟨cs, cn⟩ := c
  have hn : namedM ⟨cs, cn⟩ n = (cs == 0 && cn.toList == n.toList) := by simp [namedM, amongM, hasT]
  rw [hn]
  simp only [Cal.agg]
  cases h1 : (cs == 0) with
  | true =>
    clear hn
    rw [Bool.true_and]
    go_enter Tryz.func222, Tryz.ntmps222
    go_wp2
    go_ret
    exact ⟨rfl, below_new _ _⟩
  | false =>
    clear hn
    rw [Bool.false_and]
    go_enter Tryz.func222, Tryz.ntmps222
    go_wp2
    go_ret
    exact ⟨rfl, below_new _ _⟩
end Go.Proofs.YtkakncngkmoegaaGreat

namespace Go.Proofs.YtkakncngkmoegaaGreat
open Go.RowKit

def bordT : List ByteArray := [⟨#[97, 112, 112, 108, 101, 116]⟩, ⟨#[99, 97, 112, 116, 105, 111, 110]⟩, ⟨#[104, 116, 109, 108]⟩, ⟨#[116, 97, 98, 108, 101]⟩, ⟨#[116, 100]⟩, ⟨#[116, 104]⟩, ⟨#[109, 97, 114, 113, 117, 101, 101]⟩, ⟨#[111, 98, 106, 101, 99, 116]⟩, ⟨#[116, 101, 109, 112, 108, 97, 116, 101]⟩]
def mathT : List ByteArray := [⟨#[109, 105]⟩, ⟨#[109, 111]⟩, ⟨#[109, 110]⟩, ⟨#[109, 115]⟩, ⟨#[109, 116, 101, 120, 116]⟩, ⟨#[97, 110, 110, 111, 116, 97, 116, 105, 111, 110, 45, 120, 109, 108]⟩]
def svgT : List ByteArray := [⟨#[102, 111, 114, 101, 105, 103, 110, 79, 98, 106, 101, 99, 116]⟩, ⟨#[100, 101, 115, 99]⟩, ⟨#[116, 105, 116, 108, 101]⟩]
def tblT : List ByteArray := [⟨#[104, 116, 109, 108]⟩, ⟨#[116, 97, 98, 108, 101]⟩, ⟨#[116, 101, 109, 112, 108, 97, 116, 101]⟩]
def impT : List ByteArray := [⟨#[100, 100]⟩, ⟨#[100, 116]⟩, ⟨#[108, 105]⟩, ⟨#[111, 112, 116, 103, 114, 111, 117, 112]⟩, ⟨#[111, 112, 116, 105, 111, 110]⟩, ⟨#[112]⟩, ⟨#[114, 98]⟩, ⟨#[114, 112]⟩, ⟨#[114, 116]⟩, ⟨#[114, 116, 99]⟩]
def partT : List ByteArray := [⟨#[99, 97, 112, 116, 105, 111, 110]⟩, ⟨#[99, 111, 108, 103, 114, 111, 117, 112]⟩, ⟨#[116, 98, 111, 100, 121]⟩, ⟨#[116, 100]⟩, ⟨#[116, 102, 111, 111, 116]⟩, ⟨#[116, 104]⟩, ⟨#[116, 104, 101, 97, 100]⟩, ⟨#[116, 114]⟩]
def specT : List ByteArray := [⟨#[97, 100, 100, 114, 101, 115, 115]⟩, ⟨#[97, 112, 112, 108, 101, 116]⟩, ⟨#[97, 114, 101, 97]⟩, ⟨#[97, 114, 116, 105, 99, 108, 101]⟩, ⟨#[97, 115, 105, 100, 101]⟩, ⟨#[98, 97, 115, 101]⟩, ⟨#[98, 97, 115, 101, 102, 111, 110, 116]⟩, ⟨#[98, 103, 115, 111, 117, 110, 100]⟩, ⟨#[98, 108, 111, 99, 107, 113, 117, 111, 116, 101]⟩, ⟨#[98, 111, 100, 121]⟩, ⟨#[98, 114]⟩, ⟨#[98, 117, 116, 116, 111, 110]⟩, ⟨#[99, 97, 112, 116, 105, 111, 110]⟩, ⟨#[99, 101, 110, 116, 101, 114]⟩, ⟨#[99, 111, 108]⟩, ⟨#[99, 111, 108, 103, 114, 111, 117, 112]⟩, ⟨#[100, 100]⟩, ⟨#[100, 101, 116, 97, 105, 108, 115]⟩, ⟨#[100, 105, 114]⟩, ⟨#[100, 105, 118]⟩, ⟨#[100, 108]⟩, ⟨#[100, 116]⟩, ⟨#[101, 109, 98, 101, 100]⟩, ⟨#[102, 105, 101, 108, 100, 115, 101, 116]⟩, ⟨#[102, 105, 103, 99, 97, 112, 116, 105, 111, 110]⟩, ⟨#[102, 105, 103, 117, 114, 101]⟩, ⟨#[102, 111, 111, 116, 101, 114]⟩, ⟨#[102, 111, 114, 109]⟩, ⟨#[102, 114, 97, 109, 101]⟩, ⟨#[102, 114, 97, 109, 101, 115, 101, 116]⟩, ⟨#[104, 49]⟩, ⟨#[104, 50]⟩, ⟨#[104, 51]⟩, ⟨#[104, 52]⟩, ⟨#[104, 53]⟩, ⟨#[104, 54]⟩, ⟨#[104, 101, 97, 100]⟩, ⟨#[104, 101, 97, 100, 101, 114]⟩, ⟨#[104, 103, 114, 111, 117, 112]⟩, ⟨#[104, 114]⟩, ⟨#[104, 116, 109, 108]⟩, ⟨#[105, 102, 114, 97, 109, 101]⟩, ⟨#[105, 109, 103]⟩, ⟨#[105, 110, 112, 117, 116]⟩, ⟨#[107, 101, 121, 103, 101, 110]⟩, ⟨#[108, 105]⟩, ⟨#[108, 105, 110, 107]⟩, ⟨#[108, 105, 115, 116, 105, 110, 103]⟩, ⟨#[109, 97, 105, 110]⟩, ⟨#[109, 97, 114, 113, 117, 101, 101]⟩, ⟨#[109, 101, 110, 117]⟩, ⟨#[109, 101, 116, 97]⟩, ⟨#[110, 97, 118]⟩, ⟨#[110, 111, 101, 109, 98, 101, 100]⟩, ⟨#[110, 111, 102, 114, 97, 109, 101, 115]⟩, ⟨#[110, 111, 115, 99, 114, 105, 112, 116]⟩, ⟨#[111, 98, 106, 101, 99, 116]⟩, ⟨#[111, 108]⟩, ⟨#[112]⟩, ⟨#[112, 97, 114, 97, 109]⟩, ⟨#[112, 108, 97, 105, 110, 116, 101, 120, 116]⟩, ⟨#[112, 114, 101]⟩, ⟨#[115, 99, 114, 105, 112, 116]⟩, ⟨#[115, 101, 97, 114, 99, 104]⟩, ⟨#[115, 101, 99, 116, 105, 111, 110]⟩, ⟨#[115, 101, 108, 101, 99, 116]⟩, ⟨#[115, 111, 117, 114, 99, 101]⟩, ⟨#[115, 116, 121, 108, 101]⟩, ⟨#[115, 117, 109, 109, 97, 114, 121]⟩, ⟨#[116, 97, 98, 108, 101]⟩, ⟨#[116, 98, 111, 100, 121]⟩, ⟨#[116, 100]⟩, ⟨#[116, 101, 109, 112, 108, 97, 116, 101]⟩, ⟨#[116, 101, 120, 116, 97, 114, 101, 97]⟩, ⟨#[116, 102, 111, 111, 116]⟩, ⟨#[116, 104]⟩, ⟨#[116, 104, 101, 97, 100]⟩, ⟨#[116, 105, 116, 108, 101]⟩, ⟨#[116, 114]⟩, ⟨#[116, 114, 97, 99, 107]⟩, ⟨#[117, 108]⟩, ⟨#[119, 98, 114]⟩, ⟨#[120, 109, 112]⟩]

set_option maxHeartbeats 2000000 in
theorem isTableBorder_any (c : Cal) (w : World) : Calls Tryz.prog 223 #[c.agg] w fun e w' => e = .returned (.bool (amongM c 0 tblT)) ∧ Below w.heap.size w w' := by
  have HA : Hid (∀ w1, Below ((w.alloc (.cells #[.int .i64 c.space, .string c.name] 185)).alloc (.cells (sRow tblT) 250)).heap.size ((w.alloc (.cells #[.int .i64 c.space, .string c.name] 185)).alloc (.cells (sRow tblT) 250)) w1 →
      Calls Tryz.prog 186 #[c.agg, .int .i64 0, .slice (some ⟨w.heap.size + 1, 0, none⟩) 3 3] w1 fun e w' => e = .returned (.bool (amongM c 0 tblT)) ∧ Below w.heap.size w w') := hide (fun w1 hb => by
    have h := tab_new (w.alloc (.cells #[.int .i64 c.space, .string c.name] 185)) tblT 250
    rw [World.size_alloc] at h
    refine (isAmong_any c 0 tblT (by decide) (w.heap.size + 1) w1 (h.below hb)).mono ?_
    rintro e w' ⟨rfl, hb2⟩
    have b1 : Below w.heap.size w w1 := (((Below.refl _ w).alloc (Nat.le_refl _) _).alloc (by simp) _).trans (hb.mono (by simp; omega))
    exact ⟨rfl, b1.trans (hb2.mono b1.size)⟩)
  generalize amongM c 0 tblT = r at *
  obtain ⟨cs, cn⟩ := c
  simp only [Cal.agg] at *
  go_enter Tryz.func223, Tryz.ntmps223
  go_wp2_with fail
  go_region_with (go_at_call 186; refine ((unhide HA) _ (by first | exact Below.refl _ _ | exact (Below.refl _ _).drew | exact below_dn (Below.refl _ _) _ | exact (Below.refl _ _).drew.drew)).mono ?_; rintro e w' ⟨rfl, hb⟩; have HB := hide hb; clear hb)
  all_goals go_wp2
  all_goals go_ret
  all_goals exact ⟨rfl, unhide HB⟩

end Go.Proofs.YtkakncngkmoegaaGreat

namespace Go.Proofs.YtkakncngkmoegaaGreat
open Go.RowKit

def foreignM (c : Cal) : Bool := amongM c 1 mathT || amongM c 2 svgT
def plainM (c : Cal) : Bool := amongM c 0 bordT || foreignM c
def specialM (c : Cal) : Bool := amongM c 0 specT || foreignM c


theorem below3 (w : World) (o1 o2 o3 : Obj) : Below w.heap.size w (((w.alloc o1).alloc o2).alloc o3) := (((Below.refl _ w).alloc (Nat.le_refl _) _).alloc (by simp) _).alloc (by simp; omega) _
theorem below2 (w : World) (o1 o2 : Obj) : Below w.heap.size w ((w.alloc o1).alloc o2) := ((Below.refl _ w).alloc (Nat.le_refl _) _).alloc (by simp) _
theorem first_cells (w : World) (a b : Value) (t : TypeId) (w1 : World) (hb : Below (w.alloc (.cells #[a, b] t)).heap.size (w.alloc (.cells #[a, b] t)) w1) : w1.cell? ⟨w.heap.size, 0, none⟩ = some a ∧ w1.cell? ⟨w.heap.size, 1, none⟩ = some b := by
  have h := (hb.block w.heap.size (by simp)).trans (heap_alloc_new w _)
  exact ⟨by simp [World.cell?, h], by simp [World.cell?, h]⟩

set_option maxHeartbeats 2000000 in
theorem isForeign_any (c : Cal) (w : World) : Calls Tryz.prog 187 #[c.agg] w fun e w' => e = .returned (.bool (foreignM c)) ∧ Below w.heap.size w w' := by
  have h1 : TabAt (((w.alloc (.cells #[.int .i64 c.space, .string c.name] 185)).alloc (.cells (sRow mathT) 249)).alloc (.cells (sRow svgT) 250)) (w.heap.size + 1) mathT := by
    have h := (tab_new (w.alloc (.cells #[.int .i64 c.space, .string c.name] 185)) mathT 249).below (below_new _ (.cells (sRow svgT) 250))
    rw [World.size_alloc] at h
    exact h
  have h2 : TabAt (((w.alloc (.cells #[.int .i64 c.space, .string c.name] 185)).alloc (.cells (sRow mathT) 249)).alloc (.cells (sRow svgT) 250)) (w.heap.size + 2) svgT := by
    have h := tab_new ((w.alloc (.cells #[.int .i64 c.space, .string c.name] 185)).alloc (.cells (sRow mathT) 249)) svgT 250
    rw [World.size_alloc, World.size_alloc] at h
    exact h
  have hb3 : Below w.heap.size w (((w.alloc (.cells #[.int .i64 c.space, .string c.name] 185)).alloc (.cells (sRow mathT) 249)).alloc (.cells (sRow svgT) 250)) := below3 _ _ _ _
  have hsz : (((w.alloc (.cells #[.int .i64 c.space, .string c.name] 185)).alloc (.cells (sRow mathT) 249)).alloc (.cells (sRow svgT) 250)).heap.size = w.heap.size + 3 := by simp
  have hbx : (((w.alloc (.cells #[.int .i64 c.space, .string c.name] 185)).alloc (.cells (sRow mathT) 249)).alloc (.cells (sRow svgT) 250)).cell? ⟨w.heap.size, 0, none⟩ = some (.int .i64 c.space) ∧ (((w.alloc (.cells #[.int .i64 c.space, .string c.name] 185)).alloc (.cells (sRow mathT) 249)).alloc (.cells (sRow svgT) 250)).cell? ⟨w.heap.size, 1, none⟩ = some (.string c.name) := first_cells w _ _ _ _ (below2 _ _ _)
  unfold foreignM
  generalize hW : (((w.alloc (.cells #[.int .i64 c.space, .string c.name] 185)).alloc (.cells (sRow mathT) 249)).alloc (.cells (sRow svgT) 250)) = W at *
  have HA1 : Hid (∀ w1, Below W.heap.size W w1 → Calls Tryz.prog 186 #[c.agg, .int .i64 1, .slice (some ⟨w.heap.size + 1, 0, none⟩) 6 6] w1 fun e w' => e = .returned (.bool (amongM c 1 mathT)) ∧ Below W.heap.size W w') := hide (fun w1 hb => by
    refine (isAmong_any c 1 mathT (by decide) (w.heap.size + 1) w1 (h1.below hb)).mono ?_
    rintro e w' ⟨rfl, hb2⟩
    exact ⟨rfl, hb.trans (hb2.mono hb.size)⟩)
  have HA2 : Hid (∀ w1, Below W.heap.size W w1 → Calls Tryz.prog 186 #[c.agg, .int .i64 2, .slice (some ⟨w.heap.size + 1 + 1, 0, none⟩) 3 3] w1 fun e w' => e = .returned (.bool (amongM c 2 svgT)) ∧ Below W.heap.size W w') := hide (fun w1 hb => by
    refine (isAmong_any c 2 svgT (by decide) (w.heap.size + 2) w1 (h2.below hb)).mono ?_
    rintro e w' ⟨rfl, hb2⟩
    exact ⟨rfl, hb.trans (hb2.mono hb.size)⟩)
  have HBX : Hid (∀ w1, Below W.heap.size W w1 → w1.cell? ⟨w.heap.size, 0, none⟩ = some (.int .i64 c.space) ∧ w1.cell? ⟨w.heap.size, 1, none⟩ = some (.string c.name)) := hide (fun w1 hb => ⟨(hb.cell (p := ⟨w.heap.size, 0, none⟩) (show w.heap.size < W.heap.size by omega)).trans hbx.1, (hb.cell (p := ⟨w.heap.size, 1, none⟩) (show w.heap.size < W.heap.size by omega)).trans hbx.2⟩)
  have HWW := hide hW
  have HB3 := hide hb3
  generalize amongM c 1 mathT = r1 at *
  generalize amongM c 2 svgT = r2 at *
  obtain ⟨cs, cn⟩ := c
  simp only [Cal.agg] at *
  obtain ⟨hx0, hx1⟩ := hbx
  clear h1 h2 hb3 hsz hW
  have hund : undef = Value.tuple #[] := rfl
  cases r1 with
  | true =>
    go_enter Tryz.func187, Tryz.ntmps187
    go_wp2_with fail
    refine (show Code.wp Tryz.prog _ _ _ (((w.alloc (.cells #[.int .i64 cs, .string cn] 185)).alloc (.cells (sRow mathT) 249)).alloc (.cells (sRow svgT) 250)) from ?_)
    rw [unhide HWW]
    first | go_region_with (go_at_call 186; refine ((unhide HA1) _ (by first | exact Below.refl _ _ | exact (Below.refl _ _).drew | exact below_dn (Below.refl _ _) _ | exact (Below.refl _ _).drew.drew)).mono ?_; rintro e w2 ⟨rfl, hb⟩; have HB := hide hb; obtain ⟨hy0, hy1⟩ := (unhide HBX) _ hb; clear hb) | fail
    all_goals go_wp2
    all_goals go_ret
    all_goals exact ⟨rfl, (unhide HB3).trans ((unhide HB).mono (unhide HB3).size)⟩
  | false =>
    go_enter Tryz.func187, Tryz.ntmps187
    go_wp2_with fail
    refine (show Code.wp Tryz.prog _ _ _ (((w.alloc (.cells #[.int .i64 cs, .string cn] 185)).alloc (.cells (sRow mathT) 249)).alloc (.cells (sRow svgT) 250)) from ?_)
    rw [unhide HWW]
    first | go_region_with (first | (have _x := unhide HB; clear _x; go_at_call 186; refine ((unhide HA2) _ (by first | exact unhide HB | exact (unhide HB).drew | exact below_dn (unhide HB) _ | exact (unhide HB).drew.drew)).mono ?_; rintro e w3 ⟨rfl, hb⟩; have HB2 := hide hb; clear hb) | (go_at_call 186; refine ((unhide HA1) _ (by first | exact Below.refl _ _ | exact (Below.refl _ _).drew | exact below_dn (Below.refl _ _) _ | exact (Below.refl _ _).drew.drew)).mono ?_; rintro e w2 ⟨rfl, hb⟩; have HB := hide hb; obtain ⟨hy0, hy1⟩ := (unhide HBX) _ hb; clear hb)) | fail
    all_goals go_wp2
    all_goals go_ret
    all_goals exact ⟨rfl, (unhide HB3).trans ((unhide HB2).mono (unhide HB3).size)⟩
end Go.Proofs.YtkakncngkmoegaaGreat

namespace Go.Proofs.YtkakncngkmoegaaGreat
open Go.RowKit

set_option maxHeartbeats 4000000 in
theorem isPlainBorder_any (c : Cal) (w : World) : Calls Tryz.prog 221 #[c.agg] w fun e w' => e = .returned (.bool (plainM c)) ∧ Below w.heap.size w w' := by
  have h1 : TabAt ((w.alloc (.cells #[.int .i64 c.space, .string c.name] 185)).alloc (.cells (sRow bordT) 259)) (w.heap.size + 1) bordT := by
    have h := tab_new (w.alloc (.cells #[.int .i64 c.space, .string c.name] 185)) bordT 259
    rw [World.size_alloc] at h
    exact h
  have hb3 : Below w.heap.size w ((w.alloc (.cells #[.int .i64 c.space, .string c.name] 185)).alloc (.cells (sRow bordT) 259)) := below2 _ _ _
  have hbx : ((w.alloc (.cells #[.int .i64 c.space, .string c.name] 185)).alloc (.cells (sRow bordT) 259)).cell? ⟨w.heap.size, 0, none⟩ = some (.int .i64 c.space) ∧ ((w.alloc (.cells #[.int .i64 c.space, .string c.name] 185)).alloc (.cells (sRow bordT) 259)).cell? ⟨w.heap.size, 1, none⟩ = some (.string c.name) := first_cells w _ _ _ _ (below_new _ _)
  have hsz : ((w.alloc (.cells #[.int .i64 c.space, .string c.name] 185)).alloc (.cells (sRow bordT) 259)).heap.size = w.heap.size + 2 := by simp
  unfold plainM
  generalize hW : ((w.alloc (.cells #[.int .i64 c.space, .string c.name] 185)).alloc (.cells (sRow bordT) 259)) = W at *
  have HA1 : Hid (∀ w1, Below W.heap.size W w1 → Calls Tryz.prog 186 #[c.agg, .int .i64 0, .slice (some ⟨w.heap.size + 1, 0, none⟩) 9 9] w1 fun e w' => e = .returned (.bool (amongM c 0 bordT)) ∧ Below W.heap.size W w') := hide (fun w1 hb => by
    refine (isAmong_any c 0 bordT (by decide) (w.heap.size + 1) w1 (h1.below hb)).mono ?_
    rintro e w' ⟨rfl, hb2⟩
    exact ⟨rfl, hb.trans (hb2.mono hb.size)⟩)
  have HA2 : Hid (∀ w1, Below W.heap.size W w1 → Calls Tryz.prog 187 #[c.agg] w1 fun e w' => e = .returned (.bool (foreignM c)) ∧ Below W.heap.size W w') := hide (fun w1 hb => by
    refine (isForeign_any c w1).mono ?_
    rintro e w' ⟨rfl, hb2⟩
    exact ⟨rfl, hb.trans (hb2.mono hb.size)⟩)
  have HBX : Hid (∀ w1, Below W.heap.size W w1 → w1.cell? ⟨w.heap.size, 0, none⟩ = some (.int .i64 c.space) ∧ w1.cell? ⟨w.heap.size, 1, none⟩ = some (.string c.name)) := hide (fun w1 hb => ⟨(hb.cell (p := ⟨w.heap.size, 0, none⟩) (show w.heap.size < W.heap.size by omega)).trans hbx.1, (hb.cell (p := ⟨w.heap.size, 1, none⟩) (show w.heap.size < W.heap.size by omega)).trans hbx.2⟩)
  have HWW := hide hW
  have HB3 := hide hb3
  generalize amongM c 0 bordT = r1 at *
  generalize foreignM c = r2 at *
  obtain ⟨cs, cn⟩ := c
  simp only [Cal.agg] at *
  obtain ⟨hx0, hx1⟩ := hbx
  clear h1 hb3 hsz hW
  have hund : undef = Value.tuple #[] := rfl
  cases r1 with
  | true =>
    go_enter Tryz.func221, Tryz.ntmps221
    go_wp2_with fail
    refine (show Code.wp Tryz.prog _ _ _ ((w.alloc (.cells #[.int .i64 cs, .string cn] 185)).alloc (.cells (sRow bordT) 259)) from ?_)
    rw [unhide HWW]
    first | go_region_with (go_at_call 186; refine ((unhide HA1) _ (by first | exact Below.refl _ _ | exact (Below.refl _ _).drew | exact below_dn (Below.refl _ _) _ | exact (Below.refl _ _).drew.drew)).mono ?_; rintro e w2 ⟨rfl, hb⟩; have HB := hide hb; obtain ⟨hy0, hy1⟩ := (unhide HBX) _ hb; clear hb) | fail
    all_goals go_wp2
    all_goals go_ret
    all_goals exact ⟨rfl, (unhide HB3).trans ((unhide HB).mono (unhide HB3).size)⟩
  | false =>
    go_enter Tryz.func221, Tryz.ntmps221
    go_wp2_with fail
    refine (show Code.wp Tryz.prog _ _ _ ((w.alloc (.cells #[.int .i64 cs, .string cn] 185)).alloc (.cells (sRow bordT) 259)) from ?_)
    rw [unhide HWW]
    first | go_region_with (first | (go_at_call 187; refine ((unhide HA2) _ (by first | exact unhide HB | exact (unhide HB).drew | exact below_dn (unhide HB) _ | exact (unhide HB).drew.drew)).mono ?_; rintro e w3 ⟨rfl, hb⟩; have HB2 := hide hb; clear hb) | (go_at_call 186; refine ((unhide HA1) _ (by first | exact Below.refl _ _ | exact (Below.refl _ _).drew | exact below_dn (Below.refl _ _) _ | exact (Below.refl _ _).drew.drew)).mono ?_; rintro e w2 ⟨rfl, hb⟩; have HB := hide hb; obtain ⟨hy0, hy1⟩ := (unhide HBX) _ hb; clear hb)) | fail
    all_goals go_wp2
    all_goals go_ret
    all_goals exact ⟨rfl, (unhide HB3).trans ((unhide HB2).mono (unhide HB3).size)⟩
end Go.Proofs.YtkakncngkmoegaaGreat

namespace Go.Proofs.YtkakncngkmoegaaGreat
open Go.RowKit

def olB : ByteArray := ⟨#[111, 108]⟩
def ulB : ByteArray := ⟨#[117, 108]⟩
def buttonB : ByteArray := ⟨#[98, 117, 116, 116, 111, 110]⟩
def optgroupB : ByteArray := ⟨#[111, 112, 116, 103, 114, 111, 117, 112]⟩
def optionB : ByteArray := ⟨#[111, 112, 116, 105, 111, 110]⟩

def borderM (c : Cal) (k : Int) : Bool :=
  if k = 0 then plainM c
  else if k = 1 then plainM c || namedM c olB || namedM c ulB
  else if k = 2 then plainM c || namedM c buttonB
  else if k = 3 then amongM c 0 tblT
  else !namedM c optgroupB && !namedM c optionB

/-- A box of what an element is called, in whatever world comes of it. -/
theorem box_after {w w1 : World} {cs : Int} {cn : ByteArray} (hb : Below (w.alloc (.cells #[.int .i64 cs, .string cn] 185)).heap.size (w.alloc (.cells #[.int .i64 cs, .string cn] 185)) w1) :
    w1.cell? ⟨w.heap.size, 0, none⟩ = some (.int .i64 cs) ∧ w1.cell? ⟨w.heap.size, 1, none⟩ = some (.string cn) := first_cells w _ _ _ _ hb
theorem below_box {w w1 : World} {o : Obj} (hb : Below (w.alloc o).heap.size (w.alloc o) w1) : Below w.heap.size w w1 := (below_new w o).trans (hb.mono (by simp))
theorem calls_more {f : Nat} {args : Array Value} {W w1 : World} {v : Value} (hb : Below W.heap.size W w1) (h : Calls Tryz.prog f args w1 fun e w' => e = .returned v ∧ Below w1.heap.size w1 w') : Calls Tryz.prog f args w1 fun e w' => e = .returned v ∧ Below W.heap.size W w' :=
  h.mono fun _ _ ⟨a, b⟩ => ⟨a, hb.trans (b.mono hb.size)⟩

set_option maxHeartbeats 2000000 in
theorem isBorder_0 (c : Cal) (w : World) : Calls Tryz.prog 203 #[c.agg, .int .i64 0] w fun e w' => e = .returned (.bool (borderM c 0)) ∧ Below w.heap.size w w' := by
  obtain ⟨cs, cn⟩ := c
  have HP : Hid (∀ w1, Below (w.alloc (.cells #[.int .i64 cs, .string cn] 185)).heap.size (w.alloc (.cells #[.int .i64 cs, .string cn] 185)) w1 → Calls Tryz.prog 221 #[.agg #[.int .i64 cs, .string cn]] w1 fun e w' => e = .returned (.bool (plainM ⟨cs, cn⟩)) ∧ Below (w.alloc (.cells #[.int .i64 cs, .string cn] 185)).heap.size (w.alloc (.cells #[.int .i64 cs, .string cn] 185)) w') := hide (fun w1 hb => calls_more hb (isPlainBorder_any ⟨cs, cn⟩ w1))
  have HT : Hid (∀ w1, Below (w.alloc (.cells #[.int .i64 cs, .string cn] 185)).heap.size (w.alloc (.cells #[.int .i64 cs, .string cn] 185)) w1 → Calls Tryz.prog 223 #[.agg #[.int .i64 cs, .string cn]] w1 fun e w' => e = .returned (.bool (amongM ⟨cs, cn⟩ 0 tblT)) ∧ Below (w.alloc (.cells #[.int .i64 cs, .string cn] 185)).heap.size (w.alloc (.cells #[.int .i64 cs, .string cn] 185)) w') := hide (fun w1 hb => calls_more hb (isTableBorder_any ⟨cs, cn⟩ w1))
  have e0 : borderM ⟨cs, cn⟩ 0 = plainM ⟨cs, cn⟩ := rfl
  rw [e0]
  generalize plainM ⟨cs, cn⟩ = r at *
  unfold Cal.agg
  clear HT e0
  go_enter Tryz.func203, Tryz.ntmps203
  go_wp2_with (first | (go_at_call 221; refine ((unhide HP) _ (Below.refl _ _)).mono ?_; rintro e w1 ⟨rfl, hb⟩; have HB1 := hide hb; obtain ⟨x1a, x1b⟩ := box_after hb; clear hb))
  go_ret
  exact ⟨rfl, below_box (unhide HB1)⟩

set_option maxHeartbeats 2000000 in
theorem isBorder_3 (c : Cal) (w : World) : Calls Tryz.prog 203 #[c.agg, .int .i64 3] w fun e w' => e = .returned (.bool (borderM c 3)) ∧ Below w.heap.size w w' := by
  obtain ⟨cs, cn⟩ := c
  have HP : Hid (∀ w1, Below (w.alloc (.cells #[.int .i64 cs, .string cn] 185)).heap.size (w.alloc (.cells #[.int .i64 cs, .string cn] 185)) w1 → Calls Tryz.prog 221 #[.agg #[.int .i64 cs, .string cn]] w1 fun e w' => e = .returned (.bool (plainM ⟨cs, cn⟩)) ∧ Below (w.alloc (.cells #[.int .i64 cs, .string cn] 185)).heap.size (w.alloc (.cells #[.int .i64 cs, .string cn] 185)) w') := hide (fun w1 hb => calls_more hb (isPlainBorder_any ⟨cs, cn⟩ w1))
  have HT : Hid (∀ w1, Below (w.alloc (.cells #[.int .i64 cs, .string cn] 185)).heap.size (w.alloc (.cells #[.int .i64 cs, .string cn] 185)) w1 → Calls Tryz.prog 223 #[.agg #[.int .i64 cs, .string cn]] w1 fun e w' => e = .returned (.bool (amongM ⟨cs, cn⟩ 0 tblT)) ∧ Below (w.alloc (.cells #[.int .i64 cs, .string cn] 185)).heap.size (w.alloc (.cells #[.int .i64 cs, .string cn] 185)) w') := hide (fun w1 hb => calls_more hb (isTableBorder_any ⟨cs, cn⟩ w1))
  have e0 : borderM ⟨cs, cn⟩ 3 = amongM ⟨cs, cn⟩ 0 tblT := rfl
  rw [e0]
  generalize amongM ⟨cs, cn⟩ 0 tblT = r at *
  unfold Cal.agg
  clear HP e0
  go_enter Tryz.func203, Tryz.ntmps203
  go_wp2_with (first | (go_at_call 223; refine ((unhide HT) _ (Below.refl _ _)).mono ?_; rintro e w1 ⟨rfl, hb⟩; have HB1 := hide hb; obtain ⟨x1a, x1b⟩ := box_after hb; clear hb))
  go_ret
  exact ⟨rfl, below_box (unhide HB1)⟩

set_option maxHeartbeats 2000000 in
theorem isBorder_2 (c : Cal) (w : World) : Calls Tryz.prog 203 #[c.agg, .int .i64 2] w fun e w' => e = .returned (.bool (borderM c 2)) ∧ Below w.heap.size w w' := by
  obtain ⟨cs, cn⟩ := c
  have HP : Hid (∀ w1, Below (w.alloc (.cells #[.int .i64 cs, .string cn] 185)).heap.size (w.alloc (.cells #[.int .i64 cs, .string cn] 185)) w1 → Calls Tryz.prog 221 #[.agg #[.int .i64 cs, .string cn]] w1 fun e w' => e = .returned (.bool (plainM ⟨cs, cn⟩)) ∧ Below (w.alloc (.cells #[.int .i64 cs, .string cn] 185)).heap.size (w.alloc (.cells #[.int .i64 cs, .string cn] 185)) w') := hide (fun w1 hb => calls_more hb (isPlainBorder_any ⟨cs, cn⟩ w1))
  have HT : Hid (∀ w1, Below (w.alloc (.cells #[.int .i64 cs, .string cn] 185)).heap.size (w.alloc (.cells #[.int .i64 cs, .string cn] 185)) w1 → Calls Tryz.prog 223 #[.agg #[.int .i64 cs, .string cn]] w1 fun e w' => e = .returned (.bool (amongM ⟨cs, cn⟩ 0 tblT)) ∧ Below (w.alloc (.cells #[.int .i64 cs, .string cn] 185)).heap.size (w.alloc (.cells #[.int .i64 cs, .string cn] 185)) w') := hide (fun w1 hb => calls_more hb (isTableBorder_any ⟨cs, cn⟩ w1))
  have HN_button : Hid (∀ w1, Below (w.alloc (.cells #[.int .i64 cs, .string cn] 185)).heap.size (w.alloc (.cells #[.int .i64 cs, .string cn] 185)) w1 → Calls Tryz.prog 222 #[.agg #[.int .i64 cs, .string cn], .string ⟨#[98, 117, 116, 116, 111, 110]⟩] w1 fun e w' => e = .returned (.bool (namedM ⟨cs, cn⟩ buttonB)) ∧ Below (w.alloc (.cells #[.int .i64 cs, .string cn] 185)).heap.size (w.alloc (.cells #[.int .i64 cs, .string cn] 185)) w') := hide (fun w1 hb => calls_more hb (isNamed_any ⟨cs, cn⟩ buttonB w1))
  have e0 : borderM ⟨cs, cn⟩ 2 = (plainM ⟨cs, cn⟩ || namedM ⟨cs, cn⟩ buttonB) := rfl
  rw [e0]
  generalize plainM ⟨cs, cn⟩ = r at *
  generalize namedM ⟨cs, cn⟩ buttonB = r1 at *
  unfold Cal.agg
  clear HT e0
  cases r with
  | true =>
    go_enter Tryz.func203, Tryz.ntmps203
    go_wp2_with (first | (go_at_call 221; refine ((unhide HP) _ (Below.refl _ _)).mono ?_; rintro e w1 ⟨rfl, hb⟩; have HB1 := hide hb; obtain ⟨x1a, x1b⟩ := box_after hb; clear hb))
    go_ret
    exact ⟨rfl, below_box (unhide HB1)⟩
  | false =>
    go_enter Tryz.func203, Tryz.ntmps203
    go_wp2_with (first | (have _x := unhide HB1; clear _x; go_at_call 222; refine ((unhide HN_button) _ (unhide HB1)).mono ?_; rintro e w2 ⟨rfl, hb⟩; have HB2 := hide hb; obtain ⟨x2a, x2b⟩ := box_after hb; clear hb) | (go_at_call 221; refine ((unhide HP) _ (Below.refl _ _)).mono ?_; rintro e w1 ⟨rfl, hb⟩; have HB1 := hide hb; obtain ⟨x1a, x1b⟩ := box_after hb; clear hb))
    go_ret
    exact ⟨rfl, below_box (unhide HB2)⟩

set_option maxHeartbeats 2000000 in
theorem isBorder_1 (c : Cal) (w : World) : Calls Tryz.prog 203 #[c.agg, .int .i64 1] w fun e w' => e = .returned (.bool (borderM c 1)) ∧ Below w.heap.size w w' := by
  obtain ⟨cs, cn⟩ := c
  have HP : Hid (∀ w1, Below (w.alloc (.cells #[.int .i64 cs, .string cn] 185)).heap.size (w.alloc (.cells #[.int .i64 cs, .string cn] 185)) w1 → Calls Tryz.prog 221 #[.agg #[.int .i64 cs, .string cn]] w1 fun e w' => e = .returned (.bool (plainM ⟨cs, cn⟩)) ∧ Below (w.alloc (.cells #[.int .i64 cs, .string cn] 185)).heap.size (w.alloc (.cells #[.int .i64 cs, .string cn] 185)) w') := hide (fun w1 hb => calls_more hb (isPlainBorder_any ⟨cs, cn⟩ w1))
  have HT : Hid (∀ w1, Below (w.alloc (.cells #[.int .i64 cs, .string cn] 185)).heap.size (w.alloc (.cells #[.int .i64 cs, .string cn] 185)) w1 → Calls Tryz.prog 223 #[.agg #[.int .i64 cs, .string cn]] w1 fun e w' => e = .returned (.bool (amongM ⟨cs, cn⟩ 0 tblT)) ∧ Below (w.alloc (.cells #[.int .i64 cs, .string cn] 185)).heap.size (w.alloc (.cells #[.int .i64 cs, .string cn] 185)) w') := hide (fun w1 hb => calls_more hb (isTableBorder_any ⟨cs, cn⟩ w1))
  have HN_ol : Hid (∀ w1, Below (w.alloc (.cells #[.int .i64 cs, .string cn] 185)).heap.size (w.alloc (.cells #[.int .i64 cs, .string cn] 185)) w1 → Calls Tryz.prog 222 #[.agg #[.int .i64 cs, .string cn], .string ⟨#[111, 108]⟩] w1 fun e w' => e = .returned (.bool (namedM ⟨cs, cn⟩ olB)) ∧ Below (w.alloc (.cells #[.int .i64 cs, .string cn] 185)).heap.size (w.alloc (.cells #[.int .i64 cs, .string cn] 185)) w') := hide (fun w1 hb => calls_more hb (isNamed_any ⟨cs, cn⟩ olB w1))
  have HN_ul : Hid (∀ w1, Below (w.alloc (.cells #[.int .i64 cs, .string cn] 185)).heap.size (w.alloc (.cells #[.int .i64 cs, .string cn] 185)) w1 → Calls Tryz.prog 222 #[.agg #[.int .i64 cs, .string cn], .string ⟨#[117, 108]⟩] w1 fun e w' => e = .returned (.bool (namedM ⟨cs, cn⟩ ulB)) ∧ Below (w.alloc (.cells #[.int .i64 cs, .string cn] 185)).heap.size (w.alloc (.cells #[.int .i64 cs, .string cn] 185)) w') := hide (fun w1 hb => calls_more hb (isNamed_any ⟨cs, cn⟩ ulB w1))
  have e0 : borderM ⟨cs, cn⟩ 1 = (plainM ⟨cs, cn⟩ || namedM ⟨cs, cn⟩ olB || namedM ⟨cs, cn⟩ ulB) := rfl
  rw [e0]
  generalize plainM ⟨cs, cn⟩ = r at *
  generalize namedM ⟨cs, cn⟩ olB = r1 at *
  generalize namedM ⟨cs, cn⟩ ulB = r2 at *
  unfold Cal.agg
  clear HT e0
  cases r with
  | true =>
    go_enter Tryz.func203, Tryz.ntmps203
    go_wp2_with (first | (go_at_call 221; refine ((unhide HP) _ (Below.refl _ _)).mono ?_; rintro e w1 ⟨rfl, hb⟩; have HB1 := hide hb; obtain ⟨x1a, x1b⟩ := box_after hb; clear hb))
    go_ret
    exact ⟨rfl, below_box (unhide HB1)⟩
  | false =>
    cases r1 with
    | true =>
      go_enter Tryz.func203, Tryz.ntmps203
      go_wp2_with (first | (have _x := unhide HB1; clear _x; go_at_call 222; refine ((unhide HN_ol) _ (unhide HB1)).mono ?_; rintro e w2 ⟨rfl, hb⟩; have HB2 := hide hb; obtain ⟨x2a, x2b⟩ := box_after hb; clear hb) | (go_at_call 221; refine ((unhide HP) _ (Below.refl _ _)).mono ?_; rintro e w1 ⟨rfl, hb⟩; have HB1 := hide hb; obtain ⟨x1a, x1b⟩ := box_after hb; clear hb))
      go_ret
      exact ⟨rfl, below_box (unhide HB2)⟩
    | false =>
      go_enter Tryz.func203, Tryz.ntmps203
      go_wp2_with (first | (have _x := unhide HB2; clear _x; go_at_call 222; refine ((unhide HN_ul) _ (unhide HB2)).mono ?_; rintro e w3 ⟨rfl, hb⟩; have HB3 := hide hb; obtain ⟨x3a, x3b⟩ := box_after hb; clear hb) | (have _x := unhide HB1; clear _x; go_at_call 222; refine ((unhide HN_ol) _ (unhide HB1)).mono ?_; rintro e w2 ⟨rfl, hb⟩; have HB2 := hide hb; obtain ⟨x2a, x2b⟩ := box_after hb; clear hb) | (go_at_call 221; refine ((unhide HP) _ (Below.refl _ _)).mono ?_; rintro e w1 ⟨rfl, hb⟩; have HB1 := hide hb; obtain ⟨x1a, x1b⟩ := box_after hb; clear hb))
      go_ret
      exact ⟨rfl, below_box (unhide HB3)⟩

set_option maxHeartbeats 2000000 in
theorem isBorder_4 (c : Cal) (w : World) : Calls Tryz.prog 203 #[c.agg, .int .i64 4] w fun e w' => e = .returned (.bool (borderM c 4)) ∧ Below w.heap.size w w' := by
  obtain ⟨cs, cn⟩ := c
  have HN_optgroup : Hid (∀ w1, Below (w.alloc (.cells #[.int .i64 cs, .string cn] 185)).heap.size (w.alloc (.cells #[.int .i64 cs, .string cn] 185)) w1 → Calls Tryz.prog 222 #[.agg #[.int .i64 cs, .string cn], .string ⟨#[111, 112, 116, 103, 114, 111, 117, 112]⟩] w1 fun e w' => e = .returned (.bool (namedM ⟨cs, cn⟩ optgroupB)) ∧ Below (w.alloc (.cells #[.int .i64 cs, .string cn] 185)).heap.size (w.alloc (.cells #[.int .i64 cs, .string cn] 185)) w') := hide (fun w1 hb => calls_more hb (isNamed_any ⟨cs, cn⟩ optgroupB w1))
  have HN_option : Hid (∀ w1, Below (w.alloc (.cells #[.int .i64 cs, .string cn] 185)).heap.size (w.alloc (.cells #[.int .i64 cs, .string cn] 185)) w1 → Calls Tryz.prog 222 #[.agg #[.int .i64 cs, .string cn], .string ⟨#[111, 112, 116, 105, 111, 110]⟩] w1 fun e w' => e = .returned (.bool (namedM ⟨cs, cn⟩ optionB)) ∧ Below (w.alloc (.cells #[.int .i64 cs, .string cn] 185)).heap.size (w.alloc (.cells #[.int .i64 cs, .string cn] 185)) w') := hide (fun w1 hb => calls_more hb (isNamed_any ⟨cs, cn⟩ optionB w1))
  have e0 : borderM ⟨cs, cn⟩ 4 = (!namedM ⟨cs, cn⟩ optgroupB && !namedM ⟨cs, cn⟩ optionB) := rfl
  rw [e0]
  generalize namedM ⟨cs, cn⟩ optgroupB = r1 at *
  generalize namedM ⟨cs, cn⟩ optionB = r2 at *
  unfold Cal.agg
  clear e0
  cases r1 with
  | true =>
    go_enter Tryz.func203, Tryz.ntmps203
    go_wp2_with (first | (go_at_call 222; refine ((unhide HN_optgroup) _ (Below.refl _ _)).mono ?_; rintro e w1 ⟨rfl, hb⟩; have HB1 := hide hb; obtain ⟨x1a, x1b⟩ := box_after hb; clear hb))
    go_ret
    exact ⟨rfl, below_box (unhide HB1)⟩
  | false =>
    go_enter Tryz.func203, Tryz.ntmps203
    go_wp2_with (first | (have _x := unhide HB1; clear _x; go_at_call 222; refine ((unhide HN_option) _ (unhide HB1)).mono ?_; rintro e w2 ⟨rfl, hb⟩; have HB2 := hide hb; obtain ⟨x2a, x2b⟩ := box_after hb; clear hb) | (go_at_call 222; refine ((unhide HN_optgroup) _ (Below.refl _ _)).mono ?_; rintro e w1 ⟨rfl, hb⟩; have HB1 := hide hb; obtain ⟨x1a, x1b⟩ := box_after hb; clear hb))
    go_ret
    exact ⟨rfl, below_box (unhide HB2)⟩

theorem isBorder_any (c : Cal) (k : Int) (h0 : 0 ≤ k) (h4 : k ≤ 4) (w : World) : Calls Tryz.prog 203 #[c.agg, .int .i64 k] w fun e w' => e = .returned (.bool (borderM c k)) ∧ Below w.heap.size w w' := by
  have : k = 0 ∨ k = 1 ∨ k = 2 ∨ k = 3 ∨ k = 4 := by omega
  rcases this with rfl | rfl | rfl | rfl | rfl
  · exact isBorder_0 c w
  · exact isBorder_1 c w
  · exact isBorder_2 c w
  · exact isBorder_3 c w
  · exact isBorder_4 c w
end Go.Proofs.YtkakncngkmoegaaGreat
