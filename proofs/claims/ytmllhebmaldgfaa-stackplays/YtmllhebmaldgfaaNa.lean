import Derived.Test.YtmllhebmaldgfaaCa
/-
  Names among tables: slices.Contains over texts, isAmong, isNamed.
-/
namespace Go.Proofs.Ytmllhebmaldgfaa
open Go.RowKit

theorem cell_row (w : World) (b k : Nat) (c : Array Value) (e : TypeId) (fz : Nat × Nat) (h : w.heap[b]? = some (.cells c e fz)) : w.cell? ⟨b, k, none⟩ = c[k]? := by
  unfold World.cell?
  simp [h]
theorem below_new (w : World) (o : Obj) : Below w.heap.size w (w.alloc o) := (Below.refl _ w).alloc (Nat.le_refl _) _
/-- A table in a block of its own. -/
structure TabAt (w : World) (b : Nat) (l : List ByteArray) : Prop where
  cells : ∀ (j : Nat) s, l[j]? = some s → w.cell? ⟨b, j, none⟩ = some (.string s)
  lt : b < w.heap.size
def sRow (l : List ByteArray) : Array Value := (l.map Value.string).toArray
theorem tab_block {w : World} {b : Nat} {l : List ByteArray} {t : TypeId} {fz : Nat × Nat} (h : w.heap[b]? = some (.cells (sRow l) t fz)) : TabAt w b l := by
  refine ⟨fun j s hs => ?_, lt_of_block h⟩
  rw [cell_row _ b j _ _ _ h]
  simp [sRow, hs]
theorem tab_new (w : World) (l : List ByteArray) (t : TypeId) : TabAt (w.alloc (.cells (sRow l) t)) w.heap.size l := tab_block (heap_alloc_new w _)
theorem TabAt.below {w w' : World} {b : Nat} {l : List ByteArray} (h : TabAt w b l) (hb : Below w.heap.size w w') : TabAt w' b l :=
  ⟨fun j s hs => (hb.cell (p := ⟨b, j, none⟩) h.lt).trans (h.cells j s hs), Nat.lt_of_lt_of_le h.lt hb.size⟩

def hasT (l : List ByteArray) (n : ByteArray) : Bool := l.any fun x => n.toList == x.toList

set_option maxHeartbeats 1000000 in
theorem sindex_any (l : List ByteArray) (hl : l.length ≤ 1000) (n : ByteArray) (b : Nat) (w : World) (ht : TabAt w b l) :
    Calls Try.prog 134 #[.slice (some ⟨b, 0, none⟩) l.length l.length, .string n] w fun e w' => (∃ r : Int, e = .returned (.int .i64 r) ∧ decide (0 ≤ r) = hasT l n) ∧ w' = w := by
  unfold hasT
  have HT := hide ht
  have hlz : (l.length : Int) ≤ 1000 := by omega
  clear ht hl
  go_enter Try.func134, Try.ntmps134
  go_wp2
  go_loopg [5, 8] l.length (fun g _ s8 wr => ∃ j : Nat, j + g = l.length ∧ s8 = .int .i64 j ∧ wr = w ∧ (∀ i s, i < j → l[i]? = some s → (n.toList == s.toList) = false))
  case atStart => exact ⟨0, by omega, rfl, rfl, fun i s hi => absurd hi (Nat.not_lt_zero _)⟩
  case round =>
    obtain ⟨j, hjg, rfl, rfl, hno⟩ := hrel
    have HN := hide hno
    clear hno
    by_cases hj : j < l.length
    · have hjz : (j : Int) < (l.length : Int) := by omega
      obtain ⟨y, hy⟩ : ∃ y, l[j]? = some y := ⟨_, List.getElem?_eq_getElem hj⟩
      have hcell := (unhide HT).cells j y hy
      have HY := hide hy
      clear hy
      cases hq : (n.toList == y.toList) with
      | true =>
        have HQ := hide hq
        go_wp2
        go_ret
        refine ⟨⟨_, rfl, ?_⟩, rfl⟩
        rw [List.any_eq_true.2 ⟨y, List.mem_of_getElem? (unhide HY), unhide HQ⟩]
        exact decide_eq_true (by omega)
      | false =>
        have HQ := hide hq
        go_wp2
        go_roundg (gk - 1)
        case measure => omega
        case rel =>
          refine ⟨j + 1, by omega, by go_num, rfl, fun i s hi hs => ?_⟩
          by_cases e : i = j
          · subst e; rw [unhide HY] at hs; cases hs; exact unhide HQ
          · exact (unhide HN) i s (by omega) hs
    · have hjz : ¬ (j : Int) < (l.length : Int) := by omega
      obtain rfl : j = l.length := by omega
      go_wp2
      go_ret
      refine ⟨⟨_, rfl, ?_⟩, rfl⟩
      have : (l.any fun x => n.toList == x.toList) = false := by
        rw [List.any_eq_false]
        intro s hs
        obtain ⟨i, hi⟩ := List.getElem?_of_mem hs
        rw [(unhide HN) i s (List.getElem?_eq_some_iff.1 hi).1 hi]
        exact Bool.false_ne_true
      rw [this]
      rfl

theorem contains_any (l : List ByteArray) (hl : l.length ≤ 1000) (n : ByteArray) (b : Nat) (w : World) (ht : TabAt w b l) :
    Calls Try.prog 128 #[.slice (some ⟨b, 0, none⟩) l.length l.length, .string n] w fun e w' => e = .returned (.bool (hasT l n)) ∧ w' = w := by
  have HI := hide (sindex_any l hl n b w ht)
  clear hl ht
  generalize hasT l n = r at HI
  go_enter Try.func128, Try.ntmps128
  go_wp2_with (go_at_call 134; refine (unhide HI).mono ?_; rintro e w' ⟨⟨i, rfl, hi⟩, rfl⟩)
  go_ret
  exact ⟨by rw [← hi]; rfl, rfl⟩


def amongM (c : Cal) (sp : Int) (l : List ByteArray) : Bool := c.space == sp && hasT l c.name

theorem isAmong_any (c : Cal) (sp : Int) (l : List ByteArray) (hl : l.length ≤ 1000) (b : Nat) (w : World) (ht : TabAt w b l) :
    Calls Try.prog 115 #[c.agg, .int .i64 sp, .slice (some ⟨b, 0, none⟩) l.length l.length] w fun e w' => e = .returned (.bool (amongM c sp l)) ∧ Below w.heap.size w w' := by
  obtain ⟨cs, cn⟩ := c
  have HC := hide (contains_any l hl cn b _ (ht.below (below_new w (.cells #[.int .i64 cs, .string cn] 100))))
  unfold amongM Cal.agg
  simp only
  generalize hasT l cn = r at *
  clear hl ht
  cases h1 : (cs == sp) with
  | true =>
    go_enter Try.func115, Try.ntmps115
    go_wp2_with (go_at_call 128; refine (unhide HC).mono ?_; rintro e w' ⟨rfl, rfl⟩)
    go_ret
    exact ⟨rfl, below_new _ _⟩
  | false =>
    go_enter Try.func115, Try.ntmps115
    go_wp2
    go_ret
    exact ⟨rfl, below_new _ _⟩

def namedM (c : Cal) (n : ByteArray) : Bool := amongM c 0 [n]
theorem isNamed_any (c : Cal) (n : ByteArray) (w : World) :
    Calls Try.prog 67 #[c.agg, .string n] w fun e w' => e = .returned (.bool (namedM c n)) ∧ Below w.heap.size w w' := by
  obtain ⟨cs, cn⟩ := c
  have hn : namedM ⟨cs, cn⟩ n = (cs == 0 && cn.toList == n.toList) := by simp [namedM, amongM, hasT]
  rw [hn]
  simp only [Cal.agg]
  cases h1 : (cs == 0) with
  | true =>
    clear hn
    rw [Bool.true_and]
    go_enter Try.func67, Try.ntmps67
    go_wp2
    go_ret
    exact ⟨rfl, below_new _ _⟩
  | false =>
    clear hn
    rw [Bool.false_and]
    go_enter Try.func67, Try.ntmps67
    go_wp2
    go_ret
    exact ⟨rfl, below_new _ _⟩
end Go.Proofs.Ytmllhebmaldgfaa
