/-
  The document's queue in memory; New, Len.
-/
import Derived.Test.YtdfcdgjmjionbaaUa
namespace Go.Proofs.Ytdfcdgjmjionbaa
open Go.RowKit Go.Lib

def jobArr (n : Int) : Array Value := #[.int .i64 0, .int .i64 n, .int .i64 0, .int .i64 0, .string ⟨#[]⟩, .string ⟨#[]⟩]
/-- The block of a job's act. -/
def JobAt (w : World) (b : Nat) (n : Int) : Prop := w.heap[b]? = some (.cells (jobArr n) 66 (0, 0))
def lenT (ls : List (List Jb)) : Nat := (ls.map List.length).sum
/-- A queue of the document's: what waits of each source. -/
structure RefS (w : World) (base rq : Nat) (ls : List (List Jb)) (F : Nat → Prop) : Prop where
  lt : ∀ k, F k → base ≤ k ∧ k < w.heap.size
  own : F rq
  len : ls.length = 4
  small : ∀ l ∈ ls, l.length ≤ 4096
  jobs : ∀ l ∈ ls, ∀ x ∈ l, F x.b ∧ JobAt w x.b x.n
  lies : ∃ (rows : Nat) (ps : List PartM), F rows ∧ w.heap[rq]? = some (.cells #[.slice (some ⟨rows, 0, none⟩) 4 4] 62 (0, 0)) ∧ ps.length = 4 ∧ w.heap[rows]? = some (.cells (ps.map PartM.val).toArray 67 (0, 0)) ∧
    (∀ (i : Nat) p, ps[i]? = some p → PartAt w base p ∧ ls[i]? = some p.xs ∧ ∀ k, p.own = some k → F k) ∧
    (∀ (i j : Nat) p q k, ps[i]? = some p → ps[j]? = some q → p.own = some k → q.own = some k → i = j)

section
variable {w w' : World} {F G : Nat → Prop} {base rq : Nat} {ls : List (List Jb)}
theorem RefS.mod (h : RefS w base rq ls F) (hm : Mod G w w') (hd : ∀ k, F k → ¬ G k) : RefS w' base rq ls F := by
  obtain ⟨h0, h1, h2, h3, h4, rows, ps, h5, h6, h7, h8, h9, h10⟩ := h
  exact ⟨fun k hk => ⟨(h0 k hk).1, Nat.lt_of_lt_of_le (h0 k hk).2 hm.size⟩, h1, h2, h3, fun l hl x hx => ⟨(h4 l hl x hx).1, (hm.block _ (lt_of_block (h4 l hl x hx).2) (hd _ (h4 l hl x hx).1)).trans (h4 l hl x hx).2⟩,
    rows, ps, h5, (hm.block rq (lt_of_block h6) (hd _ h1)).trans h6, h7, (hm.block rows (lt_of_block h8) (hd _ h5)).trans h8, fun i p hp => ⟨(h9 i p hp).1.mod hm (fun k hk => hd k ((h9 i p hp).2.2 k hk)), (h9 i p hp).2⟩, h10⟩
theorem RefS.below (h : RefS w base rq ls F) (hb : Below w.heap.size w w') : RefS w' base rq ls F := h.mod (G := fun _ => False) (Mod.of_below hb) (fun _ _ e => e)
end

theorem mk60 (W : World) : (Instr.makeSlice 60 (.int .i64 4) (.int .i64 4)).run Try.prog W = .ok (.slice (some ⟨W.heap.size, 0, none⟩) 4 4) (W.alloc (.cells #[.slice none 0 0, .slice none 0 0, .slice none 0 0, .slice none 0 0] 67)) := by kernel_rfl
theorem rnew_any (w : World) (base : Nat) (hbase : base ≤ w.heap.size) : Calls Try.prog 10 #[] w fun e w' => ∃ rq F, e = .returned (.pointer (some ⟨rq, 0, none⟩)) ∧ RefS w' base rq [[], [], [], []] F ∧ Below w.heap.size w w' ∧ (∀ k, F k → w.heap.size ≤ k) := by
  have hmk := mk60
  have hb : Below w.heap.size w ((w.alloc (.cells #[.slice none 0 0, .slice none 0 0, .slice none 0 0, .slice none 0 0] 67)).alloc (.cells #[.slice (some ⟨w.heap.size, 0, none⟩) 4 4] 62)) := (below_new w _).alloc (by simp) _
  have h1 := heap_alloc_new w (.cells #[.slice none 0 0, .slice none 0 0, .slice none 0 0, .slice none 0 0] 67)
  have h2 := (Below.heap_alloc (w.alloc (.cells #[.slice none 0 0, .slice none 0 0, .slice none 0 0, .slice none 0 0] 67)) (.cells #[.slice (some ⟨w.heap.size, 0, none⟩) 4 4] 62) w.heap.size (lt_of_block h1)).trans h1
  have h3 := heap_alloc_new (w.alloc (.cells #[.slice none 0 0, .slice none 0 0, .slice none 0 0, .slice none 0 0] 67)) (.cells #[.slice (some ⟨w.heap.size, 0, none⟩) 4 4] 62)
  simp only [World.size_alloc] at h3
  have HR : Hid (RefS ((w.alloc (.cells #[.slice none 0 0, .slice none 0 0, .slice none 0 0, .slice none 0 0] 67)).alloc (.cells #[.slice (some ⟨w.heap.size, 0, none⟩) 4 4] 62)) base (w.heap.size + 1) [[], [], [], []] (fun k => w.heap.size ≤ k ∧ k < w.heap.size + 2)) := hide (by
    refine ⟨fun k hk => ⟨by omega, by simp; omega⟩, ⟨by omega, by omega⟩, rfl, fun l hl => ?_, fun l hl x hx => ?_, w.heap.size, [⟨none, 0, []⟩, ⟨none, 0, []⟩, ⟨none, 0, []⟩, ⟨none, 0, []⟩], ⟨by omega, by omega⟩, h3, rfl, h2, fun i p hp => ?_, fun i j p q k hp _ hk _ => ?_⟩
    · simp at hl
      subst hl
      simp
    · simp at hl
      subst hl
      cases hx
    · have hi : i < 4 := by have := (List.getElem?_eq_some_iff.1 hp).1; simpa using this
      have hpe : p = ⟨none, 0, []⟩ := by rcases (by omega : i = 0 ∨ i = 1 ∨ i = 2 ∨ i = 3) with rfl | rfl | rfl | rfl <;> simpa using hp.symm
      subst hpe
      refine ⟨PartAt.nil _ _ _, ?_, fun k hk => by simp [PartM.own] at hk⟩
      rcases (by omega : i = 0 ∨ i = 1 ∨ i = 2 ∨ i = 3) with rfl | rfl | rfl | rfl <;> rfl
    · have hi : i < 4 := by have := (List.getElem?_eq_some_iff.1 hp).1; simpa using this
      have hpe : p = ⟨none, 0, []⟩ := by rcases (by omega : i = 0 ∨ i = 1 ∨ i = 2 ∨ i = 3) with rfl | rfl | rfl | rfl <;> simpa using hp.symm
      subst hpe
      simp [PartM.own] at hk)
  have HB := hide hb
  clear hb h1 h2 h3
  go_enter Try.func10, Try.ntmps10
  go_wp2
  go_ret
  exact ⟨_, _, rfl, unhide HR, unhide HB, fun k hk => hk.1⟩

theorem rlen_any {w : World} {base rq : Nat} {ls : List (List Jb)} {F : Nat → Prop} (h : RefS w base rq ls F) : Calls Try.prog 18 #[.pointer (some ⟨rq, 0, none⟩)] w fun e w' => e = .returned (.int .i64 (lenT ls)) ∧ w' = w := by
  obtain ⟨_, _, hlen, hsm, _, rows, ps, _, h6, h7, h8, h9, _⟩ := h
  have k0 : w.cell? ⟨rq, 0, none⟩ = some (.slice (some ⟨rows, 0, none⟩) 4 4) := (cell_of_row _ _ 0 _ _ _ h6).trans (by rfl)
  have HC : Hid (∀ (i : Nat), i < 4 → ∃ a n c, w.cell? ⟨rows, i, none⟩ = some (.slice a n c) ∧ n ≤ 4096 ∧ ((ls.take (i + 1)).map List.length).sum = ((ls.take i).map List.length).sum + n) := hide fun i hi => by
    have hp : ps[i]? = some ps[i] := List.getElem?_eq_getElem (by omega)
    obtain ⟨_, hl, _⟩ := h9 i _ hp
    refine ⟨ps[i].a, ps[i].xs.length, ps[i].cap, ?_, hsm _ (List.mem_of_getElem? hl), ?_⟩
    · rw [cell_of_row _ _ i _ _ _ h8]
      simp [PartM.val, List.getElem?_eq_getElem (show i < ps.length by omega)]
    · obtain ⟨hlt, he⟩ := List.getElem?_eq_some_iff.1 hl
      rw [List.take_succ_eq_append_getElem hlt, he]
      simp
  have HL : Hid (lenT ls = ((ls.take 4).map List.length).sum) := hide (by rw [List.take_of_length_le (by omega)]; rfl)
  clear h6 h7 h8 h9 hlen hsm
  go_enter Try.func18, Try.ntmps18
  go_wp2
  go_loopg [3, 4] 4 (fun k s3 s4 wx => ∃ (i m : Nat) (z M : Int), s4 = .int .i64 z ∧ i + k = 4 ∧ z = (i : Int) ∧ s3 = .int .i64 M ∧ M = (m : Int) ∧ m = ((ls.take i).map List.length).sum ∧ m ≤ 4096 * i ∧ wx = w)
  case atStart => exact ⟨0, 0, 0, 0, rfl, by omega, rfl, rfl, rfl, by simp, by omega, rfl⟩
  case round =>
    obtain ⟨i, m, z, M, rfl, hik, hz, rfl, hM, hm, hmb, rfl⟩ := hrel
    by_cases hi : i < 4
    · obtain ⟨a, n, c, hc, hn, hs⟩ := unhide HC i hi
      have hz4 : z < 4 := by omega
      have hz0 : 0 ≤ z := by omega
      have hzt : z.toNat = i := by omega
      have hw : IntKind.i64.wrap (M + n) = M + n := wrap_fit _ (by omega) (by omega)
      have HZ := hide (And.intro hz hik)
      have HM := hide (And.intro hM (And.intro hm hmb))
      have HN := hide (And.intro hn hs)
      clear hi hik hz hM hm hmb hn hs
      go_wp2
      go_roundg (gk - 1)
      case measure => have := (unhide HZ).2; omega
      case rel => exact ⟨i + 1, m + n, _, M + n, by go_num, by have := (unhide HZ); omega, by have := (unhide HZ); omega, rfl, by have := (unhide HM); omega, by rw [(unhide HN).2, (unhide HM).2.1], by have := unhide HM; have := unhide HN; omega, rfl⟩
    · obtain rfl : i = 4 := by omega
      have hz4 : ¬ z < 4 := by omega
      have HE : Hid (M = ((lenT ls : Nat) : Int)) := hide (by rw [unhide HL, hM, hm])
      clear hi hik hz hM hm hmb
      go_wp2
      go_ret
      exact ⟨by rw [unhide HE]; rfl, rfl⟩
end Go.Proofs.Ytdfcdgjmjionbaa
