/-
  The document's Next.
-/
import Derived.Test.YtdfcdgjmjionbaaUe
namespace Go.Proofs.Ytdfcdgjmjionbaa
open Go.RowKit Go.Lib

set_option maxRecDepth 10000 in
theorem rpost_full {w : World} {base rq : Nat} {ls : List (List Jb)} {F : Nat → Prop} (h : RefS w base rq ls F) (i : Nat) (l : List Jb) (hi : ls[i]? = some l) (hl : 4096 ≤ l.length) (x : Jb) :
    Calls Try.prog 13 #[.pointer (some ⟨rq, 0, none⟩), .int .i64 i, x.val] w fun e w' => e = .returned (.int .i64 9) ∧ Below w.heap.size w w' := by
  obtain ⟨rows, ps, hF, h6, h7, h8, h9, h10⟩ := h.lies
  have hlen := h.len
  have hil := (List.getElem?_eq_some_iff.1 hi).1
  obtain ⟨p, hp⟩ : ∃ p, ps[i]? = some p := ⟨_, List.getElem?_eq_getElem (by omega)⟩
  obtain ⟨hpa, hpx, hpF⟩ := h9 i p hp
  have hlx : l = p.xs := by rw [hi] at hpx; exact Option.some.inj hpx
  subst hlx
  have hnb : Below w.heap.size w (w.alloc (.cells #[.int .i64 2, .slice none 0 0, .slice (some ⟨x.b, 0, none⟩) 1 1] 34)) := below_new w _
  generalize hw0 : w.alloc (.cells #[.int .i64 2, .slice none 0 0, .slice (some ⟨x.b, 0, none⟩) 1 1] 34) = w0 at *
  have k0 : w0.cell? ⟨rq, 0, none⟩ = some (.slice (some ⟨rows, 0, none⟩) 4 4) := (cell_of_row _ _ 0 _ _ _ ((hnb.block rq (lt_of_block h6)).trans h6)).trans (by rfl)
  have k1 : w0.cell? ⟨rows, i, none⟩ = some (.slice p.a p.xs.length p.cap) := by
    rw [cell_of_row _ _ i _ _ _ ((hnb.block rows (lt_of_block h8)).trans h8)]
    simp [hp, PartM.val]
  have hi4 : ¬ (3 : Int) < (i : Int) := by omega
  have hi5 : (i : Int) < 4 := by omega
  have hi0 : (0 : Int) ≤ (i : Int) := by omega
  obtain ⟨L, hL, hll⟩ : ∃ L : Int, (p.xs.length : Int) = L ∧ 4096 ≤ L := ⟨_, rfl, by omega⟩
  have HNB := hide hnb
  generalize hn : p.xs.length = n at *
  clear h hi hl hF h6 h7 h8 h9 h10 hp hpa hpx hpF hlen hil hnb
  unfold Jb.val
  go_enter Try.func13, Try.ntmps13
  go_wp2
  go_ret
  exact ⟨rfl, unhide HNB⟩

/-- The first of a list is gone. -/
def PartM.tail (p : PartM) (l : List Jb) : PartM := ⟨if p.cap = 1 then p.a else p.a.map (·.add 3), p.cap - 1, l⟩
theorem run_tail (p : PartM) (y : Jb) (l : List Jb) (hx : p.xs = y :: l) (W : World) : (Instr.slice 67 (.slice p.a p.xs.length p.cap) (some (.int .i64 1)) none none).run Try.prog W = .ok (p.tail l).val W := by
  have he : Try.prog.elem 67 = 34 := by kernel_rfl
  have hu : Try.prog.underlying 67 = some (.slice (Try.prog.elem 67)) := by rw [he]; exact Try.underlying67
  rw [run_slice_l W 67 p.a p.xs.length p.cap hu .i64 1 (by omega) (by rw [hx]; simp; omega)]
  have hs : (sizeOf (Try.prog.elem 67)).run Try.prog W = .ok 3 W := by kernel_rfl
  rw [hs]
  simp [Result.andThen, sliced, PartM.tail, PartM.val, hx]
theorem PartAt.tail {w : World} {base : Nat} {p : PartM} (h : PartAt w base p) {y : Jb} {l : List Jb} (hx : p.xs = y :: l) : PartAt w base (p.tail l) ∧ ((p.tail l).own = none ∨ (p.tail l).own = p.own) := by
  have hlen := h.len
  rw [hx] at hlen
  simp at hlen
  have hmost := h.most
  by_cases h1 : p.cap = 1
  · refine ⟨⟨by simp [PartM.tail]; omega, by simp only [PartM.tail]; omega, .inl (by simp [PartM.tail, h1])⟩, .inl ?_⟩
    simp [PartM.own, PartM.tail, h1]
  · rcases h.lies with hz | ⟨g, off, cur, ha, hb, hg, hsz, hc⟩
    · omega
    · have hadd : (⟨g, off, none⟩ : Addr).add 3 = ⟨g, off + 3, none⟩ := add_at g off 3
      refine ⟨⟨by simp [PartM.tail]; omega, by simp only [PartM.tail]; omega, .inr ⟨g, off + 3, cur, ?_, hb, hg, ?_, fun j u hj => ?_⟩⟩, .inr ?_⟩
      · simp only [PartM.tail]
        rw [if_neg h1, ha]
        simp [hadd]
      · simp only [PartM.tail]
        omega
      · have := hc (3 + j) u (by
          rw [hx]
          have e : rowT (y :: l) = y.cells ++ rowT l := rfl
          rw [e, List.getElem?_append_right (by simp [Jb.cells])]
          simpa [Jb.cells, PartM.tail] using hj)
        rw [show off + 3 + j = off + (3 + j) by omega]
        exact this
      · have c0 : ¬ p.cap - 1 = 0 := by omega
        have c1 : ¬ p.cap = 0 := by omega
        simp [PartM.own, PartM.tail, h1, c0, c1, ha, hadd]
/-- A row's slice has lost its first. -/
theorem RefS.cut {w : World} {base rq : Nat} {ls : List (List Jb)} {F : Nat → Prop} (h : RefS w base rq ls F) {i : Nat} {y : Jb} {l : List Jb} (hi : ls[i]? = some (y :: l))
    {rows : Nat} {ps : List PartM} (hF : F rows) (h6 : w.heap[rq]? = some (.cells #[.slice (some ⟨rows, 0, none⟩) 4 4] 62 (0, 0))) (h7 : ps.length = 4) (h8 : w.heap[rows]? = some (.cells (ps.map PartM.val).toArray 67 (0, 0)))
    (h9 : ∀ (i : Nat) p, ps[i]? = some p → PartAt w base p ∧ ls[i]? = some p.xs ∧ ∀ k, p.own = some k → F k)
    (h10 : ∀ (i j : Nat) p q k, ps[i]? = some p → ps[j]? = some q → p.own = some k → q.own = some k → i = j) {p : PartM} (hp : ps[i]? = some p) :
    RefS (w.setCell ⟨rows, i, none⟩ (p.tail l).val) base rq (ls.set i l) F ∧ Mod F w (w.setCell ⟨rows, i, none⟩ (p.tail l).val) := by
  have hil := (List.getElem?_eq_some_iff.1 hi).1
  have hpl := (List.getElem?_eq_some_iff.1 hp).1
  obtain ⟨hpa, hpx, hpF⟩ := h9 i p hp
  have hxs : p.xs = y :: l := by rw [hi] at hpx; exact (Option.some.inj hpx).symm
  obtain ⟨ht1, ht2⟩ := hpa.tail hxs
  have hto : ∀ k, (p.tail l).own = some k → p.own = some k := fun k hk => by
    rcases ht2 with e | e
    · rw [e] at hk; cases hk
    · rw [← e]; exact hk
  have far : ∀ k (a : Array Value) (t : TypeId), w.heap[k]? = some (Obj.cells a t (0, 0)) → t ≠ 67 → (w.setCell ⟨rows, i, none⟩ (p.tail l).val).heap[k]? = some (Obj.cells a t (0, 0)) := fun k a t hk h2 =>
    (Below.heap_setCell _ _ _ _ (types_ne hk h8 h2)).trans hk
  have keep : ∀ q, PartAt w base q → PartAt (w.setCell ⟨rows, i, none⟩ (p.tail l).val) base q := fun q hq => hq.kept fun k hk => by
    obtain ⟨_, _, cur, hc⟩ := hq.own_lt hk
    exact Below.heap_setCell _ _ _ _ (types_ne hc h8 (by decide))
  refine ⟨⟨fun k hk => ⟨(h.lt k hk).1, by simpa using (h.lt k hk).2⟩, h.own, by rw [List.length_set]; exact h.len, fun m hm' => ?_, fun m hm' z hz => ?_, rows, ps.set i (p.tail l), hF, far rq _ _ h6 (by decide), by rw [List.length_set]; exact h7, ?_, fun j q hq => ?_, fun j k q r b hq hr hqo hro => ?_⟩, Mod.setCell _ _ _ hF⟩
  · rcases List.mem_or_eq_of_mem_set hm' with h1 | rfl
    · exact h.small m h1
    · have := h.small _ (List.mem_of_getElem? hi)
      simp at this
      omega
  · rcases List.mem_or_eq_of_mem_set hm' with h1 | rfl
    · exact ⟨(h.jobs m h1 z hz).1, far _ _ _ (h.jobs m h1 z hz).2 (by decide)⟩
    · have := h.jobs _ (List.mem_of_getElem? hi) z (List.mem_cons_of_mem _ hz)
      exact ⟨this.1, far _ _ _ this.2 (by decide)⟩
  · rw [heap_setCell_same _ _ _ _ _ (p.tail l).val h8]
    congr 2
    rw [List.setIfInBounds_toArray, List.map_set]
  · by_cases e : i = j
    · subst e
      rw [List.getElem?_set_self hpl] at hq
      cases hq
      exact ⟨keep _ ht1, by rw [List.getElem?_set_self hil]; rfl, fun k hk => hpF k (hto k hk)⟩
    · rw [List.getElem?_set_ne e] at hq
      obtain ⟨h1, h2, h3⟩ := h9 j q hq
      exact ⟨keep _ h1, by rw [List.getElem?_set_ne e]; exact h2, h3⟩
  · have back : ∀ (j : Nat) q, (ps.set i (p.tail l))[j]? = some q → q.own = some b → ∃ q', ps[j]? = some q' ∧ q'.own = some b := fun j q hq hb => by
      by_cases e : i = j
      · subst e
        rw [List.getElem?_set_self hpl] at hq
        cases hq
        exact ⟨p, hp, hto b hb⟩
      · rw [List.getElem?_set_ne e] at hq
        exact ⟨q, hq, hb⟩
    obtain ⟨q1, a1, a2⟩ := back j q hq hqo
    obtain ⟨q2, a3, a4⟩ := back k r hr hro
    exact h10 j k q1 q2 b a1 a3 a2 a4
theorem tk_ret15 {W : World} {b : Nat} {x : TkV} (h : W.heap[b]? = some (.cells x.cells 34 (0, 0))) (tmps : Array Value) {y z : Value} (h4 : tmps.getD 4 undef = .pointer (some ⟨b, 0, none⟩)) (h5 : tmps.getD 5 undef = y) (h6 : tmps.getD 6 undef = z) :
    (results Try.f15 tmps).run Try.prog W = .ok (.tuple #[x.val, y, z]) W := by
  have h2 := run_loadVar_row W b 34 34 x.cells (0, 0) _ h Try.underlying34 rfl (by kernel_rfl)
  simp only [results, Try.results15]
  subst h5 h6
  simp only [Array.getD_eq_getD_getElem?] at h4
  simp [Result.andThen, h4, asAddr, h2, TkV.val]

theorem rnext_none (rq : Nat) (pick : Int) (w : World) (HR : Hid (∀ W, Below w.heap.size w W → Calls Try.prog 21 #[.pointer (some ⟨rq, 0, none⟩)] W fun e w' => ∃ a c, e = .returned (.slice a 0 c) ∧ Below W.heap.size W w')) :
    Calls Try.prog 15 #[.pointer (some ⟨rq, 0, none⟩), .int .i64 pick] w fun e w' => e = .returned (.tuple #[tkZ.val, .int .i64 0, .bool false]) ∧ Below w.heap.size w w' := by
  have HB0 := hide (below_new w (.cells #[.int .i64 0, .slice none 0 0, .slice none 0 0] 34))
  have HX0 := hide (heap_alloc_new w (.cells #[.int .i64 0, .slice none 0 0, .slice none 0 0] 34))
  go_enter Try.func15, Try.ntmps15
  go_wp2_with (go_at_call 21; fail)
  refine (unhide HR _ (unhide HB0)).mono ?_
  rintro e w1 ⟨a, cp, rfl, hb⟩
  have HB := hide ((unhide HB0).trans (hb.mono (unhide HB0).size))
  have hq := (hb.block w.heap.size (lt_of_block (unhide HX0))).trans (unhide HX0)
  have HX1 := hide hq
  have k0 := (cell_of_row _ _ 0 _ _ _ hq).trans (by rfl : _ = some (.int .i64 0))
  have k1 := (cell_of_row _ _ 1 _ _ _ hq).trans (by rfl : _ = some (.slice none 0 0))
  have k2 := (cell_of_row _ _ 2 _ _ _ hq).trans (by rfl : _ = some (.slice none 0 0))
  have kf : ∀ j, w1.frozen? ⟨w.heap.size, j, none⟩ = false := fun j => by simp [World.frozen?, hq]
  clear hb hq
  go_wp2
  have h1 := heap_setCell_same _ w.heap.size 0 _ _ (.int .i64 0) (unhide HX1)
  have h2 := heap_setCell_same _ w.heap.size 1 _ _ (.slice none 0 0) h1
  have h3 := heap_setCell_same _ w.heap.size 2 _ _ (.slice none 0 0) h2
  have hb3 := (((unhide HB).setCell (p := ⟨w.heap.size, 0, none⟩) (Nat.le_refl _) (.int .i64 0)).setCell (p := ⟨w.heap.size, 1, none⟩) (Nat.le_refl _) (.slice none 0 0)).setCell (p := ⟨w.heap.size, 2, none⟩) (Nat.le_refl _) (.slice none 0 0)
  exact bodyPost_ret (v := .tuple #[tkZ.val, .int .i64 0, .bool false]) (tk_ret15 (x := tkZ) h3 _ rfl rfl rfl) rfl ⟨rfl, hb3⟩
end Go.Proofs.Ytdfcdgjmjionbaa
